/-
  Numbers as they are written. Plain mathematics; own work.
-/
namespace Go.Proofs.YtnecjeambpikdaaGreatDoor

/-- What a byte is as a digit: 0 to 9, a to f. -/
def digOf (c : UInt8) : Option Nat :=
  if 48 ≤ c.toNat ∧ c.toNat ≤ 57 then some (c.toNat - 48) else if 97 ≤ c.toNat ∧ c.toNat ≤ 102 then some (c.toNat - 87) else none
/-- What a row of digits is in a base, behind a number. -/
def valB (base : Nat) : Nat → List UInt8 → Option Nat
  | acc, [] => some acc
  | acc, c :: r => match digOf c with
    | none => none
    | some d => if d < base then valB base (acc * base + d) r else none

theorem valB_ge (base : Nat) (hb : 1 ≤ base) : ∀ (l : List UInt8) (acc m : Nat), valB base acc l = some m → acc ≤ m
  | [], acc, m, h => by simp [valB] at h; omega
  | c :: r, acc, m, h => by
    rw [valB] at h
    cases hd : digOf c with
    | none => simp [hd] at h
    | some d =>
      simp only [hd] at h
      split at h
      · have := valB_ge base hb r _ m h
        have h2 : acc ≤ acc * base := Nat.le_mul_of_pos_right acc hb
        omega
      · cases h

theorem valB_cons {base acc d : Nat} {c : UInt8} {r : List UInt8} (hd : digOf c = some d) (h : d < base) : valB base acc (c :: r) = valB base (acc * base + d) r := by
  rw [valB, hd]; simp [h]
theorem valB_none {base acc : Nat} {c : UInt8} {r : List UInt8} (hd : ∀ d, digOf c = some d → ¬ d < base) : valB base acc (c :: r) = none := by
  rw [valB]
  cases h : digOf c with
  | none => rfl
  | some d => simp [hd d h]

/-- A digit of base 16 as a byte. -/
def hexd (k : Nat) : UInt8 := if k < 10 then UInt8.ofNat (48 + k) else UInt8.ofNat (87 + k)
/-- A number in base 16, at most f + 1 digits. -/
def hexF : Nat → Nat → List UInt8
  | 0, n => [hexd (n % 16)]
  | f + 1, n => if n < 16 then [hexd n] else hexF f (n / 16) ++ [hexd (n % 16)]
def hexOf (n : Nat) : List UInt8 := hexF 6 n

theorem hexF_small (f n : Nat) (h : n < 16) : hexF f n = [hexd n] := by
  cases f with
  | zero => rw [hexF, Nat.mod_eq_of_lt h]
  | succ f => rw [hexF, if_pos h]
theorem hexF_big (f n : Nat) (h : ¬ n < 16) : hexF (f + 1) n = hexF f (n / 16) ++ [hexd (n % 16)] := by rw [hexF, if_neg h]
theorem hexF_length (f n : Nat) : 1 ≤ (hexF f n).length ∧ (hexF f n).length ≤ f + 1 := by
  induction f generalizing n with
  | zero => simp [hexF]
  | succ f ih =>
    rw [hexF]
    split
    · simp
    · have := ih (n / 16); simp; omega

end Go.Proofs.YtnecjeambpikdaaGreatDoor
