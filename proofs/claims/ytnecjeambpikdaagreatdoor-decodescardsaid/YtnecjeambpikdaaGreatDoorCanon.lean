/-
  Numbers without needless noughts. Plain mathematics; own work.
-/
import Derived.Test.YtnecjeambpikdaaGreatDoorDigits
import Derived.Lib.ItoaNum
namespace Go.Proofs.YtnecjeambpikdaaGreatDoor

/-- A row of digits that is a number as it is written. -/
structure Canon (base n : Nat) (l : List UInt8) : Prop where
  pos : 0 < l.length
  len : l.length ≤ 8
  digs : ∀ c ∈ l, ∃ d, digOf c = some d ∧ d < base
  val : valB base 0 l = some n
  head : 1 ≤ n → l.head? ≠ some 48

theorem valB_append (base : Nat) : ∀ (l r : List UInt8) (acc : Nat), valB base acc (l ++ r) = (valB base acc l).bind fun a => valB base a r
  | [], r, acc => by simp [valB]
  | c :: l, r, acc => by
    rw [List.cons_append, valB, valB]
    cases digOf c with
    | none => rfl
    | some d =>
      simp only
      split
      · exact valB_append base l r _
      · rfl

theorem hexd_dig : ∀ k : Fin 16, digOf (hexd k.val) = some k.val := by decide +kernel
theorem hexd_ne : ∀ k : Fin 16, 1 ≤ k.val → hexd k.val ≠ 48 := by decide +kernel
theorem hexd_dig' (k : Nat) (h : k < 16) : digOf (hexd k) = some k := hexd_dig ⟨k, h⟩
theorem dec_dig_all : ∀ k : Fin 10, digOf (UInt8.ofNat (48 + k.val)) = some k.val := by decide +kernel
theorem dec_dig' (k : Nat) (h : k < 10) : digOf (UInt8.ofNat (48 + k)) = some k := dec_dig_all ⟨k, h⟩
theorem dec_ne : ∀ k : Fin 10, 1 ≤ k.val → UInt8.ofNat (48 + k.val) ≠ 48 := by decide +kernel

theorem head_append {α : Type} {l r : List α} (h : 0 < l.length) : (l ++ r).head? = l.head? := by
  cases l with
  | nil => simp at h
  | cons a l => rfl

theorem hexF_canon : ∀ (f n : Nat), n < 16 ^ (f + 1) → (∀ c ∈ hexF f n, ∃ d, digOf c = some d ∧ d < 16) ∧ valB 16 0 (hexF f n) = some n ∧ (1 ≤ n → (hexF f n).head? ≠ some 48)
  | f, n, h => by
    by_cases hn : n < 16
    · rw [hexF_small f n hn]
      refine ⟨?_, ?_, ?_⟩
      · intro c hc
        simp at hc
        subst hc
        exact ⟨n, hexd_dig' n hn, hn⟩
      · rw [valB_cons (hexd_dig' n hn) hn, valB]; simp
      · intro h1
        simp only [List.head?_cons, ne_eq, Option.some.injEq]
        exact hexd_ne ⟨n, hn⟩ h1
    · cases f with
      | zero => simp at h; omega
      | succ f =>
        have h' : n / 16 < 16 ^ (f + 1) := by
          rw [Nat.pow_succ] at h
          exact Nat.div_lt_of_lt_mul (by rw [Nat.mul_comm]; exact h)
        obtain ⟨i1, i2, i3⟩ := hexF_canon f (n / 16) h'
        have hm : n % 16 < 16 := Nat.mod_lt _ (by decide)
        rw [hexF_big f n hn]
        refine ⟨?_, ?_, ?_⟩
        · intro c hc
          rw [List.mem_append] at hc
          rcases hc with hc | hc
          · exact i1 c hc
          · simp at hc
            subst hc
            exact ⟨n % 16, hexd_dig' (n % 16) hm, hm⟩
        · rw [valB_append, i2, Option.bind_some, valB_cons (hexd_dig' (n % 16) hm) hm, valB]
          congr 1
          omega
        · intro h1
          rw [head_append (hexF_length f (n / 16)).1]
          exact i3 (by omega)

theorem hex_canon (n : Nat) (h : n ≤ 16777215) : Canon 16 n (hexOf n) := by
  obtain ⟨h1, h2, h3⟩ := hexF_canon 6 n (by omega)
  have h4 := hexF_length 6 n
  exact ⟨h4.1, by show (hexF 6 n).length ≤ 8; omega, h1, h2, h3⟩

theorem decD_canon : ∀ (k n : Nat), n < 10 ^ (k + 1) → (0 < (Lib.decDigits n).length ∧ (Lib.decDigits n).length ≤ k + 1) ∧ (∀ c ∈ Lib.decDigits n, ∃ d, digOf c = some d ∧ d < 10) ∧ valB 10 0 (Lib.decDigits n) = some n ∧ (1 ≤ n → (Lib.decDigits n).head? ≠ some 48)
  | k, n, h => by
    by_cases hn : n < 10
    · rw [Lib.decDigits_one hn]
      refine ⟨by simp, ?_, ?_, ?_⟩
      · intro c hc
        rw [List.mem_singleton] at hc
        subst hc
        exact ⟨n, dec_dig' n hn, hn⟩
      · rw [valB_cons (dec_dig' n hn) hn, valB]; simp
      · intro h1
        simp only [List.head?_cons, ne_eq, Option.some.injEq]
        exact dec_ne ⟨n, hn⟩ h1
    · cases k with
      | zero => simp at h; omega
      | succ k =>
        have h' : n / 10 < 10 ^ (k + 1) := by
          rw [Nat.pow_succ] at h
          exact Nat.div_lt_of_lt_mul (by rw [Nat.mul_comm]; exact h)
        obtain ⟨i0, i1, i2, i3⟩ := decD_canon k (n / 10) h'
        have hm : n % 10 < 10 := Nat.mod_lt _ (by decide)
        have e : Lib.decDigits n = Lib.decDigits (n / 10) ++ [UInt8.ofNat (48 + n % 10)] := by rw [Lib.decDigits, dif_neg hn]
        rw [e]
        refine ⟨by simp; omega, ?_, ?_, ?_⟩
        · intro c hc
          rw [List.mem_append] at hc
          rcases hc with hc | hc
          · exact i1 c hc
          · rw [List.mem_singleton] at hc
            subst hc
            exact ⟨n % 10, dec_dig' (n % 10) hm, hm⟩
        · rw [valB_append, i2, Option.bind_some, valB_cons (dec_dig' (n % 10) hm) hm, valB]
          congr 1
          omega
        · intro h1
          rw [head_append i0.1]
          exact i3 (by omega)

theorem dec_canon (n : Nat) (h : n ≤ 16777215) : Canon 10 n (Lib.decDigits n) := by
  obtain ⟨h0, h1, h2, h3⟩ := decD_canon 7 n (by omega)
  exact ⟨h0.1, h0.2, h1, h2, h3⟩

theorem itoa_nat (n : Nat) : Lib.itoa (n : Int) = Lib.decDigits n := by simp [Lib.itoa]

/-- No digit is a sign of a table's text. -/
theorem Canon.no {base n : Nat} {l : List UInt8} (h : Canon base n l) {c : UInt8} (hc : digOf c = none) : c ∉ l := by
  intro hm
  obtain ⟨d, hd, _⟩ := h.digs c hm
  rw [hc] at hd
  cases hd

end Go.Proofs.YtnecjeambpikdaaGreatDoor
