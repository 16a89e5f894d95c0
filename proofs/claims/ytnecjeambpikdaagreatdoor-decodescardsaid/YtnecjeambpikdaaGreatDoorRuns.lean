/-
  How the document's own reader takes a number. Plain mathematics; own work.
-/
import Derived.Test.YtnecjeambpikdaaGreatDoorTab
namespace Go.Proofs.YtnecjeambpikdaaGreatDoor

/-- What stands at the beginning of a text: the number, and how many digits it has (of so many that are looked at). -/
def runB (base : Nat) : Nat → Nat → List UInt8 → Nat × Nat
  | 0, acc, _ => (acc, 0)
  | _ + 1, acc, [] => (acc, 0)
  | f + 1, acc, c :: l => match digOf c with
    | none => (acc, 0)
    | some d => if d < base then ((runB base f (base * acc + d) l).1, (runB base f (base * acc + d) l).2 + 1) else (acc, 0)

/-- A number as it is written in a base. -/
def digs (base n : Nat) : List UInt8 := if base = 16 then hexOf n else Lib.decDigits n
theorem digs_canon (base n : Nat) (hb : base = 10 ∨ base = 16) (h : n ≤ 16777215) : Canon base n (digs base n) := by
  rcases hb with rfl | rfl
  · exact dec_canon n h
  · exact hex_canon n h

theorem digOf_inj {a b : UInt8} {d : Nat} (ha : digOf a = some d) (hb : digOf b = some d) : a = b := by
  unfold digOf at ha hb
  refine UInt8.toNat_inj.1 ?_
  split at ha
  · split at hb
    · injection ha; injection hb; omega
    · split at hb
      · injection ha; injection hb; omega
      · cases hb
  · split at ha
    · split at hb
      · injection ha; injection hb; omega
      · split at hb
        · injection ha; injection hb; omega
        · cases hb
    · cases ha

theorem dig_zero {c : UInt8} (h : digOf c = some 0) : c = 48 := digOf_inj h (by decide)

theorem valB_pos (base : Nat) (hb : 1 ≤ base) {c : UInt8} {l : List UInt8} {n : Nat} (hc : c ≠ 48) (h : valB base 0 (c :: l) = some n) : 1 ≤ n := by
  rw [valB] at h
  cases hd : digOf c with
  | none => rw [hd] at h; cases h
  | some d =>
    rw [hd] at h
    simp only at h
    have hd0 : d ≠ 0 := fun e => hc (dig_zero (e ▸ hd))
    split at h
    · have := valB_ge base hb _ _ _ h
      omega
    · cases h

/-- A row of digits without needless noughts. -/
def NoNought (l : List UInt8) : Prop := 1 < l.length → l.head? ≠ some 48

theorem valB_snoc {base : Nat} {l : List UInt8} {c : UInt8} {n : Nat} (h : valB base 0 (l ++ [c]) = some n) : ∃ m d, valB base 0 l = some m ∧ digOf c = some d ∧ d < base ∧ n = m * base + d := by
  rw [valB_append] at h
  cases hm : valB base 0 l with
  | none => rw [hm] at h; cases h
  | some m =>
    rw [hm, Option.bind_some, valB] at h
    cases hd : digOf c with
    | none => rw [hd] at h; cases h
    | some d =>
      rw [hd] at h
      simp only at h
      split at h
      · rename_i hlt
        rw [valB] at h
        injection h with h
        exact ⟨m, d, rfl, rfl, hlt, h.symm⟩
      · cases h

theorem nought_take {l : List UInt8} {c : UInt8} (h : NoNought (l ++ [c])) : NoNought l := by
  intro hl
  have := h (by simp; omega)
  rwa [head_append (by omega)] at this

/-- A number is written in one way alone. -/
theorem canon_unique (base : Nat) (hb : 2 ≤ base) : ∀ (k : Nat) (l m : List UInt8) (n : Nat), l.length = k → 0 < l.length → 0 < m.length → NoNought l → NoNought m → valB base 0 l = some n → valB base 0 m = some n → l = m
  | 0, l, m, n, hk, h0, _, _, _, _, _ => by omega
  | k + 1, l, m, n, hk, h0, h1, nl, nm, vl, vm => by
    obtain ⟨l', c, rfl⟩ : ∃ l' c, l = l' ++ [c] := ⟨l.dropLast, l.getLast (by intro e; rw [e] at h0; simp at h0), (List.dropLast_concat_getLast _).symm⟩
    obtain ⟨m', e, rfl⟩ : ∃ m' e, m = m' ++ [e] := ⟨m.dropLast, m.getLast (by intro e; rw [e] at h1; simp at h1), (List.dropLast_concat_getLast _).symm⟩
    obtain ⟨a, d, ha, hd, hdb, rfl⟩ := valB_snoc vl
    obtain ⟨a', d', ha', hd', hdb', hn⟩ := valB_snoc vm
    have hdd : d = d' ∧ a = a' := by
      have h1 : (a * base + d) % base = d := by rw [Nat.mul_comm, Nat.mul_add_mod]; exact Nat.mod_eq_of_lt hdb
      have h2 : (a' * base + d') % base = d' := by rw [Nat.mul_comm, Nat.mul_add_mod]; exact Nat.mod_eq_of_lt hdb'
      have h3 : d = d' := by rw [← h1, hn, h2]
      refine ⟨h3, ?_⟩
      rw [h3] at hn
      exact Nat.eq_of_mul_eq_mul_right (by omega) (by omega : a * base = a' * base)
    obtain ⟨rfl, rfl⟩ := hdd
    have hce : c = e := digOf_inj hd hd'
    subst hce
    have hz : ∀ (l : List UInt8), NoNought (l ++ [c]) → valB base 0 l = some 0 → l = [] := by
      intro l hn hv
      cases l with
      | nil => rfl
      | cons x r =>
        exfalso
        have hx : x ≠ 48 := fun e => hn (by simp) (by simp [e])
        have := valB_pos base (by omega) hx hv
        omega
    have he : ∀ (l : List UInt8), l = [] → valB base 0 l = some 0 := fun l h => by rw [h]; rfl
    by_cases hl : l' = []
    · have h2 := he l' hl
      rw [ha] at h2
      rw [h2] at ha'
      rw [hl, hz m' nm ha']
    · have hm : m' ≠ [] := by
        intro e
        have h2 := he m' e
        rw [ha'] at h2
        rw [h2] at ha
        exact hl (hz l' nl ha)
      have hlp : 0 < l'.length := List.length_pos_iff.2 hl
      have hmp : 0 < m'.length := List.length_pos_iff.2 hm
      rw [canon_unique base hb k l' m' a (by simp at hk; omega) hlp hmp (nought_take nl) (nought_take nm) ha ha']

theorem digs_nought (base n : Nat) (hb : base = 10 ∨ base = 16) (h : n ≤ 16777215) : NoNought (digs base n) := by
  rcases Nat.eq_zero_or_pos n with rfl | hn
  · rcases hb with rfl | rfl
    · intro hl
      have e : digs 10 0 = [UInt8.ofNat (48 + 0)] := Lib.decDigits_one (by omega)
      rw [e] at hl
      simp at hl
    · intro hl
      have e : digs 16 0 = [hexd 0] := hexF_small 6 0 (by omega)
      rw [e] at hl
      simp at hl
  · exact fun _ => (digs_canon base n hb h).head hn

theorem runB_spec (base : Nat) : ∀ (f acc : Nat) (l : List UInt8), (runB base f acc l).2 ≤ f ∧ (runB base f acc l).2 ≤ l.length ∧ valB base acc (l.take (runB base f acc l).2) = some (runB base f acc l).1
  | 0, acc, l => by simp [runB, valB]
  | f + 1, acc, [] => by simp [runB, valB]
  | f + 1, acc, c :: l => by
    rw [runB]
    cases hd : digOf c with
    | none => simp [valB]
    | some d =>
      simp only
      split
      · rename_i h
        obtain ⟨h1, h2, h3⟩ := runB_spec base f (base * acc + d) l
        refine ⟨by simp only; omega, by simp only [List.length_cons]; omega, ?_⟩
        simp only [List.take_succ_cons]
        rw [valB_cons hd h, Nat.mul_comm acc base]
        exact h3
      · simp [valB]

theorem runB_full (base : Nat) : ∀ (f acc : Nat) (ds r : List UInt8) (m : Nat), valB base acc ds = some m → ds.length ≤ f → (∀ c r', r = c :: r' → ∀ d, digOf c = some d → ¬ d < base) → runB base f acc (ds ++ r) = (m, ds.length)
  | 0, acc, [], r, m, hv, _, _ => by simp [valB] at hv; simp [runB, hv]
  | 0, acc, c :: ds, r, m, hv, hl, _ => by simp at hl
  | f + 1, acc, [], [], m, hv, _, _ => by simp [valB] at hv; simp [runB, hv]
  | f + 1, acc, [], c :: r, m, hv, _, hr => by
    simp [valB] at hv
    rw [List.nil_append, runB]
    cases hd : digOf c with
    | none => simp [hv]
    | some d => simp [hr c r rfl d hd, hv]
  | f + 1, acc, c :: ds, r, m, hv, hl, hr => by
    rw [valB] at hv
    rw [List.cons_append, runB]
    cases hd : digOf c with
    | none => rw [hd] at hv; cases hv
    | some d =>
      rw [hd] at hv
      simp only at hv
      split at hv
      · rename_i h
        have := runB_full base f (base * acc + d) ds r m (by rw [Nat.mul_comm]; exact hv) (by simp at hl; omega) hr
        simp only [h, if_true, this, List.length_cons]
      · cases hv

/-- The reader's test of a number. -/
def goodB (most : Nat) (l : List UInt8) (x : Nat × Nat) : Bool := !(x.2 == 0 || (decide (x.1 > most) || (decide (x.2 > 1) && l.head? == some 48)))

theorem runB_sound (base most : Nat) (hb : base = 10 ∨ base = 16) (hm : most ≤ 16777215) (l : List UInt8) (h : goodB most l (runB base 9 0 l) = true) :
    l.take (runB base 9 0 l).2 = digs base (runB base 9 0 l).1 ∧ (runB base 9 0 l).1 ≤ most := by
  obtain ⟨h1, h2, h3⟩ := runB_spec base 9 0 l
  generalize runB base 9 0 l = x at *
  obtain ⟨n, i⟩ := x
  simp only [goodB, Bool.not_eq_true', Bool.or_eq_false_iff, Bool.and_eq_false_iff, beq_eq_false_iff_ne, decide_eq_false_iff_not, ne_eq] at h
  obtain ⟨g1, g2, g3⟩ := h
  simp only at h1 h2 h3 g1 g2 g3 ⊢
  have hn : n ≤ 16777215 := by omega
  have hc := digs_canon base n hb hn
  have hti : (l.take i).length = i := by rw [List.length_take]; omega
  refine ⟨canon_unique base (by omega) i _ _ n hti (by omega) hc.pos ?_ (digs_nought base n hb hn) h3 hc.val, by omega⟩
  intro hl e
  rw [hti] at hl
  rcases g3 with g3 | g3
  · omega
  · apply g3
    cases l with
    | nil => simp at h2; omega
    | cons x r =>
      cases i with
      | zero => omega
      | succ i => simpa using e
theorem runB_complete (base most m : Nat) (hb : base = 10 ∨ base = 16) (hm : most ≤ 16777215) (hmm : m ≤ most) (r : List UInt8) (hr : ∀ c r', r = c :: r' → digOf c = none) :
    runB base 9 0 (digs base m ++ r) = (m, (digs base m).length) ∧ goodB most (digs base m ++ r) (m, (digs base m).length) = true := by
  have hc := digs_canon base m hb (by omega)
  have hl := hc.len
  have hp := hc.pos
  refine ⟨runB_full base 9 0 _ r m hc.val (by omega) (fun c r' e d hd => by rw [hr c r' e] at hd; cases hd), ?_⟩
  have hnn := digs_nought base m hb (by omega)
  simp only [goodB, Bool.not_eq_true', Bool.or_eq_false_iff, Bool.and_eq_false_iff, beq_eq_false_iff_ne, decide_eq_false_iff_not, ne_eq]
  refine ⟨by omega, by omega, ?_⟩
  by_cases h1 : 1 < (digs base m).length
  · right
    rw [head_append hp]
    exact hnn h1
  · left; omega

end Go.Proofs.YtnecjeambpikdaaGreatDoor
