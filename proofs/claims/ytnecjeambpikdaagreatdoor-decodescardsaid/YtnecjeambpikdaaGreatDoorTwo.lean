/-
  Rows of pairs: made, and stored into. Own work.
-/
import Derived.Test.YtnecjeambpikdaaGreatDoorSpan
namespace Go.Proofs.YtnecjeambpikdaaGreatDoor
open Go.RowKit

theorem made_two (a b : Value) (n : Nat) : (madeCells #[a, b] (n * 2)).toList = (List.replicate n ()).flatMap fun _ => [a, b] := by
  induction n with
  | zero => simp [madeCells]
  | succ n ih =>
    have e : madeCells #[a, b] ((n + 1) * 2) = madeCells #[a, b] (n * 2) ++ #[a, b] := by
      unfold madeCells
      rw [show (n + 1) * 2 = (n * 2 + 1) + 1 by omega, Array.range_succ, Array.range_succ]
      simp
      rfl
    rw [e, Array.toList_append, ih]
    rw [List.replicate_succ']
    simp
theorem rngs_made (k : IntKind) (n : Nat) : (madeCells #[.int k 0, .int k 0] (n * 2)).toList = rngs k (List.replicate n (0, 0)) := by
  rw [made_two, rngs]
  induction n with
  | zero => rfl
  | succ n ih => simp only [List.replicate_succ, List.flatMap_cons, ih]; rfl
theorem arrs_made (n : Nat) : (madeCells #[.int .i64 0, .bool false] (n * 2)).toList = arrs (List.replicate n (0, false)) := by
  rw [made_two, arrs]
  induction n with
  | zero => rfl
  | succ n ih => simp only [List.replicate_succ, List.flatMap_cons, ih]; rfl
theorem pairs_set {α : Type} (f g : α → Value) : ∀ (l : List α) (k : Nat) (y : α), ((l.flatMap fun x => [f x, g x]).set (k * 2) (f y)).set (k * 2 + 1) (g y) = (l.set k y).flatMap fun x => [f x, g x]
  | [], k, y => by simp
  | x :: l, 0, y => by simp
  | x :: l, k + 1, y => by
    have := pairs_set f g l k y
    simp only [List.flatMap_cons, List.set_cons_succ]
    rw [show (k + 1) * 2 = k * 2 + 2 by omega]
    simp [← this]
theorem rngs_set (i : IntKind) (l : List (Nat × Nat)) (k : Nat) (a b : Nat) : ((rngs i l).set (k * 2) (.int i (a : Int))).set (k * 2 + 1) (.int i (b : Int)) = rngs i (l.set k (a, b)) := pairs_set _ _ l k (a, b)
theorem arrs_set (l : List (Nat × Bool)) (k : Nat) (a : Nat) (b : Bool) : ((arrs l).set (k * 2) (.int .i64 (a : Int))).set (k * 2 + 1) (.bool b) = arrs (l.set k (a, b)) := pairs_set _ _ l k (a, b)
theorem set_next {α : Type} (r : List α) (k N : Nat) (z y : α) (h : r.length = k) (hk : k < N) : (r ++ List.replicate (N - k) z).set k y = (r ++ [y]) ++ List.replicate (N - (k + 1)) z := by
  have e : N - k = (N - (k + 1)) + 1 := by omega
  rw [e, List.replicate_succ]
  subst h
  simp
theorem get_next {α : Type} (r : List α) (k N : Nat) (z : α) (h : r.length = k) (hk : k < N) : (r ++ List.replicate (N - k) z)[k]? = some z := by
  rw [List.getElem?_append_right (by omega), h, Nat.sub_self, List.getElem?_replicate, if_pos (by omega)]

theorem take_step {α : Type} {l : List α} {k : Nat} {x : α} (h : l[k]? = some x) : l.take (k + 1) = l.take k ++ [x] := by rw [List.take_add_one, h]; rfl

theorem info93 : (Tryz.prog.info? 93).map (fun i => (i.zero, i.size, i.bytes)) = some (some (.agg #[.int .i32 0, .int .i32 0]), 2, 8) := by kernel_rfl
theorem info81b : (Tryz.prog.info? 81).map (fun i => (i.zero, i.size, i.bytes)) = some (some (.agg #[.int .i64 0, .bool false]), 2, 16) := by kernel_rfl

/-- What a class' line is. -/
def classLine (l : List (Nat × Nat)) : List UInt8 := joinC 32 (l.map spanText)
def classOk (l : List (Nat × Nat)) : Prop := 1 ≤ l.length ∧ l.length ≤ 6 ∧ ∀ x ∈ l, spanOk x.1 x.2 = true
theorem span_no {x : Nat × Nat} (h : spanOk x.1 x.2 = true) {c : UInt8} (hc : digOf c = none) (h45 : c ≠ 45) : c ∉ spanText x := by
  obtain ⟨l1, l2⟩ := spanOk_le h
  have k1 := hex_canon x.1 (by omega)
  have k2 := hex_canon x.2 (by omega)
  intro hm
  rw [spanText, List.mem_append, List.mem_cons] at hm
  rcases hm with hm | hm | hm
  · exact k1.no hc hm
  · exact h45 hm
  · exact k2.no hc hm

/-- What an arrow is written as. -/
def arrowText (a : Nat × Bool) : List UInt8 := Lib.decDigits a.1 ++ [if a.2 then 47 else 126]
def stateLine (l : List (Nat × Bool)) : List UInt8 := joinC 32 (l.map arrowText)
theorem arrow_no {a : Nat × Bool} (h : a.1 ≤ 16777215) {c : UInt8} (hc : digOf c = none) (h1 : c ≠ 47) (h2 : c ≠ 126) : c ∉ arrowText a := by
  intro hm
  rw [arrowText, List.mem_append, List.mem_singleton] at hm
  rcases hm with hm | hm
  · exact (dec_canon a.1 h).no hc hm
  · split at hm
    · exact h1 hm
    · exact h2 hm

theorem suffix_hit (l : List UInt8) (c : UInt8) : Lib.hasSuffix (l ++ [c]) [c] = true := by
  rw [Lib.hasSuffix, List.isSuffixOf_iff_suffix]; exact List.suffix_append _ _
theorem suffix_miss (l : List UInt8) (c : UInt8) (h : c ∉ l) : Lib.hasSuffix l [c] = false := by
  rw [Bool.eq_false_iff]
  intro e
  rw [Lib.hasSuffix, List.isSuffixOf_iff_suffix] at e
  obtain ⟨t, ht⟩ := e
  exact h (by rw [← ht]; simp)
theorem suffix_other (l : List UInt8) (c d : UInt8) (h : c ≠ d) : Lib.hasSuffix (l ++ [d]) [c] = false := by
  rw [Bool.eq_false_iff]
  intro e
  rw [Lib.hasSuffix, List.isSuffixOf_iff_suffix] at e
  obtain ⟨t, ht⟩ := e
  have := congrArg List.getLast? ht
  simp at this
  exact h this
theorem trim_hit (l : List UInt8) (c : UInt8) : Lib.trimSuffix (l ++ [c]) [c] = l := by
  rw [Lib.trimSuffix, suffix_hit]; simp
theorem trim_miss (l : List UInt8) (c : UInt8) (h : Lib.hasSuffix l [c] = false) : Lib.trimSuffix l [c] = l := by
  rw [Lib.trimSuffix, h]; simp
theorem trim_le (s p : List UInt8) : (Lib.trimSuffix s p).length ≤ s.length := by
  rw [Lib.trimSuffix]
  split
  · simp
  · exact Nat.le_refl _
theorem arrow_cut (a : Nat × Bool) (h : a.1 ≤ 16777215) : Lib.trimSuffix (Lib.trimSuffix (arrowText a) [47]) [126] = Lib.decDigits a.1 ∧ Lib.hasSuffix (arrowText a) [47] = a.2 := by
  obtain ⟨n, b⟩ := a
  have k := dec_canon n h
  cases b
  · have e : arrowText (n, false) = Lib.decDigits n ++ [126] := rfl
    have h1 := suffix_other (Lib.decDigits n) 47 126 (by decide)
    rw [e, trim_miss _ _ h1, trim_hit, h1]
    exact ⟨rfl, rfl⟩
  · have e : arrowText (n, true) = Lib.decDigits n ++ [47] := rfl
    rw [e, trim_hit, trim_miss _ _ (suffix_miss _ _ (k.no dig126)), suffix_hit]
    exact ⟨rfl, rfl⟩
end Go.Proofs.YtnecjeambpikdaaGreatDoor
