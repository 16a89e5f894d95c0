/-
  Texts cut at a byte, and joined. Plain mathematics; own work.
-/
import Derived.Lib.Split
import Derived.Lib.SplitLaws
import Derived.Lib.IndexMore
namespace Go.Proofs.YtnecjeambpikdaaGreatDoor

/-- Pieces with a byte between. -/
def joinC (c : UInt8) : List (List UInt8) → List UInt8
  | [] => []
  | [l] => l
  | l :: m :: r => l ++ c :: joinC c (m :: r)

theorem index_hit (c : UInt8) : ∀ (a b : List UInt8), c ∉ a → Lib.index (a ++ c :: b) [c] = (a.length : Int)
  | [], b, _ => by simp [Lib.index, List.isPrefixOf]
  | x :: a, b, h => by
    have hx : ¬ c = x := fun e => h (by simp [e])
    have ha : c ∉ a := fun e => h (by simp [e])
    have ih := index_hit c a b ha
    rw [List.cons_append, Lib.index, ih]
    have h1 : List.isPrefixOf [c] (x :: (a ++ c :: b)) = false := by simp [List.isPrefixOf, hx]
    have h2 : ((a.length : Int) == -1) = false := by rw [beq_eq_false_iff_ne]; omega
    rw [h1, h2]
    simp
theorem index_miss (c : UInt8) : ∀ (a : List UInt8), c ∉ a → Lib.index a [c] = -1
  | [], _ => by simp [Lib.index]
  | x :: a, h => by
    have hx : ¬ c = x := fun e => h (by simp [e])
    have ha : c ∉ a := fun e => h (by simp [e])
    rw [Lib.index, index_miss c a ha]
    have h1 : List.isPrefixOf [c] (x :: a) = false := by simp [List.isPrefixOf, hx]
    rw [h1]; simp

theorem count_join (c : UInt8) : ∀ ls : List (List UInt8), ls ≠ [] → (∀ l ∈ ls, c ∉ l) → (joinC c ls).count c + 1 = ls.length
  | [], h, _ => absurd rfl h
  | [l], _, h => by simp [joinC, List.count_eq_zero_of_not_mem (h l (by simp))]
  | l :: m :: r, _, h => by
    have ih := count_join c (m :: r) (by simp) (fun x hx => h x (by simp [hx]))
    rw [joinC, List.count_append, List.count_eq_zero_of_not_mem (h l (by simp))]
    simp at ih ⊢
    omega

theorem split_join (c : UInt8) : ∀ (ls : List (List UInt8)) (k : Nat), ls ≠ [] → (∀ l ∈ ls, c ∉ l) → ls.length ≤ k + 1 → Lib.splitK [c] 0 k (joinC c ls) = ls
  | [], _, h, _, _ => absurd rfl h
  | [l], k, _, h, _ => by
    have hm := index_miss c l (h l (by simp))
    cases k with
    | zero => rfl
    | succ k => rw [joinC, Lib.splitK, hm]; rfl
  | l :: m :: r, k, _, h, hk => by
    cases k with
    | zero => simp at hk
    | succ k =>
      have hi := index_hit c l (joinC c (m :: r)) (h l (by simp))
      have ih := split_join c (m :: r) k (by simp) (fun x hx => h x (by simp [hx])) (by simp at hk ⊢; omega)
      rw [joinC, Lib.splitK, hi]
      have h2 : ((l.length : Int) == -1) = false := by rw [beq_eq_false_iff_ne]; omega
      rw [h2]
      simp only [Bool.false_eq_true, if_false, Nat.add_zero, Int.toNat_natCast, List.length_cons, List.length_nil]
      rw [List.take_left, show l ++ c :: joinC c (m :: r) = (l ++ [c]) ++ joinC c (m :: r) by simp, List.drop_left' (by simp), ih]

theorem cut_join (c : UInt8) (a b : List UInt8) (h : c ∉ a) : Lib.cut (a ++ c :: b) [c] = (a, b, true) := by
  rw [Lib.cut, index_hit c a b h, if_pos (by omega)]
  simp only [Int.toNat_natCast, List.length_cons, List.length_nil]
  rw [List.take_left, show a ++ c :: b = (a ++ [c]) ++ b by simp, List.drop_left' (by simp)]

end Go.Proofs.YtnecjeambpikdaaGreatDoor
