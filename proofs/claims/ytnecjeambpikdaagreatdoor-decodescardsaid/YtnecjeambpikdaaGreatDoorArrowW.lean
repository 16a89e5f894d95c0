import Derived.Test.YtnecjeambpikdaaGreatDoorTwo
namespace Go.Proofs.YtnecjeambpikdaaGreatDoor
open Go.RowKit

set_option maxHeartbeats 4000000 in
set_option maxRecDepth 100000 in
theorem arrowW_walk (n : Nat) (b : Bool) (hn : n ≤ 1000000) (w : World) (hE : Env w) :
    Calls Tryz.prog 38 #[.agg #[.int .i64 (n : Int), .bool b]] w fun e w' => e = .returned (.string ⟨(arrowText (n, b)).toArray⟩) ∧ Below w.heap.size w w' := by
  obtain ⟨A, hA⟩ : ∃ A : ByteArray, A = ⟨(Lib.itoa (n : Int)).toArray⟩ := ⟨_, rfl⟩
  have hA8 : A.size ≤ 8 := by rw [hA, itoa_nat]; show (Lib.decDigits n).toArray.size ≤ 8; simpa using (dec_canon n (by omega)).len
  have hR : (⟨(arrowText (n, b)).toArray⟩ : ByteArray) = A ++ ⟨#[if b then 47 else 126]⟩ := by
    rw [hA, itoa_nat, ByteArray.mk_append_mk]
    simp [arrowText]
  rw [hR]
  have C1 := hide (show ∀ w', Env w' → Calls Tryz.prog 29 #[.int .i64 (n : Int)] w' fun e w'' => e = .returned (.string A) ∧ Below w'.heap.size w' w'' by
    intro w' h
    refine (itoa_any n hn w' h).mono ?_
    rintro e w'' ⟨rfl, hb⟩
    exact ⟨by rw [hA], hb⟩)
  clear hA hR
  cases b
  all_goals (
    go_enter Tryz.func38, Tryz.ntmps38
    go_wp2_with fail
    refine (C1.out _ (hE.below ((Below.refl _ _).alloc (Nat.le_refl _) _))).mono ?_
    rintro e w1 ⟨rfl, hb⟩
    have HB := hide (below2 ((Below.refl _ _).alloc (Nat.le_refl _) _) hb)
    clear hb
    go_wp2
    go_ret
    exact ⟨rfl, HB.out⟩)

end Go.Proofs.YtnecjeambpikdaaGreatDoor
