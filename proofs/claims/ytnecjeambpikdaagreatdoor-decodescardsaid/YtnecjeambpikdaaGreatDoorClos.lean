import Derived.Test.YtnecjeambpikdaaGreatDoorSpanW
import Derived.Test.YtnecjeambpikdaaGreatDoorArrowW
namespace Go.Proofs.YtnecjeambpikdaaGreatDoor
open Go.RowKit

set_option maxHeartbeats 1000000 in
theorem clos34 (n q g K c : Nat) (t : ByteArray) (w : World) (hn : n < K) (h1 : w.cell? ⟨q, 0, none⟩ = some (.slice (some ⟨g, 0, none⟩) K c)) (h2 : w.cell? ⟨g, n, none⟩ = some (.string t)) :
    Calls Tryz.prog 34 #[.int .i64 (n : Int), .pointer (some ⟨q, 0, none⟩)] w fun e w' => e = .returned (.string t) ∧ Below w.heap.size w w' := by
  go_enter Tryz.func34, Tryz.ntmps34
  go_wp2
  go_ret
  exact ⟨rfl, Below.refl _ _⟩

set_option maxHeartbeats 1000000 in
theorem clos35 (n q g K c lo hi : Nat) (w : World) (hn : n < K) (h1 : w.cell? ⟨q, 0, none⟩ = some (.slice (some ⟨g, 0, none⟩) K c)) (h2 : w.cell? ⟨g, n * 2, none⟩ = some (.int .i32 (lo : Int))) (h3 : w.cell? ⟨g, n * 2 + 1, none⟩ = some (.int .i32 (hi : Int)))
    (hlo : lo ≤ 16777215) (hhi : hi ≤ 16777215) (h7 : w.cell? ⟨7, 15, none⟩ = some (.int .u8 4)) :
    Calls Tryz.prog 35 #[.int .i64 (n : Int), .pointer (some ⟨q, 0, none⟩)] w fun e w' => e = .returned (.string ⟨(spanText (lo, hi)).toArray⟩) ∧ Below w.heap.size w w' := by
  have H7 := hide h7
  clear h7
  go_enter Tryz.func35, Tryz.ntmps35
  go_wp2_with fail
  refine (spanW_walk lo hi hlo hhi w H7.out).mono ?_
  rintro e w1 ⟨rfl, hb⟩
  have HB := hide hb
  clear hb
  go_wp2
  go_ret
  exact ⟨rfl, HB.out⟩

set_option maxHeartbeats 1000000 in
theorem clos37 (n q g K c to : Nat) (b : Bool) (w : World) (hn : n < K) (h1 : w.cell? ⟨q, 0, none⟩ = some (.slice (some ⟨g, 0, none⟩) K c)) (h2 : w.cell? ⟨g, n * 2, none⟩ = some (.int .i64 (to : Int))) (h3 : w.cell? ⟨g, n * 2 + 1, none⟩ = some (.bool b))
    (hto : to ≤ 1000000) (hE : Env w) :
    Calls Tryz.prog 37 #[.int .i64 (n : Int), .pointer (some ⟨q, 0, none⟩)] w fun e w' => e = .returned (.string ⟨(arrowText (to, b)).toArray⟩) ∧ Below w.heap.size w w' := by
  go_enter Tryz.func37, Tryz.ntmps37
  go_wp2_with fail
  refine (arrowW_walk to b hto w hE).mono ?_
  rintro e w1 ⟨rfl, hb⟩
  have HB := hide hb
  clear hb
  go_wp2
  go_ret
  exact ⟨rfl, HB.out⟩

end Go.Proofs.YtnecjeambpikdaaGreatDoor
