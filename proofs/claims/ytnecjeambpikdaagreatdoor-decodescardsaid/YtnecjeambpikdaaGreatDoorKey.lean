import Derived.Test.YtnecjeambpikdaaGreatDoorView
import Derived.Test.YtnecjeambpikdaaGreatDoorPure
import Derived.Maps.OwnSet
import Derived.Maps.OwnOps
import Derived.DeepKeys5
import Derived.Carry
namespace Go.Proofs.YtnecjeambpikdaaGreatDoor
open Go.RowKit Go.Maps

theorem tlaid : laidOutB Tryz.prog = true := by kernel_rfl
theorem law122 : Keyed Tryz.prog 122 := Keyed.of_law (deep_law_gate tlaid (of_decide_eq_true (by kernel_rfl)) (of_decide_eq_true (by kernel_rfl)) (by kernel_rfl) (by kernel_rfl))
theorem zero3 (w : World) : (zeroValue 3).run Tryz.prog w = .ok (.int .i64 0) w := by kernel_rfl

theorem ktype122 : Tryz.prog.keyType 122 = true := by kernel_rfl
theorem cells122 : Tryz.prog.cellsOf 122 = 14 := by kernel_rfl
theorem cells81 : Tryz.prog.cellsOf 81 = 2 := by kernel_rfl
theorem cells3 : Tryz.prog.cellsOf 3 = 1 := by kernel_rfl
theorem cells4 : Tryz.prog.cellsOf 4 = 1 := by kernel_rfl
theorem types_size : Tryz.prog.types.size = 188 := by kernel_rfl

theorem lits3 (d : Nat) (n : Nat) (h : n ≤ 1000000000) : Tryz.prog.keyLits (d + 1) 3 [.int .i64 (n : Int)] = some [.int .i64 (n : Int)] := by
  have hw : (Lit.int .i64 (n : Int)).wf = true := WalkArith.wf_i64 (by omega)
  simp [Program.keyLits, Tryz.underlying3, hw]
theorem lits4 (d : Nat) (b : Bool) : Tryz.prog.keyLits (d + 1) 4 [.bool b] = some [.bool b] := by
  simp [Program.keyLits, Tryz.underlying4]

theorem lits81 (d : Nat) (n : Nat) (b : Bool) (h : n ≤ 1000000000) : Tryz.prog.keyLits (d + 2) 81 [.int .i64 (n : Int), .bool b] = some [.int .i64 (n : Int), .bool b] := by
  have h3 := lits3 d n h
  have h4 := lits4 d b
  unfold Program.keyLits
  simp [Tryz.underlying81, cells81, cells3, cells4, h3, h4]

/-- A view as a list, made seven arrows long. -/
def pad (v : List (Nat × Bool)) (i : Nat) : Nat × Bool := v.getD i (0, false)
theorem vi_pad (l : List (Nat × Bool)) (gs : List Nat) : vi l gs = pad (vw l gs) := by
  funext i
  simp only [vi, pad, vw, List.getD_eq_getElem?_getD, List.getElem?_map]
  cases l[i]? <;> simp

theorem key_ex (f : Nat → Nat × Bool) (h : ∀ i, (f i).1 ≤ 1000000000) : ∃ kl, keyOf Tryz.prog 122 (.agg (seven f)) = some kl := by
  have hl : (seven f).toList.length = 14 := rfl
  refine ⟨.string (keyBytes [.int .i64 (f 0).1, .bool (f 0).2, .int .i64 (f 1).1, .bool (f 1).2, .int .i64 (f 2).1, .bool (f 2).2, .int .i64 (f 3).1, .bool (f 3).2, .int .i64 (f 4).1, .bool (f 4).2, .int .i64 (f 5).1, .bool (f 5).2, .int .i64 (f 6).1, .bool (f 6).2]), ?_⟩
  have e (i : Nat) := lits81 186 (f i).1 (f i).2 (h i)
  unfold keyOf
  rw [Tryz.underlying122, types_size]
  simp only [ktype122, Value.formed, Tryz.underlying122, cells122, Value.cells]
  unfold Program.keyLits
  simp [Tryz.underlying122, cells122, cells81, seven, List.range_succ, e]

theorem pad_inj {v v' : List (Nat × Bool)} (hl : v.length = v'.length) (h7 : v.length ≤ 7) (h : seven (pad v) = seven (pad v')) : v = v' := by
  unfold seven at h
  simp only [Array.mk.injEq, List.cons.injEq, Value.int.injEq, Value.bool.injEq, true_and, and_true] at h
  apply List.ext_getElem hl
  intro i h1 h2
  have hp : ∀ j, j < 7 → pad v j = pad v' j := by
    intro j hj
    have h' : j = 0 ∨ j = 1 ∨ j = 2 ∨ j = 3 ∨ j = 4 ∨ j = 5 ∨ j = 6 := by omega
    rcases h' with rfl | rfl | rfl | rfl | rfl | rfl | rfl <;> (apply Prod.ext <;> first | omega | simp [h])
  have := hp i (by omega)
  simpa [pad, List.getD_eq_getElem?_getD, List.getElem?_eq_getElem h1, List.getElem?_eq_getElem h2] using this

end Go.Proofs.YtnecjeambpikdaaGreatDoor
