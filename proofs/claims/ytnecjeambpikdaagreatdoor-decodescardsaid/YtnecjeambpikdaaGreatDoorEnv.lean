import Derived.Test.YtnecjeambpikdaaGreatDoorShelf
import Derived.Test.YtnecjeambpikdaaGreatDoorMem
import Derived.Lib.LaidTab
import Derived.WalkSmall
namespace Go.Proofs.YtnecjeambpikdaaGreatDoor
open Go.RowKit

/-- What the calls read of the library's variables. -/
structure Env (w : World) : Prop where
  mx : ∃ m : Int, w.cell? ⟨0, 0, none⟩ = some (.int .i64 m)
  syn : ∃ ev, w.cell? ⟨4, 0, none⟩ = some ev ∧ (ev = .nilIface ∨ ∃ te pe, ev = .iface te pe)
  rng : ∃ ev, w.cell? ⟨5, 0, none⟩ = some ev ∧ (ev = .nilIface ∨ ∃ te pe, ev = .iface te pe)
  pow : Lib.TabIs Tryz.prog w "internal/strconv.uint64pow10" .u64 Lib.pow10Tab
  tz : w.cell? ⟨7, 15, none⟩ = some (.int .u8 4)

theorem pow_at : Tryz.prog.globalNamed "internal/strconv.uint64pow10" = some 1 := by kernel_rfl

theorem Env.below {w w' : World} (h : Env w) (hb : Below w.heap.size w w') : Env w' := by
  have h7 : 7 < w.heap.size := World.block_lt_of_cell? _ _ h.tz
  refine ⟨?_, ?_, ?_, ?_, ?_⟩
  · obtain ⟨m, hm⟩ := h.mx; exact ⟨m, cell_later hb hm⟩
  · obtain ⟨m, hm, hv⟩ := h.syn; exact ⟨m, cell_later hb hm, hv⟩
  · obtain ⟨m, hm, hv⟩ := h.rng; exact ⟨m, cell_later hb hm, hv⟩
  · exact var?_below hb pow_at (by omega) h.pow
  · exact cell_later hb h.tz

theorem below_grow (w : World) (k : Nat) (os : Array Obj) : Below w.heap.size w (Go.Sort.grow (w.drewN k) os) :=
  ⟨rfl, rfl, rfl, by simp [Go.Sort.grow], fun i hi => by
    show (w.heap ++ os)[i]? = w.heap[i]?
    rw [Array.getElem?_append_left hi]⟩

/-- strconv.Itoa of a number that is not below nought. -/
theorem itoa_any (n : Nat) (hn : n ≤ 1000000) (w : World) (h : Env w) : Calls Tryz.prog 29 #[.int .i64 (n : Int)] w fun e w' => e = .returned (.string ⟨(Lib.itoa (n : Int)).toArray⟩) ∧ Below w.heap.size w w' := by
  refine (Tryz.strconv_Itoa (n : Int) (by omega) (by omega) w h.pow).mono ?_
  rintro e w' ⟨rfl, k, os, rfl⟩
  exact ⟨rfl, below_grow w k os⟩

end Go.Proofs.YtnecjeambpikdaaGreatDoor
