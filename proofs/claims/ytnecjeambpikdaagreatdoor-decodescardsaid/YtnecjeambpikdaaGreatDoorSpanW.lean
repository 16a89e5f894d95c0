import Derived.Test.YtnecjeambpikdaaGreatDoorTwo
import Derived.Test.YtnecjeambpikdaaGreatDoorFi
import Derived.Deep.RegionHeld3
namespace Go.Proofs.YtnecjeambpikdaaGreatDoor
open Go.RowKit

set_option maxHeartbeats 4000000 in
set_option maxRecDepth 100000 in
theorem spanW_walk (lo hi : Nat) (hlo : lo ≤ 16777215) (hhi : hi ≤ 16777215) (w : World) (h7 : w.cell? ⟨7, 15, none⟩ = some (.int .u8 4)) :
    Calls Tryz.prog 36 #[.agg #[.int .i32 (lo : Int), .int .i32 (hi : Int)]] w fun e w' => e = .returned (.string ⟨(spanText (lo, hi)).toArray⟩) ∧ Below w.heap.size w w' := by
  obtain ⟨A, hA⟩ : ∃ A : ByteArray, A = ⟨(hexOf lo).toArray⟩ := ⟨_, rfl⟩
  obtain ⟨C, hC⟩ : ∃ C : ByteArray, C = ⟨(hexOf hi).toArray⟩ := ⟨_, rfl⟩
  have hA8 : A.size ≤ 8 := by rw [hA]; show (hexOf lo).toArray.size ≤ 8; simpa using (hex_canon lo hlo).len
  have hC8 : C.size ≤ 8 := by rw [hC]; show (hexOf hi).toArray.size ≤ 8; simpa using (hex_canon hi hhi).len
  have hR : (⟨(spanText (lo, hi)).toArray⟩ : ByteArray) = A ++ ⟨#[45]⟩ ++ C := by
    rw [hA, hC, ByteArray.mk_append_mk, ByteArray.mk_append_mk]
    congr 1
    simp [spanText]
  rw [hR]
  have C1 := hide (show ∀ w', (w'.cell? ⟨w.heap.size, 0, none⟩ = some (.int .i32 (lo : Int)) ∧ w'.cell? ⟨w.heap.size, 1, none⟩ = some (.int .i32 (hi : Int)) ∧ w'.cell? ⟨7, 15, none⟩ = some (.int .u8 4) ∧ Below w.heap.size w w') →
      Calls Tryz.prog 49 #[.int .i64 (lo : Int), .int .i64 16] w' fun e w'' => e = .returned (.string A) ∧ (w''.cell? ⟨w.heap.size, 0, none⟩ = some (.int .i32 (lo : Int)) ∧ w''.cell? ⟨w.heap.size, 1, none⟩ = some (.int .i32 (hi : Int)) ∧ w''.cell? ⟨7, 15, none⟩ = some (.int .u8 4) ∧ Below w.heap.size w w'') by
    rintro w' ⟨a1, a2, a3, a4⟩
    refine (formatInt_walk lo hlo w' a3).mono ?_
    rintro e w'' ⟨rfl, hb⟩
    exact ⟨by rw [hA], cell_later hb a1, cell_later hb a2, cell_later hb a3, below2 a4 hb⟩)
  have C2 := hide (show ∀ w', (w'.cell? ⟨w.heap.size, 0, none⟩ = some (.int .i32 (lo : Int)) ∧ w'.cell? ⟨w.heap.size, 1, none⟩ = some (.int .i32 (hi : Int)) ∧ w'.cell? ⟨7, 15, none⟩ = some (.int .u8 4) ∧ Below w.heap.size w w') →
      Calls Tryz.prog 49 #[.int .i64 (hi : Int), .int .i64 16] w' fun e w'' => e = .returned (.string C) ∧ (w''.cell? ⟨w.heap.size, 0, none⟩ = some (.int .i32 (lo : Int)) ∧ w''.cell? ⟨w.heap.size, 1, none⟩ = some (.int .i32 (hi : Int)) ∧ w''.cell? ⟨7, 15, none⟩ = some (.int .u8 4) ∧ Below w.heap.size w w'') by
    rintro w' ⟨a1, a2, a3, a4⟩
    refine (formatInt_walk hi hhi w' a3).mono ?_
    rintro e w'' ⟨rfl, hb⟩
    exact ⟨by rw [hC], cell_later hb a1, cell_later hb a2, cell_later hb a3, below2 a4 hb⟩)
  have K0 := hide (show ((w.alloc (.cells #[.int .i32 (lo : Int), .int .i32 (hi : Int)] 93)).drew.cell? ⟨w.heap.size, 0, none⟩ = some (.int .i32 (lo : Int)) ∧ (w.alloc (.cells #[.int .i32 (lo : Int), .int .i32 (hi : Int)] 93)).drew.cell? ⟨w.heap.size, 1, none⟩ = some (.int .i32 (hi : Int)) ∧
      (w.alloc (.cells #[.int .i32 (lo : Int), .int .i32 (hi : Int)] 93)).drew.cell? ⟨7, 15, none⟩ = some (.int .u8 4) ∧ Below w.heap.size w (w.alloc (.cells #[.int .i32 (lo : Int), .int .i32 (hi : Int)] 93)).drew) from
    ⟨row_cell (heap_push_new w _) rfl, row_cell (heap_push_new w _) rfl, cell_later ((Below.refl _ _).alloc (Nat.le_refl _) _).drew h7, ((Below.refl _ _).alloc (Nat.le_refl _) _).drew⟩)
  clear hA hC hR h7
  have hadd1 : ∀ w', (Op.stringOp .add A ⟨#[45]⟩).run Tryz.prog w' = .ok (.string (A ++ ⟨#[45]⟩)) w' := fun w' => run_string_add_sum w' A ⟨#[45]⟩ (by show A.size + 1 ≤ _; omega)
  have hadd2 : ∀ w', (Op.stringOp .add (A ++ ⟨#[45]⟩) C).run Tryz.prog w' = .ok (.string (A ++ ⟨#[45]⟩ ++ C)) w' := fun w' => run_string_add_sum w' _ C (by rw [ByteArray.size_append]; show A.size + 1 + C.size ≤ _; omega)
  have hw1 := hide (show IntKind.i64.wrap (lo : Int) = (lo : Int) by rw [IntKind.wrap_i64]; omega)
  have hw2 := hide (show IntKind.i64.wrap (hi : Int) = (hi : Int) by rw [IntKind.wrap_i64]; omega)
  go_enter Tryz.func36, Tryz.ntmps36
  go_wp2_with fail
  go_region_held3 (fun w' => w'.cell? ⟨w.heap.size, 0, none⟩ = some (.int .i32 (lo : Int)) ∧ w'.cell? ⟨w.heap.size, 1, none⟩ = some (.int .i32 (hi : Int)) ∧ w'.cell? ⟨7, 15, none⟩ = some (.int .u8 4) ∧ Below w.heap.size w w') (first | exact K0.out | assumption | go_keep)
    ((first
      | (go_at_call_of 49 (Value.int .i64 (IntKind.i64.wrap (lo : Int))); rw [hw1.out]; refine (C1.out _ (by assumption)).mono ?_; rintro e w' ⟨rfl, hS⟩)
      | (go_at_call_of 49 (Value.int .i64 (IntKind.i64.wrap (hi : Int))); rw [hw2.out]; refine (C2.out _ (by assumption)).mono ?_; rintro e w' ⟨rfl, hS⟩)))
  all_goals (
    go_wp2_with fail
    go_ret
    first
      | exact ⟨rfl, by assumption⟩
      | exact ⟨rfl, (‹_ ∧ _ ∧ _ ∧ Below w.heap.size w _›).2.2.2⟩)

end Go.Proofs.YtnecjeambpikdaaGreatDoor
