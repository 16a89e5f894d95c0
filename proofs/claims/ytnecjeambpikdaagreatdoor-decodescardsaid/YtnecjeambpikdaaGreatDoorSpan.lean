import Derived.Test.YtnecjeambpikdaaGreatDoorHead
import Derived.Deep.RegionHeld3
namespace Go.Proofs.YtnecjeambpikdaaGreatDoor
open Go.RowKit

/-- A range that could stand in rules. -/
def spanOk (lo hi : Nat) : Bool := Lib.validRune (lo : Int) && (decide (lo ≤ hi) && Lib.validRune (hi : Int))

theorem mayBe0 (r : Nat) (w : World) : Calls Tryz.prog 57 #[.int .i32 (r : Int), .int .i32 0] w fun e w' => e = .returned (.bool (Lib.validRune (r : Int))) ∧ w' = w := by
  have := mayBe_walk r 0 w
  simpa using this

/-- What a range is written as. -/
def spanText (x : Nat × Nat) : List UInt8 := hexOf x.1 ++ 45 :: hexOf x.2

theorem spanOk_le {lo hi : Nat} (h : spanOk lo hi = true) : lo ≤ 1114111 ∧ hi ≤ 1114111 := by
  simp only [spanOk, Lib.validRune, Bool.and_eq_true, decide_eq_true_eq] at h
  omega

theorem cut_any (c : UInt8) (s : ByteArray) (hs : s.size ≤ 1000000) (w : World) (m : Int) (hm : w.cell? ⟨0, 0, none⟩ = some (.int .i64 m)) :
    Calls Tryz.prog 56 #[.string s, .string ⟨#[c]⟩] w fun e w' => ∃ (bf bh : ByteArray) (fd : Bool) (n : Nat), e = .returned (.tuple #[.string bf, .string bh, .bool fd]) ∧ bf.size ≤ s.size ∧ bh.size ≤ s.size ∧
      (∀ a b, c ∉ a → s.data.toList = a ++ c :: b → bf.data.toList = a ∧ bh.data.toList = b) ∧ w' = w.drewN n := by
  refine (Tryz.strings_Cut s ⟨#[c]⟩ m w (by omega) hm).mono ?_
  rintro e w1 ⟨rfl, nd, rfl⟩
  have hsz : ∀ l : List UInt8, (⟨l.toArray⟩ : ByteArray).size = l.length := fun l => by show l.toArray.size = _; simp
  have hs' : s.size = s.data.toList.length := Lib.size_eq s
  refine ⟨_, _, _, nd, rfl, ?_, ?_, fun a b ha e => ?_, rfl⟩
  · rw [hsz, hs', Lib.cut]
    split
    · simp; omega
    · simp
  · rw [hsz, hs', Lib.cut]
    split
    · simp
    · simp
  · have := cut_join c a b ha
    rw [← e] at this
    have h2 : Lib.cut s.data.toList (⟨#[c]⟩ : ByteArray).data.toList = (a, b, true) := this
    rw [h2]
    exact ⟨rfl, rfl⟩

theorem span_cells {w3 : World} {B : Nat} {x y a b : Value} {o : Obj} (h : w3.heap[B]? = some (.cells #[a, b] 93 (0, 0))) :
    (((w3.setCell ⟨B, 0, none⟩ x).setCell ⟨B, 1, none⟩ y).alloc o).cell? ⟨B, 0, none⟩ = some x ∧ (((w3.setCell ⟨B, 0, none⟩ x).setCell ⟨B, 1, none⟩ y).alloc o).cell? ⟨B, 1, none⟩ = some y := by
  have h1 := heap_push_old (heap_setCell_same _ B 1 _ _ y (heap_setCell_same w3 B 0 _ _ x h)) o
  exact ⟨row_cell h1 (by simp), row_cell h1 (by simp)⟩

theorem span_new (w3 : World) (a b : Addr) (x y : Value) (c : Array Value) (t : TypeId) (j : Nat) (u : Value) (h : c[j]? = some u) :
    (((w3.setCell a x).setCell b y).alloc (.cells c t)).cell? ⟨w3.heap.size, j, none⟩ = some u := by
  have h1 := heap_push_new ((w3.setCell a x).setCell b y) (.cells c t)
  rw [show ((w3.setCell a x).setCell b y).heap.size = w3.heap.size by simp] at h1
  exact row_cell h1 h

set_option maxHeartbeats 4000000 in
set_option maxRecDepth 100000 in
theorem span_walk (s : ByteArray) (hs : s.size ≤ 100000) (w : World) (hE : Env w) :
    Calls Tryz.prog 42 #[.string s] w fun e w' => ∃ (lo hi : Nat) (ok : Bool), e = .returned (.tuple #[.agg #[.int .i32 (lo : Int), .int .i32 (hi : Int)], .bool ok]) ∧ lo ≤ 16777215 ∧ hi ≤ 16777215 ∧ (ok = true → spanOk lo hi = true) ∧
      (∀ x : Nat × Nat, spanOk x.1 x.2 = true → s.data.toList = spanText x → ok = true ∧ lo = x.1 ∧ hi = x.2) ∧ Below w.heap.size w w' := by
  obtain ⟨m, hm⟩ := hE.mx
  have HM := hide hm
  clear hm
  go_enter Tryz.func42, Tryz.ntmps42
  go_wp2_with fail
  refine (cut_any 45 s (by omega) _ m ?_).mono ?_
  · exact cell_later ((Below.refl _ _).alloc (Nat.le_refl _) _) HM.out
  rintro e w1 ⟨bf, bh, fd, nd, rfl, hs1, hs2, hcut, rfl⟩
  have HCUT := hide hcut
  clear hcut
  have HBA := hide (show Below w.heap.size w ((w.alloc (.cells #[.int .i32 0, .int .i32 0] 93)).drewN nd) from below_drewN ((Below.refl _ _).alloc (Nat.le_refl _) _) nd)
  have HRB := hide (show ((w.alloc (.cells #[.int .i32 0, .int .i32 0] 93)).drewN nd).heap[w.heap.size]? = some (.cells #[.int .i32 0, .int .i32 0] 93 (0, 0)) from heap_push_new w _)
  generalize (w.alloc (.cells #[.int .i32 0, .int .i32 0] 93)).drewN nd = w1 at *
  go_wp2_with fail
  refine (number_walk 16 pu16 bf (by omega) w1 (hE.below HBA.out)).mono ?_
  rintro e w2 ⟨lo, ok1, rfl, hlo, hv1, hb2⟩
  have HV1 := hide hv1
  have HB2 := hide hb2
  clear hv1 hb2
  go_wp2_with fail
  refine (number_walk 16 pu16 bh (by omega) w2 ((hE.below HBA.out).below HB2.out)).mono ?_
  rintro e w3 ⟨hi, ok2, rfl, hhi, hv2, hb3⟩
  have HV := hide (show ∀ x : Nat × Nat, spanOk x.1 x.2 = true → s.data.toList = spanText x → (ok1 = true ∧ lo = x.1) ∧ (ok2 = true ∧ hi = x.2) by
    intro x hx he
    obtain ⟨l1, l2⟩ := spanOk_le hx
    have k1 := hex_canon x.1 (by omega)
    have k2 := hex_canon x.2 (by omega)
    obtain ⟨g1, g2⟩ := HCUT.out (hexOf x.1) (hexOf x.2) (k1.no dig45) he
    exact ⟨HV1.out x.1 (by omega) (size_ne g1 k1.pos) (by rw [g1]; exact k1.val), hv2 x.2 (by omega) (size_ne g2 k2.pos) (by rw [g2]; exact k2.val)⟩)
  have HB := hide (below2 (below2 HBA.out HB2.out) hb3)
  have hlt3 : w.heap.size < w3.heap.size := by
    have h1 := lt_of_block HRB.out
    have h2 := HB2.out.size
    have h3 := hb3.size
    omega
  have HR3 := hide (show w3.heap[w.heap.size]? = some (.cells #[.int .i32 0, .int .i32 0] 93 (0, 0)) by
    have h1 := lt_of_block HRB.out
    have h2 := HB2.out.size
    rw [hb3.block _ (by omega), HB2.out.block _ h1]
    exact HRB.out)
  have r0 := row_cell HR3.out (j := 0) rfl
  have r1 := row_cell HR3.out (j := 1) rfl
  have rf : ∀ j, w3.frozen? ⟨w.heap.size, j, none⟩ = false := fun j => row_free HR3.out j
  clear hv2 hb3 HV1 HCUT HB2 HBA HRB hE
  have hne3 : w.heap.size ≠ w3.heap.size := by omega
  obtain ⟨k0, k1⟩ := span_cells (x := .int .i32 (lo : Int)) (y := .int .i32 (hi : Int)) (o := .cells #[.int .i32 (lo : Int), .int .i32 (hi : Int)] 93) HR3.out
  have HBF := hide (show ∀ o, Below w.heap.size w (((w3.setCell ⟨w.heap.size, 0, none⟩ (.int .i32 (lo : Int))).setCell ⟨w.heap.size, 1, none⟩ (.int .i32 (hi : Int))).alloc o).drew from fun o => (((HB.out.setCell (p := ⟨w.heap.size, 0, none⟩) (Nat.le_refl _) _).setCell (p := ⟨w.heap.size, 1, none⟩) (Nat.le_refl _) _).alloc (by simp; omega) _).drew)
  have K0 := hide k0
  have K1 := hide k1
  clear k0 k1
  cases ok1
  · cases ok2
    all_goals (
      go_wp2_with fail
      go_big_region
      go_wp2_with fail
      have k0 := K0.out
      have k1 := K1.out
      refine bodyPost_ret (v := .tuple #[.agg #[.int .i32 (lo : Int), .int .i32 (hi : Int)], .bool false]) (by simp [results, Tryz.results42, go_sem, k0, k1]) rfl ⟨lo, hi, false, rfl, hlo, hhi, by simp, fun x hx he => Bool.noConfusion (HV.out x hx he).1.1, HBF.out _⟩)
  · cases ok2
    · go_wp2_with fail
      go_big_region
      go_wp2_with fail
      have k0 := K0.out
      have k1 := K1.out
      refine bodyPost_ret (v := .tuple #[.agg #[.int .i32 (lo : Int), .int .i32 (hi : Int)], .bool false]) (by simp [results, Tryz.results42, go_sem, k0, k1]) rfl ⟨lo, hi, false, rfl, hlo, hhi, by simp, fun x hx he => Bool.noConfusion (HV.out x hx he).2.1, HBF.out _⟩
    · cases hm1 : Lib.validRune (lo : Int)
      · have c1 : ∀ w', Calls Tryz.prog 57 #[.int .i32 (lo : Int), .int .i32 0] w' fun e w'' => e = .returned (.bool false) ∧ w'' = w' := fun w' => by rw [← hm1]; exact mayBe0 lo w'
        have C1 := hide c1
        have HNo := hide (show ∀ x : Nat × Nat, spanOk x.1 x.2 = true → s.data.toList = spanText x → False by
          intro x hx he
          have h1 := (HV.out x hx he).1.2
          simp only [spanOk, ← h1, hm1, Bool.false_and] at hx
          cases hx)
        clear c1 hm1
        have n0 := span_new w3 ⟨w.heap.size, 0, none⟩ ⟨w.heap.size, 1, none⟩ (.int .i32 (lo : Int)) (.int .i32 (hi : Int)) #[.int .i32 (lo : Int), .int .i32 (hi : Int)] 93 0 _ rfl
        have n1 := span_new w3 ⟨w.heap.size, 0, none⟩ ⟨w.heap.size, 1, none⟩ (.int .i32 (lo : Int)) (.int .i32 (hi : Int)) #[.int .i32 (lo : Int), .int .i32 (hi : Int)] 93 1 _ rfl
        go_wp2_with fail
        first
          | go_region_with (go_at_call 57; refine (C1.out _).mono ?_; rintro e w' ⟨rfl, rfl⟩)
          | skip
        all_goals (
          go_wp2_with fail
          have k0 := K0.out
          have k1 := K1.out
          refine bodyPost_ret (v := .tuple #[.agg #[.int .i32 (lo : Int), .int .i32 (hi : Int)], .bool false]) (by simp [results, Tryz.results42, go_sem, k0, k1]) rfl ⟨lo, hi, false, rfl, hlo, hhi, by simp, fun x hx he => (HNo.out x hx he).elim, HBF.out _⟩)
      · have c1 : ∀ w', Calls Tryz.prog 57 #[.int .i32 (lo : Int), .int .i32 0] w' fun e w'' => e = .returned (.bool true) ∧ w'' = w' := fun w' => by rw [← hm1]; exact mayBe0 lo w'
        have c2 : ∀ w', Calls Tryz.prog 57 #[.int .i32 (hi : Int), .int .i32 (lo : Int)] w' fun e w'' => e = .returned (.bool (spanOk lo hi)) ∧ w'' = w' := fun w' => by simp only [spanOk, hm1, Bool.true_and]; exact mayBe_walk hi lo w'
        have C1 := hide c1
        have C2 := hide c2
        clear c1 c2 hm1
        obtain ⟨ok, hok⟩ : ∃ ok, ok = spanOk lo hi := ⟨_, rfl⟩
        rw [← hok] at C2
        have HOK := hide hok
        clear hok
        have n0 := span_new w3 ⟨w.heap.size, 0, none⟩ ⟨w.heap.size, 1, none⟩ (.int .i32 (lo : Int)) (.int .i32 (hi : Int)) #[.int .i32 (lo : Int), .int .i32 (hi : Int)] 93 0 _ rfl
        have n1 := span_new w3 ⟨w.heap.size, 0, none⟩ ⟨w.heap.size, 1, none⟩ (.int .i32 (lo : Int)) (.int .i32 (hi : Int)) #[.int .i32 (lo : Int), .int .i32 (hi : Int)] 93 1 _ rfl
        go_wp2_with fail
        first
          | go_region_held3 (fun w' => w'.cell? ⟨w3.heap.size, 0, none⟩ = some (.int .i32 (lo : Int)) ∧ w'.cell? ⟨w3.heap.size, 1, none⟩ = some (.int .i32 (hi : Int))) (go_keep) ((first | (go_at_call_of 57 (Value.int .i32 0); refine (C1.out _).mono ?_; rintro e w' ⟨rfl, rfl⟩) | (go_at_call 57; refine (C2.out _).mono ?_; rintro e w' ⟨rfl, rfl⟩)))
          | skip
        all_goals (
          go_wp2_with fail
          have k0 := K0.out
          have k1 := K1.out
          refine bodyPost_ret (v := .tuple #[.agg #[.int .i32 (lo : Int), .int .i32 (hi : Int)], .bool ok]) (by simp [results, Tryz.results42, go_sem, k0, k1]) rfl ⟨lo, hi, ok, rfl, hlo, hhi, fun h => HOK.out ▸ h, fun x hx he => ?_, HBF.out _⟩
          obtain ⟨⟨_, h1⟩, _, h2⟩ := HV.out x hx he
          exact ⟨by rw [HOK.out, h1, h2]; exact hx, h1, h2⟩)

end Go.Proofs.YtnecjeambpikdaaGreatDoor
