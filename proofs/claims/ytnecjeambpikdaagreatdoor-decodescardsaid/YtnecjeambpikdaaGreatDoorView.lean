import Derived.Test.YtnecjeambpikdaaGreatDoorProg
import Derived.Test.YtnecjeambpikdaaGreatDoorMem
namespace Go.Proofs.YtnecjeambpikdaaGreatDoor
open Go.RowKit

/-- What is to be seen of a state's arrow i: nothing behind the last one. -/
def vi (l : List (Nat × Bool)) (gs : List Nat) (i : Nat) : Nat × Bool :=
  match l[i]? with
  | some a => (gs.getD a.1 0, a.2)
  | none => (0, false)
/-- The same when k arrows have been gone through. -/
def va (l : List (Nat × Bool)) (gs : List Nat) (k i : Nat) : Nat × Bool := if i < k then vi l gs i else (0, false)
/-- Seven arrows as cells. -/
def seven (f : Nat → Nat × Bool) : Array Value :=
  #[.int .i64 (f 0).1, .bool (f 0).2, .int .i64 (f 1).1, .bool (f 1).2, .int .i64 (f 2).1, .bool (f 2).2, .int .i64 (f 3).1, .bool (f 3).2, .int .i64 (f 4).1, .bool (f 4).2, .int .i64 (f 5).1, .bool (f 5).2, .int .i64 (f 6).1, .bool (f 6).2]

theorem va_step (l : List (Nat × Bool)) (gs : List Nat) (k : Nat) (a : Nat × Bool) (h : l[k]? = some a) (hk : k < 7) :
    ((seven (va l gs k)).setIfInBounds (k * 2) (.int .i64 ((gs.getD a.1 0 : Nat) : Int))).setIfInBounds (k * 2 + 1) (.bool a.2) = seven (va l gs (k + 1)) := by
  have hv : vi l gs k = (gs.getD a.1 0, a.2) := by simp [vi, h]
  have hlt : ∀ i, i < k → va l gs (k + 1) i = va l gs k i := fun i hi => by simp [va, hi, show i < k + 1 by omega]
  have hgt : ∀ i, k < i → va l gs (k + 1) i = va l gs k i := fun i hi => by simp [va, show ¬ i < k by omega, show ¬ i < k + 1 by omega]
  have heq : va l gs (k + 1) k = (gs.getD a.1 0, a.2) := by simp [va, hv]
  have h7 : k = 0 ∨ k = 1 ∨ k = 2 ∨ k = 3 ∨ k = 4 ∨ k = 5 ∨ k = 6 := by omega
  unfold seven
  rcases h7 with rfl | rfl | rfl | rfl | rfl | rfl | rfl <;> simp [heq, hlt, hgt]

theorem seven_one (f : Nat → Nat × Bool) : (seven f).all (·.oneCell') = true := by simp [seven, Value.oneCell']
theorem info122 : (Tryz.prog.info? 122).map (·.size) = some 14 := by kernel_rfl

set_option maxHeartbeats 1000000 in
theorem view_walk (l : List (Nat × Bool)) (gs : List Nat) (g1 g2 c1 c2 L G : Nat) (w : World) (hL : l.length = L) (hG : gs.length = G) (hL7 : L ≤ 7) (_hGm : G ≤ 1000000) (h1lt : g1 < w.heap.size) (h2lt : g2 < w.heap.size)
    (hc1 : ∀ j u, (arrs l)[j]? = some u → w.cell? ⟨g1, j, none⟩ = some u) (hc2 : ∀ j u, (ints gs)[j]? = some u → w.cell? ⟨g2, j, none⟩ = some u) (hin : ∀ a ∈ l, a.1 < G) :
    Calls Tryz.prog 61 #[.slice (some ⟨g1, 0, none⟩) L c1, .slice (some ⟨g2, 0, none⟩) G c2] w fun e w' => e = .returned (.agg (seven (vi l gs))) ∧ Below w.heap.size w w' := by
  have HL := hide hL
  have HG := hide hG
  have HC1 := hide hc1
  have HC2 := hide hc2
  have HI := hide hin
  clear hL hG hc1 hc2 hin
  go_enter Tryz.func61, Tryz.ntmps61
  go_wp2
  go_loopw [10] (fun i wr => ∃ k : Nat, k ≤ L ∧ i = .int .i64 k ∧ wr.heap[w.heap.size]? = some (.cells (seven (va l gs 0)) 122 (0, 0)) ∧ wr.heap[w.heap.size + 1]? = some (.cells (seven (va l gs k)) 122 (0, 0)) ∧ Below w.heap.size w wr) (fun i _ => L - (intOf i).toNat)
  case atStart => exact ⟨0, Nat.zero_le _, rfl, heap_two0 _ _ _, heap_two1 _ _ _, ((Below.refl _ _).alloc (Nat.le_refl _) _).alloc (by simp) _⟩
  case round =>
    obtain ⟨k, hk, rfl, hb0, hb1, hb⟩ := hrel
    have HB0 := hide hb0
    have HB1 := hide hb1
    clear hb0 hb1
    by_cases hlt : k < L
    · have hx : l[k]? = some (l.getD k (0, false)) := getD_some _ _ _ (by have := HL.out; omega)
      have hxa := HI.out _ (List.mem_of_getElem? hx)
      have hy : gs[(l.getD k (0, false)).1]? = some (gs.getD (l.getD k (0, false)).1 0) := getD_some _ _ _ (by have := HG.out; omega)
      have hst := va_step l gs k _ hx (by omega)
      have q0 := (hb.cell (p := ⟨g1, k * 2, none⟩) h1lt).trans (HC1.out _ _ (arrs_get l k _ hx).1)
      have q1 := (hb.cell (p := ⟨g1, k * 2 + 1, none⟩) h1lt).trans (HC1.out _ _ (arrs_get l k _ hx).2)
      have q2 := (hb.cell (p := ⟨g2, (l.getD k (0, false)).1, none⟩) h2lt).trans (HC2.out _ _ (ints_get gs _ _ hy))
      generalize l.getD k (0, false) = x at *
      obtain ⟨x1, x2⟩ := x
      simp only at q0 q1 q2 hxa hst
      generalize gs.getD x1 0 = y at *
      have HST := hide hst
      clear hx hy hst
      have hsz : ∀ f, (seven f).size = 14 := fun f => rfl
      obtain ⟨u0, hu0⟩ : ∃ u, (seven (va l gs k))[k * 2]? = some u := ⟨_, Array.getElem?_eq_getElem (by rw [hsz]; omega)⟩
      obtain ⟨u1, hu1⟩ : ∃ u, (seven (va l gs k))[k * 2 + 1]? = some u := ⟨_, Array.getElem?_eq_getElem (by rw [hsz]; omega)⟩
      have fz : ∀ j, wr.frozen? ⟨w.heap.size + 1, j, none⟩ = false := fun j => row_free HB1.out j
      have d0 : wr.cell? ⟨w.heap.size + 1, k * 2, none⟩ = some u0 := row_cell HB1.out hu0
      have d1 : wr.cell? ⟨w.heap.size + 1, k * 2 + 1, none⟩ = some u1 := row_cell HB1.out hu1
      have hsw : w.heap.size + 1 < wr.heap.size := lt_of_block HB1.out
      have hg2 : g2 < wr.heap.size := by omega
      have hk7 : (k : Int) < 7 := by omega
      clear hu0 hu1 hsz
      go_wp2
      go_region
      go_wp2
      go_roundw
      case rel =>
        refine ⟨k + 1, by omega, by go_num, ?_, ?_, ?_⟩
        · refine heap_push_old ?_ _
          rw [heap_setCell_other _ _ _ _ (by simp), heap_setCell_other _ _ _ _ (by simp)]
          exact HB0.out
        · refine heap_push_old ?_ _
          rw [← HST.out]
          exact heap_setCell_same _ _ _ _ _ _ (heap_setCell_same _ _ _ _ _ _ HB1.out)
        · exact (((hb.setCell (by simp) _).setCell (by simp) _).alloc (by simp; omega) _).drew
      case measure => simp [intOf]; omega
    · have hkL : k = L := by omega
      have hvv : va l gs k = vi l gs := by
        funext i
        by_cases h : i < k
        · simp [va, h]
        · simp [va, h, vi, List.getElem?_eq_none (show l.length ≤ i by have := HL.out; omega)]
      rw [hvv] at HB1
      clear hvv hkL
      go_wp2_with (first
        | (refine wpList_load_row rfl 122 (.tmp 5) rfl (w.heap.size + 1) rfl 122 (seven (vi l gs)) (0, 0) _ HB1.out Tryz.underlying122 rfl info122 ?_)
        | (refine wpList_store_row rfl 122 (.tmp 4) (.tmp 26) rfl w.heap.size (seven (vi l gs)) rfl rfl 122 _ HB0.out info122 rfl (seven_one _) ?_))
      refine bodyPost_ret (v := .agg (seven (vi l gs))) (results_cell_row Tryz.results61 _ _ w.heap.size 122 (seven (vi l gs)) (0, 0) _ rfl (setRow_heap wr w.heap.size _ _ 122 _ HB0.out) Tryz.underlying122 rfl info122) rfl ⟨rfl, ?_⟩
      exact below_row hb (Nat.le_refl _) _

/-- viewOf: what is to be seen of a state while groups alone are told apart. -/
theorem view_any {b1 b2 : Nat} {v1 v2 : Value} (l : List (Nat × Bool)) (gs : List Nat) (w : World) (h1 : w.ownsRow b1 81 2 v1 l.length (arrs l)) (h2 : w.ownsRow b2 3 1 v2 gs.length (ints gs))
    (h0 : 0 < l.length) (h7 : l.length ≤ 7) (hgm : gs.length ≤ 1000000) (hin : ∀ a ∈ l, a.1 < gs.length) :
    Calls Tryz.prog 61 #[v1, v2] w fun e w' => e = .returned (.agg (seven (vi l gs))) ∧ Below w.heap.size w w' := by
  have hg0 : 0 < gs.length := by
    cases l with
    | nil => simp at h0
    | cons a l => have := hin a (by simp); omega
  obtain ⟨g1, c1, rfl, _, hg1, _, _, f1, _⟩ := own_head h1 h0
  obtain ⟨g2, c2, rfl, _, hg2, _, _, f2, _⟩ := own_head h2 hg0
  exact view_walk l gs g1 g2 c1 c2 _ _ w rfl rfl h7 hgm hg1 hg2 f1 f2 hin

end Go.Proofs.YtnecjeambpikdaaGreatDoor
