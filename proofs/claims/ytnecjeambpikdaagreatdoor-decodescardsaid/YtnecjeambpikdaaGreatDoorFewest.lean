import Derived.Test.YtnecjeambpikdaaGreatDoorGroupsOf
namespace Go.Proofs.YtnecjeambpikdaaGreatDoor
open Go.RowKit

theorem info81 : (Tryz.prog.info? 81).map (fun i => (i.zero, i.size, i.bytes)) = some (some (.agg #[.int .i64 0, .bool false]), 2, 16) := by kernel_rfl
theorem info73 : (Tryz.prog.info? 73).map (fun i => (i.zero, i.size, i.bytes)) = some (some (.slice none 0 0), 1, 24) := by kernel_rfl

theorem clone_cell {w : World} {b : Nat} {xs : List Value} {o : Obj} (hc : ∀ j u, xs[j]? = some u → w.cell? ⟨b, j, none⟩ = some u) (hb : b < w.heap.size) {j : Nat} {u : Value} (hj : xs[j]? = some u) : (w.alloc o).cell? ((⟨b, 0, none⟩ : Addr).add j) = some u := by
  rw [addr_add, World.cell?_alloc_lt _ _ _ hb]
  exact hc j u hj

set_option maxRecDepth 100000 in
set_option maxHeartbeats 1000000 in
theorem clone_walk (b L c : Nat) (xs : List Value) (w : World) (hx : xs.length = L * 2) (hL : L ≤ 7) (hc : ∀ j u, xs[j]? = some u → w.cell? ⟨b, j, none⟩ = some u) (h1 : ∀ u ∈ xs, u.oneCell' = true) (hb : b < w.heap.size) :
    Calls Tryz.prog 62 #[.slice (some ⟨b, 0, none⟩) L c] w fun e w' => ∃ ao cap, e = .returned (.slice ao L cap) ∧ Below w.heap.size w w' := by
  obtain ⟨i0, hi, hz0, hz1, hz2⟩ := info_parts info81
  have HX := hide hx
  have HC := hide hc
  have H1 := hide h1
  clear hx hc h1
  have qn := fun (w : World) (a : Option Addr) (l c : Nat) => Lib.run_eql_slice_nil (P := Tryz.prog) w 73 81 a l c 0 0 Tryz.underlying73
  go_enter Tryz.func62, Tryz.ntmps62
  go_wp2_with (at_builtin; go_loud (refine wpList_append_own _ rfl (.tmp 5) (.tmp 6) 73 rfl w.heap.size 81 i0 (.agg #[.int .i64 0, .bool false]) 2 16 Tryz.underlying73 hi hz0 hz1 hz2 rfl (by decide) (.slice (some ⟨w.heap.size, 0, none⟩) 0 0) 0 [] rfl (World.ownsRow_lit w #[] 0 (Nat.le_refl _) (Nat.zero_le _) rfl) ⟨b, 0, none⟩ L c xs rfl HX.out (fun j u hj => clone_cell HC.out hb hj) H1.out (by unfold maxLen; omega) (by omega) (by simp) ?_); intro v' w1 hown1 hgrow1 _)
  go_ret
  obtain ⟨ao, cap, hv, _, _⟩ := own_shape hown1
  rw [Nat.zero_add] at hv
  refine ⟨ao, cap, by rw [hv]; rfl, ?_⟩
  exact ((Below.refl _ _).alloc (Nat.le_refl _) _).grown hgrow1 (by simp) (fun j hj => by simp [Value.ownBlock] at hj; omega)

theorem seven_cells (f : Nat → Nat × Bool) (L : Nat) (h : L ≤ 7) : ((seven f).toList.take (L * 2)).length = L * 2 ∧ (∀ u ∈ (seven f).toList.take (L * 2), u.oneCell' = true) := by
  refine ⟨?_, fun u hu => ?_⟩
  · rw [List.length_take]
    have : (seven f).toList.length = 14 := rfl
    omega
  · have := List.mem_of_mem_take hu
    have h1 := Array.all_eq_true_iff_forall_mem.1 (seven_one f) u (by simpa using this)
    exact h1

theorem clone_new {w : World} {S : Array Value} {n : Nat} (_h : S.size = 14) {j : Nat} {u : Value} (hj : (S.toList.take n)[j]? = some u) : (w.alloc (.cells S 122)).cell? ⟨w.heap.size, j, none⟩ = some u := by
  refine row_cell (heap_push_new w _) ?_
  rw [List.getElem?_take] at hj
  split at hj
  · simpa using hj
  · cases hj
theorem alen122 : Tryz.prog.arrayLen 122 = 7 := by kernel_rfl
theorem elem122 : Tryz.prog.elem 122 = 81 := by kernel_rfl
theorem size81 (w : World) : (sizeOf 81).run Tryz.prog w = .ok 2 w := by kernel_rfl
theorem slice122 (b L : Nat) (h : L ≤ 7) (w : World) : (Instr.sliceAt 122 (.pointer (some ⟨b, 0, none⟩)) none (some (.int .i64 (L : Int))) none).run Tryz.prog w = .ok (.slice (some ⟨b, 0, none⟩) L 7) w := by
  have hu : Tryz.prog.underlying 122 = some (.array (Tryz.prog.arrayLen 122) (Tryz.prog.elem 122)) := by rw [alen122, elem122]; exact Tryz.underlying122
  rw [run_sliceAt_array_h w 122 _ hu .i64 (L : Int) (by omega) (by rw [alen122]; omega), elem122, size81, alen122]
  simp [slicedAt, Result.andThen, Addr.add]

set_option maxRecDepth 100000 in
set_option maxHeartbeats 2000000 in
theorem fewest_walk (states : List Arrows) (Wd base : Nat) (v : Value) (w : World) (hv : Rows2 w base 73 81 2 arrs v states)
    (hpos : 0 < states.length) (hn : states.length ≤ 1000) (hW0 : 0 < Wd) (hW7 : Wd ≤ 7) (ha : ∀ r ∈ states, r.length = Wd ∧ ∀ a ∈ r, a.1 < states.length) :
    Calls Tryz.prog 45 #[v] w fun e w' => ∃ ao cap k, e = .returned (.slice ao (madeCount (groupsN states (k + 1))) cap) ∧ IsFinal states (groupsN states (k + 1)) ∧ Below w.heap.size w w' := by
  obtain ⟨i0, hi, hz0, hz1, hz2⟩ := info_parts info73
  obtain ⟨g, cap, rfl, hbg, hglt, hrow⟩ := hv.head hpos
  have HR := hide hrow
  have HV := hide hv
  have HA := hide ha
  have HPOS := hide hpos
  have HNN := hide hn
  clear hv ha hrow hpos hn
  have hN1 := HNN.out
  generalize hN : states.length = N at *
  have HN := hide hN
  clear hN
  go_enter Tryz.func45, Tryz.ntmps45
  go_wp2_with fail
  have hb1 := HN.out
  refine (groups_walk states Wd base _ w HV.out (by have := HPOS.out; omega) (by omega) hW0 hW7 (by rw [hb1]; exact HA.out)).mono ?_
  rintro e w1 ⟨v3, kk, rfl, hown1, hfin, hb⟩
  rw [hb1] at hown1
  obtain ⟨g2, cap2, rfl, _, hg2lt, _, _, hc2, _⟩ := own_head hown1 HPOS.out
  have HO1 := hide hown1
  have HC2 := hide hc2
  have HFIN := hide hfin
  have HB := hide hb
  have HGL := hide (groupsN_length states (kk + 1))
  have HGLT := hide (groupsN_lt states (by have := HPOS.out; omega) (kk + 1))
  have hw1 := hb.size
  clear hown1 hc2 hfin hb hb1
  obtain ⟨G, hG⟩ : ∃ G, G = groupsN states (kk + 1) := ⟨_, rfl⟩
  rw [← hG] at HO1 HC2 HFIN HGL HGLT
  have HG := hide hG
  clear hG
  go_wp2_with fail
  go_loopw [4, 12] (fun mv i wr => ∃ k : Nat, ∃ xs : List Value, k ≤ N ∧ i = .int .i64 k ∧ wr.ownsRow w1.heap.size 73 1 mv (madeCount (G.take k)) xs ∧ madeCount (G.take k) ≤ k ∧ Below w1.heap.size w1 wr) (fun _ i _ => N - (intOf i).toNat)
  case atStart => exact ⟨0, [], Nat.zero_le _, rfl, World.ownsRow_nil _ _ _ _, Nat.le_refl _, Below.refl _ _⟩
  case round =>
    obtain ⟨k, xs, hk, rfl, hown, hmk, hb⟩ := hrel
    obtain ⟨mao, mcap, hmv, hmc1, hmc2⟩ := own_shape hown
    subst hmv
    have HO := hide hown
    have HBr := hide hb
    clear hown hb
    by_cases hlt : k < N
    · have hsl : states[k]? = some (states.getD k []) := getD_some _ _ _ (by have := HN.out; omega)
      obtain ⟨ao, c, hcell, hlc, hcm, hrl⟩ := HR.out k _ hsl
      obtain ⟨hlW, hla⟩ := HA.out _ (List.mem_of_getElem? hsl)
      generalize states.getD k [] = l at *
      have hgk : G[k]? = some (G.getD k 0) := getD_some _ _ _ (by rw [HGL.out, HN.out]; omega)
      have hnext := take_next hgk
      have hglt2 := HGLT.out _ (List.mem_of_getElem? hgk)
      rw [HN.out] at hglt2
      have hq := (HBr.out.cell (p := ⟨g2, k, none⟩) hg2lt).trans (HC2.out k _ (ints_get G k _ hgk))
      generalize G.getD k 0 = gk at *
      have HNX := hide hnext
      have hbw : Below w.heap.size w wr := below2 HB.out HBr.out
      have hcr : wr.cell? ⟨g, k, none⟩ = some (.slice ao l.length c) := (hbw.cell hglt).trans hcell
      have HL := hide (own_below hrl hbw (Nat.le_refl _))
      have HGr := hide (own_below HO1.out HBr.out (Nat.le_refl _))
      have HLA := hide hla
      have HLW := hide hlW
      clear hsl hcell hrl hla hgk hlW hnext hbw
      by_cases hgm : gk = madeCount (G.take k)
      · subst hgm
        have hbq : (((madeCount (G.take k) : Nat) : Int) == ((madeCount (G.take k) : Nat) : Int)) = true := by simp
        go_wp2_with fail
        have hb1 := HN.out
        refine (view_any l G wr HL.out (by rw [HGL.out, hb1]; exact HGr.out) (by have := HLW.out; omega) (by have := HLW.out; omega) (by have := HGL.out; omega) (by have := HGL.out; exact fun a h => by have := HLA.out a h; omega)).mono ?_
        rintro e w2 ⟨rfl, hb2⟩
        obtain ⟨S, hS⟩ : ∃ S, S = seven (vi l G) := ⟨_, rfl⟩
        have HS1 := hide (show S.all (·.oneCell') = true by rw [hS]; exact seven_one _)
        have HS2 := hide (show (Tryz.prog.info? 122).map (·.size) = some S.size by rw [hS]; exact info122)
        have HS3 := hide (show S.size = 14 by rw [hS]; rfl)
        have HSC := hide (show (S.toList.take (l.length * 2)).length = l.length * 2 ∧ (∀ u ∈ S.toList.take (l.length * 2), u.oneCell' = true) by rw [hS]; exact seven_cells _ _ (by have := HLW.out; omega))
        rw [← hS]
        have HB2 := hide hb2
        have hl7 : l.length ≤ 7 := by have := HLW.out; omega
        have HO2 := hide (own_below HO.out hb2 (Nat.le_refl _))
        have hw2 := hb2.size
        have hwr := HBr.out.size
        have hsl := slice122 w2.heap.size l.length hl7
        clear hS hb2 hb1
        go_wp2_with (refine wpList_store_row rfl 122 (.tmp 7) (.tmp 26) rfl w2.heap.size S rfl rfl 122 #[.int .i64 0, .bool false, .int .i64 0, .bool false, .int .i64 0, .bool false, .int .i64 0, .bool false, .int .i64 0, .bool false, .int .i64 0, .bool false, .int .i64 0, .bool false] (by exact heap_push_new _ _) HS2.out HS3.out.symm HS1.out ?_; rw [World.setRow_alloc_new])
        refine (clone_walk w2.heap.size l.length 7 (S.toList.take (l.length * 2)) _ HSC.out.1 hl7 (fun j u hj => clone_new (HS3.out) hj) HSC.out.2 (by simp)).mono ?_
        rintro e w3 ⟨ao3, cap3, rfl, hb3⟩
        have HB3 := hide hb3
        have HO3 := hide (own_below (HO2.out.alloc (.cells S 122)) hb3 (Nat.le_refl _))
        have hw3 : w2.heap.size + 1 ≤ w3.heap.size := by have := hb3.size; simpa using this
        clear hb3
        go_wp2_with (at_builtin; refine wpList_append_own _ rfl (.tmp 27) (.tmp 32) 63 rfl w1.heap.size 73 i0 (.slice none 0 0) 1 24 Tryz.underlying63 hi hz0 hz1 hz2 rfl (by decide) (.slice mao (madeCount (G.take k)) mcap) (madeCount (G.take k)) xs rfl (HO3.out.alloc _) ⟨w3.heap.size, 0, none⟩ 1 1 [.slice ao3 l.length cap3] rfl rfl (cell_one_new _ _ _) (by intro u hu; simp at hu; subst hu; rfl) (by unfold maxLen; omega) (by omega) (by simp; omega) ?_; intro v' w4 hown4 hgrow4 _)
        obtain ⟨mao4, mcap4, hv4, _, _⟩ := own_shape hown4
        rw [hv4] at hown4 ⊢
        have hB4 : Below w1.heap.size w1 w4 := by
          refine Below.grown ?_ hgrow4 (by simp; omega) (fun j hj => (HO.out.lt j hj).1)
          exact ((below_trans' ((HBr.out.trans (HB2.out.mono (by omega))).alloc (by omega) _) HB3.out (by simp; omega))).alloc (by omega) _
        have HB4 := hide hB4
        have HO4 := hide hown4
        clear hown4 hgrow4 hB4 hv4
        go_wp2
        go_roundw
        case rel => exact ⟨k + 1, _, by omega, by go_num, by rw [HNX.out, madeCount_snoc, if_pos rfl]; exact HO4.out, by rw [HNX.out, madeCount_snoc, if_pos rfl]; omega, HB4.out⟩
        case measure => simp [intOf]; omega
      · have hbq : (((gk : Nat) : Int) == ((madeCount (G.take k) : Nat) : Int)) = false := by rw [beq_eq_false_iff_ne]; omega
        go_wp2
        go_roundw
        case rel => exact ⟨k + 1, xs, by omega, by go_num, by rw [HNX.out, madeCount_snoc, if_neg hgm]; exact HO.out, by rw [HNX.out, madeCount_snoc, if_neg hgm]; omega, HBr.out⟩
        case measure => simp [intOf]; omega
    · go_wp2
      go_ret
      have htk : G.take k = G := List.take_of_length_le (by rw [HGL.out, HN.out]; omega)
      rw [htk]
      refine ⟨mao, mcap, kk, by rw [HG.out]; rfl, ?_, ?_⟩
      · rw [← HG.out]; exact HFIN.out
      · exact below2 HB.out HBr.out

set_option maxRecDepth 100000 in
set_option maxHeartbeats 1000000 in
/-- asFewAsCanBe: whether the groups that no round parts any more are the states themselves. -/
theorem few_walk (states : List Arrows) (Wd base : Nat) (v : Value) (w : World) (hv : Rows2 w base 73 81 2 arrs v states)
    (hpos : 0 < states.length) (hn : states.length ≤ 1000) (hW0 : 0 < Wd) (hW7 : Wd ≤ 7) (ha : ∀ r ∈ states, r.length = Wd ∧ ∀ a ∈ r, a.1 < states.length) :
    Calls Tryz.prog 25 #[v] w fun e w' => ∃ G, IsFinal states G ∧ e = .returned (.bool (decide (G = List.range states.length))) ∧ Below w.heap.size w w' := by
  obtain ⟨ao, cap, hsh, _, _⟩ := hv.shape
  have hf := fewest_walk states Wd base v w hv hpos hn hW0 hW7 ha
  subst hsh
  have HF := hide hf
  clear hf hv ha
  go_enter Tryz.func25, Tryz.ntmps25
  go_wp2_with fail
  refine HF.out.mono ?_
  rintro e w1 ⟨ao1, cap1, k, rfl, hfin, hb⟩
  have HFIN := hide hfin
  have HB := hide hb
  clear hfin hb HF
  go_wp2
  go_ret
  refine ⟨_, HFIN.out, ret_bool ?_, HB.out⟩
  rw [cast_beq]
  have := few_iff states k
  by_cases h : madeCount (groupsN states (k + 1)) = states.length
  · rw [decide_eq_true (this.1 h), beq_iff_eq.2 h]
  · have h2 : ¬ groupsN states (k + 1) = List.range states.length := fun e => h (this.2 e)
    simp [h, h2]

end Go.Proofs.YtnecjeambpikdaaGreatDoor
