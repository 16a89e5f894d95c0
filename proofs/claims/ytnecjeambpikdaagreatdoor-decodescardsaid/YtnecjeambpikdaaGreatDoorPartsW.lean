import Derived.Test.YtnecjeambpikdaaGreatDoorPartsP
import Derived.Test.YtnecjeambpikdaaGreatDoorBrkB
namespace Go.Proofs.YtnecjeambpikdaaGreatDoor
open Go.RowKit

theorem idx_eq {α : Type} [BEq α] [LawfulBEq α] : ∀ (l : List α) (k : Nat) (v : α), l[k]? = some v → (∀ j, j < k → l[j]? ≠ some v) → l.idxOf v = k
  | [], k, v, h, _ => by simp at h
  | a :: l, 0, v, h, _ => by simp at h; subst h; simp
  | a :: l, k + 1, v, h, hn => by
    have ha : a ≠ v := fun e => hn 0 (by omega) (by simp [e])
    have := idx_eq l k v (by simpa using h) (fun j hj => by have := hn (j + 1) (by omega); simpa using this)
    rw [List.idxOf_cons, beq_eq_false_iff_ne.2 ha]
    simp [this]
theorem own_low {w : World} {g j base : Nat} {u : Value} {e : TypeId} {size : Nat} {v : Value} {n : Nat} {xs : List Value} (h : w.ownsRow base e size v n xs) (hg : g < base) : (w.setCell ⟨g, j, none⟩ u).ownsRow base e size v n xs := by
  obtain ⟨h1, h2⟩ := h
  refine ⟨h1, ?_⟩
  rcases h2 with h2 | ⟨g', cap, cur, hv, hg', hh, r⟩
  · exact Or.inl h2
  · refine Or.inr ⟨g', cap, cur, hv, hg', ?_, r⟩
    rw [heap_setCell_other w ⟨g, j, none⟩ g' u (by simp; omega)]; exact hh

/-- How far the states have been gone through. -/
theorem seen_new {st : List Arrows} {p F : List Nat} {N i : Nat} (hi : i < N) (hF : F.map (vv st p) = (numAll (((List.range N).map (vv st p)).take i)).2) (hno : ∀ (j x : Nat), F[j]? = some x → vv st p i ≠ vv st p x) :
    (numAll (((List.range N).map (vv st p)).take (i + 1))).1 = (numAll (((List.range N).map (vv st p)).take i)).1 ++ [F.length] ∧ (F ++ [i]).map (vv st p) = (numAll (((List.range N).map (vv st p)).take (i + 1))).2 := by
  have hg : ((List.range N).map (vv st p))[i]? = some (vv st p i) := by rw [List.getElem?_map, List.getElem?_range hi]; rfl
  rw [take_step hg, numAll_snoc, numStep, ← hF]
  have hc : (F.map (vv st p)).contains (vv st p i) = false := by
    rw [Bool.eq_false_iff]
    intro h
    rw [List.contains_iff_mem, List.mem_map] at h
    obtain ⟨x, hx, hxe⟩ := h
    obtain ⟨j, hj, hjx⟩ := List.getElem_of_mem hx
    exact hno j x (by rw [List.getElem?_eq_getElem hj, hjx]) hxe.symm
  rw [hc]
  simp
theorem seen_old {st : List Arrows} {p F : List Nat} {N i k x : Nat} (hi : i < N) (hF : F.map (vv st p) = (numAll (((List.range N).map (vv st p)).take i)).2) (hx : F[k]? = some x) (he : vv st p i = vv st p x) (hno : ∀ (j x : Nat), j < k → F[j]? = some x → vv st p i ≠ vv st p x) :
    (numAll (((List.range N).map (vv st p)).take (i + 1))).1 = (numAll (((List.range N).map (vv st p)).take i)).1 ++ [k] ∧ F.map (vv st p) = (numAll (((List.range N).map (vv st p)).take (i + 1))).2 := by
  have hg : ((List.range N).map (vv st p))[i]? = some (vv st p i) := by rw [List.getElem?_map, List.getElem?_range hi]; rfl
  rw [take_step hg, numAll_snoc, numStep, ← hF]
  have hk : (F.map (vv st p))[k]? = some (vv st p i) := by rw [List.getElem?_map, hx, he]; rfl
  have hc : (F.map (vv st p)).contains (vv st p i) = true := by rw [List.contains_iff_mem]; exact List.mem_of_getElem? hk
  have hix : (F.map (vv st p)).idxOf (vv st p i) = k := by
    refine idx_eq _ k _ hk (fun j hj h => ?_)
    rw [List.getElem?_map] at h
    obtain ⟨y, hy, hye⟩ := Option.map_eq_some_iff.1 h
    exact hno j y hj hy hye.symm
  rw [hc, hix]
  simp

theorem q_cell {w5 : World} {base g N i : Nat} {nums : List Nat} (hl : nums.length = i) (hlt : i < N) (h : w5.ownsRow base 3 1 (.slice (some ⟨g, 0, none⟩) N N) N (ints (nums ++ List.replicate (N - i) 0))) : w5.cell? ⟨g, i, none⟩ = some (.int .i64 0) := by
  rw [h.cellAt i (by omega)]
  refine ints_get _ _ 0 ?_
  rw [List.getElem?_append_right (by omega), hl, Nat.sub_self, List.getElem?_replicate, if_pos (by omega)]

set_option maxHeartbeats 8000000 in
set_option maxRecDepth 100000 in
theorem parts_walk (cl : List (List (Nat × Nat))) (st : List Arrows) (base tb W : Nat) (w : World) (ht : RTab w base tb cl st) (h0 : 0 < st.length) (hn : st.length ≤ 1000) (hW : W = cl.length + 1) (hcl : cl.length ≤ 6) (hst : ∀ r ∈ st, r.length = W ∧ ∀ x ∈ r, x.1 < st.length) :
    Calls Tryz.prog 27 #[.pointer (some ⟨tb, 0, none⟩)] w fun e w' => ∃ v k, e = .returned v ∧ w'.ownsRow w.heap.size 3 1 v st.length (ints (groupsN st (k + 1))) ∧ IsFinal st (groupsN st (k + 1)) ∧ Below w.heap.size w w' := by
  obtain ⟨i0, hi, hz0, hz1, hz2⟩ := info_parts info3
  have hcd : Closed st := fun r hr a ha => (hst r hr).2 a ha
  have HT := hide ht
  obtain ⟨vc, gt, gx, capt, capx, t0, t1, t2, _, _⟩ := ht.open_ h0
  have AL := hide (show ∀ (w' : World) (k i x base2 : Nat) (v : Value), Below w.heap.size w w' → w'.ownsRow base2 3 1 v st.length (ints (groupsN st k)) → i < st.length → x < st.length →
      Calls Tryz.prog 47 #[.pointer (some ⟨tb, 0, none⟩), v, .int .i64 (i : Int), .int .i64 (x : Int)] w' fun e w'' => e = .returned (.bool (decide (vv st (groupsN st k) i = vv st (groupsN st k) x))) ∧ Below w'.heap.size w' w'' by
    intro w' k i x base2 v hb ho hi hx
    exact alike_walk cl st (groupsN st k) i x base base2 tb W v w' (ht.below hb) (by rw [groupsN_length]; exact ho) (groupsN_length st k) hn hW hcl hst (st.getD i []) (st.getD x []) (getD_some _ _ _ hi) (getD_some _ _ _ hx))
  have HCD := hide hcd
  clear ht hcd hst t0 t2
  generalize hN : st.length = N at *
  have HN := hide hN
  clear hN
  have hz : ints (List.replicate N 0) = (madeCells (Value.int .i64 0).cells (N * 1)).toList := by
    rw [show (Value.int .i64 0).cells = #[.int .i64 0] from rfl, toList_madeCells_one]; simp [ints]
  have HZ := hide hz
  clear hz
  go_enter Tryz.func27, Tryz.ntmps27
  go_wp2_with (at_make; refine wpList_make_full _ rfl _ _ 33 rfl w.heap.size 3 i0 (.int .i64 0) 1 Tryz.underlying33 hi hz0 hz1 .i64 .i64 N N N rfl rfl rfl rfl (by rw [hz2]; omega) (by unfold maxLen; omega) (Nat.le_refl _) ?_; intro w1 hown1 hgrow1)
  have HO1 := hide (show w1.ownsRow w.heap.size 3 1 (.slice (some ⟨w.heap.size, 0, none⟩) N N) N (ints (groupsN st 0)) by
    rw [← HZ.out] at hown1
    rw [groupsN, HN.out]; exact hown1)
  have HB1 := hide ((Below.refl w.heap.size w).grown hgrow1 (Nat.le_refl _) (by simp))
  clear hown1 hgrow1
  go_loopw [3, 4] (fun pv nv wr => ∃ k n : Nat, nv = .int .i64 (n : Int) ∧ wr.ownsRow w.heap.size 3 1 pv N (ints (groupsN st k)) ∧ n = (if k = 0 then 1 else countN st k) ∧ 1 ≤ n ∧ n ≤ N ∧ Below w.heap.size w wr) (fun _ n _ => N - (intOf n).toNat)
  case atStart => exact ⟨0, 1, rfl, HO1.out, rfl, by omega, by omega, HB1.out⟩
  case round =>
    obtain ⟨wo, rfl⟩ : ∃ x, x = wr := ⟨_, rfl⟩
    obtain ⟨k, n, rfl, hown, hnk, hn1, hnN, hb⟩ := hrel
    have HO := hide hown
    have HNK := hide hnk
    have HB := hide hb
    obtain ⟨ap, cp, rfl, _, _⟩ := own_shape hown
    have hwr := hb.size
    clear hown hnk hb HO1 HB1
    go_wp2_with (at_make; refine wpList_make_full _ rfl _ _ 33 rfl wo.heap.size 3 i0 (.int .i64 0) 1 Tryz.underlying33 hi hz0 hz1 .i64 .i64 N N N rfl rfl rfl rfl (by rw [hz2]; omega) (by unfold maxLen; omega) (Nat.le_refl _) ?_; intro w2 hown2 hgrow2)
    have hw2 : wo.heap.size < w2.heap.size := by
      rcases hown2.2 with ⟨h, _⟩ | ⟨g, cap, cur, h, _, hh, _⟩
      · cases h
      · injection h with h; injection h with h; injection h with h
        rw [← h] at hh; exact lt_of_block hh
    have HO2 := hide (show w2.ownsRow wo.heap.size 3 1 (.slice (some ⟨wo.heap.size, 0, none⟩) N N) N (ints (List.replicate N 0)) by rw [HZ.out]; exact hown2)
    have HB2 := hide ((Below.refl wo.heap.size wo).grown hgrow2 (Nat.le_refl _) (by simp))
    clear hown2 hgrow2
    obtain ⟨Vs, hVs⟩ : ∃ Vs, Vs = (List.range N).map (vv st (groupsN st k)) := ⟨_, rfl⟩
    have HVs := hide hVs
    clear hVs
    go_loopw [6, 7] (fun fv iv wi => ∃ (i : Nat) (F : List Nat), i ≤ N ∧ iv = .int .i64 (i : Int) ∧ F.length ≤ i ∧ (∀ x ∈ F, x < N) ∧ F.map (vv st (groupsN st k)) = (numAll (Vs.take i)).2 ∧ wi.ownsRow w2.heap.size 3 1 fv F.length (ints F) ∧
        wi.ownsRow wo.heap.size 3 1 (.slice (some ⟨wo.heap.size, 0, none⟩) N N) N (ints ((numAll (Vs.take i)).1 ++ List.replicate (N - i) 0)) ∧ Below wo.heap.size wo wi ∧ w2.heap.size ≤ wi.heap.size) (fun _ i _ => N - (intOf i).toNat)
    case atStart => exact ⟨0, [], Nat.zero_le _, rfl, Nat.le_refl _, by simp, by simp [numAll], World.ownsRow_nil _ _ _ _, by simpa [numAll] using HO2.out, HB2.out, Nat.le_refl _⟩
    case round =>
      obtain ⟨i, F, hiN, rfl, hFi, hFN, hFm, hof, hoq, hbi, hszi⟩ := hrel
      have HFN := hide hFN
      have HFM := hide hFm
      have HOF := hide hof
      have HOQ := hide hoq
      have HBI := hide hbi
      obtain ⟨af, cf, rfl, _, _⟩ := own_shape hof
      obtain ⟨wi, rfl⟩ : ∃ x, x = wr := ⟨_, rfl⟩
      clear hFN hFm hof hoq hbi HO2 HB2
      have HNL := hide (show (numAll (Vs.take i)).1.length = i by
        rw [numAll_length, List.length_take, HVs.out, List.length_map, List.length_range]; omega)
      by_cases hlt : i < N
      · -- where the rest of the round begins: the row's number is known
        have HOld := hide (show ∀ (kk x : Nat) (wj : World), F[kk]? = some x → vv st (groupsN st k) i = vv st (groupsN st k) x → (∀ (j x : Nat), j < kk → F[j]? = some x → vv st (groupsN st k) i ≠ vv st (groupsN st k) x) → Below wi.heap.size wi wj →
            ∃ (i' : Nat) (F' : List Nat), i' ≤ N ∧ Value.int .i64 ((i : Int) + 1) = .int .i64 (i' : Int) ∧ F'.length ≤ i' ∧ (∀ x ∈ F', x < N) ∧ F'.map (vv st (groupsN st k)) = (numAll (Vs.take i')).2 ∧ (wj.setCell ⟨wo.heap.size, i, none⟩ (.int .i64 (kk : Int))).ownsRow w2.heap.size 3 1 (.slice af F.length cf) F'.length (ints F') ∧
              (wj.setCell ⟨wo.heap.size, i, none⟩ (.int .i64 (kk : Int))).ownsRow wo.heap.size 3 1 (.slice (some ⟨wo.heap.size, 0, none⟩) N N) N (ints ((numAll (Vs.take i')).1 ++ List.replicate (N - i') 0)) ∧ Below wo.heap.size wo (wj.setCell ⟨wo.heap.size, i, none⟩ (.int .i64 (kk : Int))) ∧ w2.heap.size ≤ (wj.setCell ⟨wo.heap.size, i, none⟩ (.int .i64 (kk : Int))).heap.size by
          intro kk x wj hx he hno hb
          obtain ⟨s1, s2⟩ := seen_old hlt (by rw [← HVs.out]; exact HFM.out) hx he hno
          rw [← HVs.out] at s1 s2
          refine ⟨i + 1, F, by omega, by go_num, by omega, HFN.out, s2, own_low (own_below HOF.out hb (Nat.le_refl _)) hw2, ?_, (below_trans' HBI.out hb HBI.out.size).setCell (p := ⟨wo.heap.size, i, none⟩) (Nat.le_refl _) _, by have := hb.size; simp; omega⟩
          rw [s1, ← ints_set_next _ i N kk HNL.out hlt]
          exact ((own_below HOQ.out hb (Nat.le_refl _)).stored i _).1)
        have HNew := hide (show ∀ (w5 : World) (v5 : Value), (∀ (j x : Nat), F[j]? = some x → vv st (groupsN st k) i ≠ vv st (groupsN st k) x) → w5.ownsRow w2.heap.size 3 1 v5 (F.length + 1) (ints F ++ [.int .i64 (i : Int)]) → w5.ownsRow wo.heap.size 3 1 (.slice (some ⟨wo.heap.size, 0, none⟩) N N) N (ints ((numAll (Vs.take i)).1 ++ List.replicate (N - i) 0)) → Below wo.heap.size wo w5 → w2.heap.size ≤ w5.heap.size →
            ∃ (i' : Nat) (F' : List Nat), i' ≤ N ∧ Value.int .i64 ((i : Int) + 1) = .int .i64 (i' : Int) ∧ F'.length ≤ i' ∧ (∀ x ∈ F', x < N) ∧ F'.map (vv st (groupsN st k)) = (numAll (Vs.take i')).2 ∧ (w5.setCell ⟨wo.heap.size, i, none⟩ (.int .i64 (F.length : Int))).ownsRow w2.heap.size 3 1 v5 F'.length (ints F') ∧
              (w5.setCell ⟨wo.heap.size, i, none⟩ (.int .i64 (F.length : Int))).ownsRow wo.heap.size 3 1 (.slice (some ⟨wo.heap.size, 0, none⟩) N N) N (ints ((numAll (Vs.take i')).1 ++ List.replicate (N - i') 0)) ∧ Below wo.heap.size wo (w5.setCell ⟨wo.heap.size, i, none⟩ (.int .i64 (F.length : Int))) ∧ w2.heap.size ≤ (w5.setCell ⟨wo.heap.size, i, none⟩ (.int .i64 (F.length : Int))).heap.size by
          intro w5 v5 hno ho hq hb hsz
          obtain ⟨s1, s2⟩ := seen_new hlt (by rw [← HVs.out]; exact HFM.out) hno
          rw [← HVs.out] at s1 s2
          refine ⟨i + 1, F ++ [i], by omega, by go_num, by simp; omega, fun x hx => ?_, s2, ?_, ?_, hb.setCell (p := ⟨wo.heap.size, i, none⟩) (Nat.le_refl _) _, by simp; omega⟩
          · rw [List.mem_append, List.mem_singleton] at hx
            rcases hx with hx | rfl
            · exact HFN.out x hx
            · exact hlt
          · rw [List.length_append, List.length_singleton, ints_append]
            exact own_low ho hw2
          · rw [s1, ← ints_set_next _ i N F.length HNL.out hlt]
            exact (hq.stored i _).1)
        have HQC := hide (show ∀ wj, Below wi.heap.size wi wj → wj.cell? ⟨wo.heap.size, i, none⟩ = some (.int .i64 0) ∧ wj.frozen? ⟨wo.heap.size, i, none⟩ = false by
          intro wj hb
          have h1 := own_below HOQ.out hb (Nat.le_refl _)
          refine ⟨?_, h1.frozenAt i⟩
          rw [h1.cellAt i (by omega)]
          refine ints_get _ _ 0 ?_
          have h2 := HNL.out
          rw [List.getElem?_append_right (by omega), h2, Nat.sub_self, List.getElem?_replicate, if_pos (by omega)])
        have HBW := hide (show ∀ wj, Below wi.heap.size wi wj → Below w.heap.size w wj ∧ wj.ownsRow w.heap.size 3 1 (.slice ap N cp) N (ints (groupsN st k)) from fun wj hb =>
          ⟨below_trans' HB.out (below_trans' HBI.out hb HBI.out.size) hwr, own_below HO.out (below_trans' HBI.out hb HBI.out.size) (Nat.le_refl _)⟩)
        go_wp2_with fail
        go_loopw [8] (fun kv wj => ∃ kk : Nat, kk ≤ F.length ∧ kv = .int .i64 (kk : Int) ∧ (∀ (j x : Nat), j < kk → F[j]? = some x → vv st (groupsN st k) i ≠ vv st (groupsN st k) x) ∧ Below wi.heap.size wi wj) (fun kv _ => F.length - (intOf kv).toNat)
        case atStart => exact ⟨0, Nat.zero_le _, rfl, by simp, Below.refl _ _⟩
        case round =>
          obtain ⟨kk, hkk, rfl, hno, hbj⟩ := hrel
          obtain ⟨wj, rfl⟩ : ∃ x, x = wr := ⟨_, rfl⟩
          have HNO := hide hno
          have HBJ := hide hbj
          have hszj := hbj.size
          obtain ⟨hqc, hqz⟩ := HQC.out wj hbj
          clear hno hbj
          have hFN1 : F.length ≤ 1000 := by omega
          by_cases hkl : kk < F.length
          · have hx : F[kk]? = some (F.getD kk 0) := getD_some _ _ _ hkl
            have hxN := HFN.out _ (List.mem_of_getElem? hx)
            obtain ⟨gf, cf2, hvf, _, _, _, _, hcf, _⟩ := own_head (own_below HOF.out HBJ.out (Nat.le_refl _)) (by omega)
            injection hvf with haf _ hcf2
            subst haf
            subst hcf2
            have hxc := hcf kk _ (ints_get F kk _ hx)
            have HX := hide hx
            clear hx hcf
            generalize F.getD kk 0 = x at *
            obtain ⟨hbw, hpo⟩ := HBW.out wj HBJ.out
            have CA := hide (AL.out wj k i x w.heap.size (.slice ap N cp) hbw hpo hlt hxN)
            clear hbw hpo
            by_cases he : vv st (groupsN st k) i = vv st (groupsN st k) x
            · have CA2 := hide (show Calls Tryz.prog 47 #[.pointer (some ⟨tb, 0, none⟩), .slice ap N cp, .int .i64 (i : Int), .int .i64 (x : Int)] wj fun e w'' => e = .returned (.bool true) ∧ Below wj.heap.size wj w'' by
                have := CA.out; rwa [decide_eq_true he] at this)
              have HEq := hide he
              clear CA he
              go_wp2_with fail
              refine CA2.out.mono ?_
              rintro e w4 ⟨rfl, hb4⟩
              have hb44 := below2 HBJ.out hb4
              have HFin := hide (HOld.out kk x w4 HX.out HEq.out HNO.out hb44)
              obtain ⟨hqc4, hqz4⟩ := HQC.out w4 hb44
              have hq4 : wo.heap.size < w4.heap.size := by have := hb44.size; omega
              have bk : ((kk : Int) == (F.length : Int)) = false := by rw [beq_eq_false_iff_ne]; omega
              clear hb4 hb44 CA2 HEq HOld HNew HQC
              go_wp2
              go_roundw
              case rel => exact HFin.out
              case measure => simp [intOf]; omega
            · have CA2 := hide (show Calls Tryz.prog 47 #[.pointer (some ⟨tb, 0, none⟩), .slice ap N cp, .int .i64 (i : Int), .int .i64 (x : Int)] wj fun e w'' => e = .returned (.bool false) ∧ Below wj.heap.size wj w'' by
                have := CA.out; rwa [decide_eq_false he] at this)
              have HEq := hide he
              clear CA he
              go_wp2_with fail
              refine CA2.out.mono ?_
              rintro e w4 ⟨rfl, hb4⟩
              have HB4 := hide (below2 HBJ.out hb4)
              have HNO2 := hide (show ∀ (j x : Nat), j < kk + 1 → F[j]? = some x → vv st (groupsN st k) i ≠ vv st (groupsN st k) x by
                intro j y hj hy
                rcases Nat.lt_or_ge j kk with h | h
                · exact HNO.out j y h hy
                · have : j = kk := by omega
                  subst this
                  rw [HX.out] at hy
                  injection hy with hy
                  rw [← hy]
                  exact HEq.out)
              clear hb4 CA2 HEq HOld HNew HQC
              go_wp2
              go_roundw
              case rel => exact ⟨kk + 1, by omega, by go_num, HNO2.out, HB4.out⟩
              case measure => simp [intOf]; omega
          · have hkk2 : kk = F.length := by omega
            have HNO2 := hide (show ∀ (j x : Nat), F[j]? = some x → vv st (groupsN st k) i ≠ vv st (groupsN st k) x by
              intro j y hy
              refine HNO.out j y ?_ hy
              rcases Nat.lt_or_ge j F.length with h | h
              · omega
              · rw [List.getElem?_eq_none h] at hy; cases hy)
            have bk : ((kk : Int) == (F.length : Int)) = true := by rw [beq_iff_eq]; omega
            have HOFj := hide (own_below HOF.out HBJ.out (Nat.le_refl _))
            have HOQj := hide (own_below HOQ.out HBJ.out (Nat.le_refl _))
            have HQ5 := hide (show ∀ w5, (wj.alloc (.cells #[.int .i64 (i : Int)] 3)).grownBy w5 (Value.slice af F.length cf).ownBlock → w5.ownsRow wo.heap.size 3 1 (.slice (some ⟨wo.heap.size, 0, none⟩) N N) N (ints ((numAll (Vs.take i)).1 ++ List.replicate (N - i) 0)) by
              intro w5 hg
              refine (HOQj.out.alloc _).kept hg (.inr ?_)
              intro e
              have := (own_lt HOFj.out wo.heap.size (by rw [← e]; rfl)).1
              omega)
            go_wp2_with (at_builtin; refine wpList_append_own _ rfl _ _ 33 rfl w2.heap.size 3 i0 (.int .i64 0) 1 8 Tryz.underlying33 hi hz0 hz1 hz2 rfl (by decide) _ F.length (ints F) rfl (HOFj.out.alloc _) ⟨wj.heap.size, 0, none⟩ 1 1 [.int .i64 (i : Int)] rfl rfl (one_news wj _ 3) (one_int _) (by unfold maxLen; omega) (by omega) (by simp; omega) ?_; intro v5 w5 hown5 hgrow5 hnil5; have hq5 := HQ5.out w5 hgrow5; have hqc5 : w5.cell? ⟨wo.heap.size, i, none⟩ = some (.int .i64 0) := q_cell HNL.out hlt hq5; have hqz5 : w5.frozen? ⟨wo.heap.size, i, none⟩ = false := hq5.frozenAt i; have hsz5 : w2.heap.size ≤ w5.heap.size := (by have := hgrow5.size; simp at this; omega); obtain ⟨a5, c5, rfl, _, _⟩ := own_shape hown5)
            have hB5 : Below wo.heap.size wo w5 := ((below_trans' HBI.out HBJ.out HBI.out.size).alloc (by have := HBI.out.size; omega) _).grown hgrow5 (by have := HBI.out.size; simp; omega) (fun k hk => by have := (own_lt HOFj.out k hk).1; omega)
            have HFin := hide (HNew.out w5 _ HNO2.out hown5 hq5 hB5 hsz5)
            clear hB5 hown5 hq5 hgrow5
            subst hkk2
            go_roundw
            case rel => exact HFin.out
            case measure => simp [intOf]; omega
      · have hiN2 : i = N := by omega
        subst hiN2
        have HAll := hide (show Vs.take i = Vs from List.take_of_length_le (by rw [HVs.out, List.length_map, List.length_range]; exact Nat.le_refl _))
        have hstep := parts_step st HCD.out k
        rw [HN.out, ← HVs.out] at hstep
        have HFL := hide (show F.length = countN st (k + 1) by
          have h1 := congrArg List.length HFM.out
          rw [List.length_map, HAll.out, hstep.2] at h1
          exact h1)
        have HQF := hide (show wi.ownsRow w.heap.size 3 1 (.slice (some ⟨wo.heap.size, 0, none⟩) i i) i (ints (groupsN st (k + 1))) by
          have h1 := HOQ.out
          rw [HAll.out, hstep.1, Nat.sub_self, List.replicate_zero, List.append_nil] at h1
          exact own_base h1 hwr)
        have HBF := hide (below_trans' HB.out HBI.out hwr)
        have hF1 : 1 ≤ F.length := by rw [HFL.out]; exact count_pos st (by rw [HN.out]; exact h0) k
        have hFle : F.length ≤ i := hFi
        clear hstep
        by_cases hFn : F.length = n
        · have bn : ((F.length : Int) == (n : Int)) = true := by rw [beq_iff_eq]; omega
          have HFin := hide (show IsFinal st (groupsN st (k + 1)) by
            have h1 := HNK.out
            have h2 := HFL.out
            by_cases hk0 : k = 0
            · subst hk0
              rw [if_pos rfl] at h1
              exact final_of_one st (by rw [← h2, hFn, h1])
            · rw [if_neg hk0] at h1
              exact final_of_count st HCD.out (by rw [HN.out]; exact h0) k (by rw [← h2, hFn, h1]))
          clear hFn
          go_wp2
          go_ret
          exact ⟨_, k, rfl, HQF.out, HFin.out, HBF.out⟩
        · have bn : ((F.length : Int) == (n : Int)) = false := by rw [beq_eq_false_iff_ne]; omega
          have hgt : n < F.length := by
            have h1 := HNK.out
            have h2 := HFL.out
            by_cases hk0 : k = 0
            · rw [if_pos hk0] at h1; omega
            · rw [if_neg hk0] at h1
              have := countN_mono st HCD.out k
              omega
          have HNK2 := hide (show F.length = (if k + 1 = 0 then 1 else countN st (k + 1)) by rw [if_neg (by omega)]; exact HFL.out)
          clear hFn
          go_wp2
          go_roundw
          case rel => exact ⟨k + 1, F.length, rfl, HQF.out, HNK2.out, hF1, hFle, HBF.out⟩
          case measure => simp [intOf]; omega

end Go.Proofs.YtnecjeambpikdaaGreatDoor
