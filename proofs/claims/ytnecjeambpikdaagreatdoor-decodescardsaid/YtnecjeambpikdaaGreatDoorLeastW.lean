import Derived.Test.YtnecjeambpikdaaGreatDoorLeastS
import Derived.Test.YtnecjeambpikdaaGreatDoorReadU
import Derived.Deep.RegionHeld3
namespace Go.Proofs.YtnecjeambpikdaaGreatDoor
open Go.RowKit

theorem info4 : (Tryz.prog.info? 4).map (fun i => (i.zero, i.size, i.bytes)) = some (some (.bool false), 1, 1) := by kernel_rfl
theorem info33 : (Tryz.prog.info? 33).map (fun i => (i.zero, i.size, i.bytes)) = some (some (.slice none 0 0), 1, 24) := by kernel_rfl
theorem info58 : (Tryz.prog.info? 58).map (fun i => (i.zero, i.size, i.bytes)) = some (some (.slice none 0 0), 1, 24) := by kernel_rfl

/-- Where least has come to, when a row begins. -/
def LO (p : List Nat) (st : List Arrows) (w2 : World) (B2 ob : Nat) (vc : Value) (i : Nat) (ov : Value) (wr : World) : Prop :=
  ∃ vt vx, LS w2 B2 ob vc wr ov (.slice none 0 0) (.slice none 0 0) vt vx (leastSt p st i).1 [] [] ((leastSt p st i).2.map (·.map Prod.fst)) ((leastSt p st i).2.map (·.map Prod.snd))

theorem grown_drew {w w' : World} {row : Option Nat} (h : w.drew.grownBy w' row) : w.grownBy w' row := ⟨h.os, h.tape, h.output, h.size, h.block⟩
theorem one_bool (b : Bool) : ∀ u ∈ [Value.bool b], u.oneCell' = true := by intro u h; simp at h; subst h; rfl
theorem one_slice (a : Option Addr) (n c : Nat) : ∀ u ∈ [Value.slice a n c], u.oneCell' = true := by intro u h; simp at h; subst h; rfl
theorem one_news_set (w : World) (p : Addr) (x u : Value) (e : TypeId) : ∀ j y, [u][j]? = some y → ((w.setCell p x).alloc (.cells #[u] e)).cell? ((⟨w.heap.size, 0, none⟩ : Addr).add j) = some y := by
  have := one_news (w.setCell p x) u e
  rwa [show (w.setCell p x).heap.size = w.heap.size by simp] at this
theorem step_old {p O : List Nat} {x kk y : Nat} (hy : O[kk]? = some y) (he : p.getD y 0 = p.getD x 0) (hno : ∀ (j z : Nat), j < kk → O[j]? = some z → p.getD z 0 ≠ p.getD x 0) : rowStep p O x = (kk, O) := by
  have hk : kk < O.length := by
    rcases Nat.lt_or_ge kk O.length with h | h
    · exact h
    · rw [List.getElem?_eq_none h] at hy; cases hy
  have h1 : (O.map fun y => p.getD y 0).idxOf (p.getD x 0) = kk := by
    refine idx_eq _ kk _ (by rw [List.getElem?_map, hy, ← he]; rfl) (fun j hj e => ?_)
    rw [List.getElem?_map] at e
    obtain ⟨z, hz, hze⟩ := Option.map_eq_some_iff.1 e
    exact hno j z hj hz hze
  unfold rowStep
  rw [h1, if_neg (by omega)]
theorem step_new {p O : List Nat} {x : Nat} (hno : ∀ (j z : Nat), O[j]? = some z → p.getD z 0 ≠ p.getD x 0) : rowStep p O x = (O.length, O ++ [x]) := by
  have h1 : (O.map fun y => p.getD y 0).idxOf (p.getD x 0) = O.length := by
    have := List.idxOf_eq_length (a := p.getD x 0) (l := O.map fun y => p.getD y 0) (fun h => by
      obtain ⟨z, hz, hze⟩ := List.mem_map.1 h
      obtain ⟨j, hj, hjz⟩ := List.getElem_of_mem hz
      exact hno j z (by rw [List.getElem?_eq_getElem hj, hjz]) hze)
    rwa [List.length_map] at this
  unfold rowStep
  rw [h1, if_pos rfl]

set_option maxHeartbeats 8000000 in
set_option maxRecDepth 100000 in
theorem least_walk (cl : List (List (Nat × Nat))) (st : List Arrows) (base tb W : Nat) (w : World) (ht : RTab w base tb cl st) (hbase : base ≤ w.heap.size) (h0 : 0 < st.length) (hn : st.length ≤ 256) (hW : W = cl.length + 1) (hcl : cl.length ≤ 6) (hst : ∀ r ∈ st, r.length = W ∧ ∀ x ∈ r, x.1 < st.length) :
    Calls Tryz.prog 15 #[.pointer (some ⟨tb, 0, none⟩)] w fun e w' => ∃ tb' k i, e = .returned (.pointer (some ⟨tb', 0, none⟩)) ∧ IsFinal st (groupsN st (k + 1)) ∧ Came (groupsN st (k + 1)) st i ∧ (leastSt (groupsN st (k + 1)) st i).1.length = i ∧ RTab w' base tb' cl (leastSt (groupsN st (k + 1)) st i).2 ∧ Below w.heap.size w w' := by
  obtain ⟨i0, hi, hz0, hz1, hz2⟩ := info_parts info3
  obtain ⟨i4, hi4, ha0, ha1, ha2⟩ := info_parts info4
  obtain ⟨i33, hi33, hb0, hb1, hb2⟩ := info_parts info33
  obtain ⟨i58, hi58, hc0, hc1, hc2⟩ := info_parts info58
  have hcd : Closed st := fun r hr a ha => (hst r hr).2 a ha
  have HPW := hide (parts_walk cl st base tb W w ht h0 (by omega) hW hcl hst)
  obtain ⟨vc, gt, gx, capt, capx, t0, t1, t2, hcls, hrow⟩ := ht.open_ h0
  obtain ⟨aoc, capc, rfl⟩ := hcls.shape
  have HCls := hide hcls
  have HRow := hide hrow
  have HST := hide hst
  have HCD := hide hcd
  clear hcls hrow hst hcd ht
  go_enter Tryz.func15, Tryz.ntmps15
  go_wp2_with fail
  refine HPW.out.mono ?_
  rintro e w1 ⟨pv, k, rfl, hpo, hfin, hb1⟩
  have HFin := hide hfin
  have HB1 := hide hb1
  obtain ⟨gp, cp, rfl, _, hgp, _, _, hpc, _⟩ := own_head hpo h0
  have HPC := hide (show ∀ j, j < st.length → w1.cell? ⟨gp, j, none⟩ = some (.int .i64 (((groupsN st (k + 1)).getD j 0 : Nat) : Int)) from fun j hj => hpc j _ (ints_get _ j _ (getD_some _ j 0 (by rw [groupsN_length]; exact hj))))
  have q0 := cell_later hb1 t0
  have HPlt := hide (groupsN_lt st h0 (k + 1))
  have HPlen := hide (groupsN_length st (k + 1))
  clear hpo hfin hb1 hpc HPW
  obtain ⟨p, hp⟩ : ∃ p, p = groupsN st (k + 1) := ⟨_, rfl⟩
  rw [← hp] at HFin HPC HPlt HPlen
  have HP := hide hp
  clear hp
  obtain ⟨w3, hw3⟩ : ∃ w3, w3 = (w1.alloc (.cells #[.slice aoc cl.length capc, .slice none 0 0, .slice none 0 0] 45)).alloc (.cells #[.int .i64 0] 3) := ⟨_, rfl⟩
  have HL3 := hide (show LO p st w1 w1.heap.size w1.heap.size (.slice aoc cl.length capc) 0 (.slice (some ⟨w1.heap.size + 1, 0, none⟩) 1 1) w3 by
    rw [hw3]
    refine ⟨.slice none 0 0, .slice none 0 0, own_new1 w1 _ w1.heap.size 3 1 #[.int .i64 0] rfl (Nat.le_refl _) (by unfold maxLen; omega), World.ownsRow_nil _ _ _ _, World.ownsRow_nil _ _ _ _, (fun g hg => by cases hg), RowsN.nil _ _ _ _ _ _ _ _, RowsN.nil _ _ _ _ _ _ _ _, heap_two0 _ _ _, ((Below.refl _ _).alloc (Nat.le_refl _) _).alloc (by simp) _, by simp; omega⟩)
  go_wp2_with fail
  rw [← hw3]
  clear hw3
  go_loopw [5, 6] (fun ov iv wr => ∃ i : Nat, iv = .int .i64 (i : Int) ∧ Came p st i ∧ i ≤ (leastSt p st i).1.length ∧ (leastSt p st i).1.length ≤ st.length ∧ LO p st w1 w1.heap.size w1.heap.size (.slice aoc cl.length capc) i ov wr) (fun _ i _ => st.length - (intOf i).toNat)
  case atStart => exact ⟨0, rfl, fun j hj => by omega, Nat.zero_le _, by show 1 ≤ _; omega, HL3.out⟩
  case round =>
    obtain ⟨i, rfl, hcame, hiO, hON, vt, vx, hLS⟩ := hrel
    obtain ⟨wo, rfl⟩ : ∃ x, x = wr := ⟨_, rfl⟩
    have HLS := hide hLS
    have HCame := hide hcame
    obtain ⟨ao, co, rfl, _, _⟩ := own_shape hLS.o1
    have HBo := hide (show Below w.heap.size w wo from HB1.out.trans (hLS.bl.mono HB1.out.size))
    clear hLS hcame HL3
    obtain ⟨O, hO⟩ : ∃ O, O = (leastSt p st i).1 := ⟨_, rfl⟩
    rw [← hO] at hiO hON HLS
    have HO := hide hO
    have HInv := hide (least_inv p st h0 HCD.out i HCame.out)
    clear hO
    rw [← HO.out]
    by_cases hlt : i < O.length
    · have hx : O[i]? = some (O.getD i 0) := getD_some _ _ _ hlt
      have hxN : O.getD i 0 < st.length := by
        have := HInv.out.1.lt
        rw [← HO.out] at this
        exact this _ (List.mem_of_getElem? hx)
      have hr : st[O.getD i 0]? = some (st.getD (O.getD i 0) []) := getD_some _ _ _ hxN
      obtain ⟨hrl, hra⟩ := HST.out _ (List.mem_of_getElem? hr)
      obtain ⟨g1, g2, c1, c2, RR⟩ := HRow.out _ _ hr (by omega)
      have HX := hide hx
      have HNext := hide (show leastSt p st (i + 1) = ((leastRow p O (st.getD (O.getD i 0) [])).1, (leastSt p st i).2 ++ [(leastRow p O (st.getD (O.getD i 0) [])).2]) by rw [leastSt, ← HO.out])
      clear hx hr
      generalize O.getD i 0 = x0 at *
      generalize st.getD x0 [] = r at *
      have HRR := hide RR
      have HRL := hide hrl
      have HRA := hide hra
      have rto := RR.to
      have rcu := RR.cut
      rw [hrl] at rto rcu
      clear RR hrl hra
      have HOrd := hide (show Ord p st.length O by rw [HO.out]; exact HInv.out.1)
      have CW := hide (show ∀ w', w'.cell? ⟨tb, 0, none⟩ = some (.slice aoc cl.length capc) → Calls Tryz.prog 28 #[.pointer (some ⟨tb, 0, none⟩)] w' fun e w'' => e = .returned (.int .i64 (W : Int)) ∧ w'' = w' by
        intro w' h
        rw [hW]
        exact width_any tb cl.length capc aoc w' (by omega) h)
      have hW7 : W ≤ 7 := by omega
      have HWW := hide hW
      clear hW
      go_wp2_with fail
      go_loopw [5, 7, 8, 9] (fun ov tv xv iv wr => ∃ c : Nat, c ≤ W ∧ iv = .int .i64 (c : Int) ∧ LS w1 w1.heap.size w1.heap.size (.slice aoc cl.length capc) wr ov tv xv vt vx (leastRow p O (r.take c)).1 ((leastRow p O (r.take c)).2.map Prod.fst) ((leastRow p O (r.take c)).2.map Prod.snd) ((leastSt p st i).2.map (·.map Prod.fst)) ((leastSt p st i).2.map (·.map Prod.snd))) (fun _ _ _ i _ => W - (intOf i).toNat)
      case atStart => exact ⟨0, Nat.zero_le _, rfl, by simpa [leastRow] using HLS.out⟩
      case round =>
        obtain ⟨c, hcW, rfl, hLSi⟩ := hrel
        obtain ⟨wi, rfl⟩ : ∃ x, x = wr := ⟨_, rfl⟩
        have HTk := hide (show ∀ a ∈ r.take c, a.1 < st.length from fun a ha => HRA.out a (List.mem_of_mem_take ha))
        have HRw := hide (Ord.row (r.take c) HOrd.out HTk.out)
        have hRc : (leastRow p O (r.take c)).2.length = c := by
          have := HRw.out.2.1
          rw [this, List.length_take, HRL.out]; omega
        have HRc := hide hRc
        clear hRc
        obtain ⟨O', hO'⟩ : ∃ O', O' = (leastRow p O (r.take c)).1 := ⟨_, rfl⟩
        obtain ⟨R', hR'⟩ : ∃ R', R' = (leastRow p O (r.take c)).2 := ⟨_, rfl⟩
        rw [← hO', ← hR'] at hLSi
        obtain ⟨tl, htl⟩ : ∃ tl, tl = R'.map Prod.fst := ⟨_, rfl⟩
        obtain ⟨xl, hxl⟩ : ∃ xl, xl = R'.map Prod.snd := ⟨_, rfl⟩
        rw [← htl, ← hxl] at hLSi
        have HTl := hide htl
        have HXl := hide hxl
        clear htl hxl
        rw [← hR'] at HRc
        have HO' := hide hO'
        have HR' := hide hR'
        have HOr' := hide (show Ord p st.length O' ∧ O <+: O' by rw [hO']; exact ⟨HRw.out.1, HRw.out.2.2.2.2⟩)
        clear hO' hR' HTk
        have hN' : O'.length ≤ st.length := by
          have h1 := nodup_bound st.length _ HOr'.out.1.nd (fun y hy => by
            obtain ⟨z, hz, rfl⟩ := List.mem_map.1 hy
            exact HPlt.out _ (List.mem_of_getElem? (getD_some p z 0 (by rw [HPlen.out]; exact HOr'.out.1.lt z hz))))
          rwa [List.length_map] at h1
        have hLi : O.length ≤ O'.length := HOr'.out.2.length_le
        obtain ⟨go, co', hov, _, _, _, _, hoc, _⟩ := own_head hLSi.o1 (by omega)
        subst hov
        obtain ⟨at', ct, htv, _, _⟩ := own_shape hLSi.o2
        obtain ⟨ax, cx, hxv, _, _⟩ := own_shape hLSi.o3
        rw [htv] at hLSi ⊢
        rw [hxv] at hLSi ⊢
        clear htv hxv
        have HLSi := hide hLSi
        have HBi := hide (show Below w.heap.size w wi from HB1.out.trans (hLSi.bl.mono HB1.out.size))
        have HB1i := hide hLSi.bl
        have v0 := cell_later HBi.out t0
        have v1 := cell_later HBi.out t1
        have HXi := hide (show O'[i]? = some x0 by
          obtain ⟨tl, htl⟩ := HOr'.out.2
          rw [← htl, List.getElem?_append_left hlt]; exact HX.out)
        have HOC := hide hoc
        have v2 := hoc i _ (ints_get O' i x0 HXi.out)
        have v3 := cell_later HBi.out rto
        clear hLSi hoc
        go_wp2_with fail
        refine (CW.out wi v0).mono ?_
        rintro e w' ⟨rfl, rfl⟩
        obtain ⟨wi, rfl⟩ : ∃ x, x = w' := ⟨_, rfl⟩
        by_cases hcl2 : c < W
        · have hx : r[c]? = some (r.getD c (0, false)) := getD_some _ _ _ (by have := HRL.out; omega)
          have htN := HRA.out _ (List.mem_of_getElem? hx)
          have v4 := cell_later HBi.out (HRR.out.toAt c _ hx)
          have HCu := hide (HRR.out.cutAt c _ hx)
          have HStep := hide (show leastRow p O (r.take (c + 1)) = ((rowStep p O' (r.getD c (0, false)).1).2, R' ++ [((rowStep p O' (r.getD c (0, false)).1).1, (r.getD c (0, false)).2)]) by
            rw [take_step hx, leastRow_snoc, ← HO'.out, ← HR'.out])
          clear hx
          generalize r.getD c (0, false) = a at *
          obtain ⟨tgt, cu⟩ := a
          simp only at v4 htN
          have HPt := hide (HPC.out tgt htN)
          generalize hpt : p.getD tgt 0 = pt at *
          have HPT := hide hpt
          clear hpt
          go_wp2_with fail
          go_quiet (fail)
          go_wp2_with fail
          go_loopw [11] (fun kv wj => ∃ kk : Nat, kk ≤ O'.length ∧ kv = .int .i64 (kk : Int) ∧ (∀ (j y : Nat), j < kk → O'[j]? = some y → p.getD y 0 ≠ pt) ∧ Below wi.heap.size wi wj) (fun kv _ => O'.length - (intOf kv).toNat)
          case atStart => exact ⟨0, Nat.zero_le _, rfl, by simp, below_drewN (Below.refl _ _) _⟩
          case round =>
            obtain ⟨kk, hkk, rfl, hno, hbj⟩ := hrel
            obtain ⟨wj, rfl⟩ : ∃ x, x = wr := ⟨_, rfl⟩
            have HNO := hide hno
            have HBJ := hide hbj
            clear hno hbj
            by_cases hkl : kk < O'.length
            · have hy : O'[kk]? = some (O'.getD kk 0) := getD_some _ _ _ hkl
              have hyN := HOr'.out.1.lt _ (List.mem_of_getElem? hy)
              have s1 := cell_later HBJ.out (HOC.out kk _ (ints_get O' kk _ hy))
              have s2 := (HBJ.out.cell (p := ⟨gp, O'.getD kk 0, none⟩) (by have := HB1i.out.size; show gp < _; omega)).trans ((HB1i.out.cell (p := ⟨gp, O'.getD kk 0, none⟩) hgp).trans (HPC.out _ hyN))
              have s3 := (HBJ.out.cell (p := ⟨gp, tgt, none⟩) (by have := HB1i.out.size; show gp < _; omega)).trans ((HB1i.out.cell (p := ⟨gp, tgt, none⟩) hgp).trans HPt.out)
              have HY := hide hy
              clear hy
              generalize O'.getD kk 0 = y at *
              generalize hpy : p.getD y 0 = py at *
              have HPY := hide hpy
              clear hpy
              have dk : decide ((kk : Int) < (O'.length : Int)) = true := by simp; omega
              by_cases he : py = pt
              · have bd : (((py : Nat) : Int) != (pt : Int)) = false := by rw [he]; simp
                have bk : ((kk : Int) == (O'.length : Int)) = false := by rw [beq_eq_false_iff_ne]; omega
                have HSt2 := hide (show rowStep p O' tgt = (kk, O') from step_old HY.out (by rw [HPY.out, HPT.out, he]) (fun j z hj hz => by rw [HPT.out]; exact HNO.out j z hj hz))
                clear he
                go_wp2_with fail
                go_quiet (fail)
                have HLSz := hide (HLSi.out.below (below_drewN HBJ.out nq))
                generalize wj.drewN nq = wz at *
                obtain ⟨O2, rfl⟩ : ∃ x, x = O' := ⟨_, rfl⟩
                obtain ⟨go2, rfl⟩ : ∃ x, x = go := ⟨_, rfl⟩
                obtain ⟨co2, rfl⟩ : ∃ x, x = co' := ⟨_, rfl⟩
                have HO2 := hide (show i < O2.length by omega)
                have HX2 := hide HXi.out
                have hzs := HLSz.out.sz
                have hRlen : tl.length = c := by rw [HTl.out, List.length_map]; exact HRc.out
                have hXlen : xl.length = c := by rw [HXl.out, List.length_map]; exact HRc.out
                have HRl := hide hRlen
                have HXln := hide hXlen
                have hRle : tl.length ≤ 7 := by omega
                have hXle : xl.length ≤ 7 := by omega
                clear hRlen hXlen
                go_wp2_with (at_builtin; refine wpList_append_lies _ rfl _ _ 33 rfl w1.heap.size 3 i0 (.int .i64 0) 1 8 Tryz.underlying33 hi hz0 hz1 hz2 rfl (by decide) _ tl.length (ints tl) rfl (HLSz.out.o2.alloc _) ⟨wz.heap.size, 0, none⟩ 1 1 [.int .i64 (kk : Int)] rfl rfl (one_news wz _ 3) (one_int _) (by omega) (by unfold maxLen; omega) (by omega) (by simp; omega) (wz.heap.size + 1) (by simp) ?_; intro g5 cap5 w5 hown5 hgrow5 hat5 hlt5)
                have HLS5 := hide (HLSz.out.app_t hown5 hgrow5 hat5 (by omega))
                clear hown5 hgrow5 hat5 HLSz
                have hs5 := HLS5.out.sz
                have HCells := hide (show ∀ w' xv' xl', LS w1 w1.heap.size w1.heap.size (.slice aoc cl.length capc) w' (.slice (some ⟨go2, 0, none⟩) O2.length co2) (.slice (some ⟨g5, 0, none⟩) (tl.length + 1) cap5) xv' vt vx O2 (tl ++ [kk]) xl' ((leastSt p st i).2.map (·.map Prod.fst)) ((leastSt p st i).2.map (·.map Prod.snd)) →
                    (w'.cell? ⟨tb, 2, none⟩ = some (.slice (some ⟨gx, 0, none⟩) st.length capx) ∧ w'.cell? ⟨go2, i, none⟩ = some (.int .i64 (x0 : Int)) ∧ w'.cell? ⟨gx, x0, none⟩ = some (.slice (some ⟨g2, 0, none⟩) W c2) ∧ w'.cell? ⟨g2, c, none⟩ = some (.bool cu)) by
                  intro w' xv' xl' h
                  have hb := HB1.out.trans (h.bl.mono HB1.out.size)
                  refine ⟨cell_later hb t2, ?_, cell_later hb rcu, cell_later hb HCu.out⟩
                  have h1 := h.o1
                  rw [h1.cellAt i (by have := HO2.out; omega)]
                  exact ints_get O2 i x0 HX2.out)
                have K5 := hide (HCells.out w5.drew _ _ (HLS5.out.below ((Below.refl _ _).drew)))
                have HA5 := hide (show ∀ o, LS w1 w1.heap.size w1.heap.size (.slice aoc cl.length capc) ((w5.alloc o).drew) (.slice (some ⟨go2, 0, none⟩) O2.length co2) (.slice (some ⟨g5, 0, none⟩) (tl.length + 1) cap5) (.slice ax xl.length cx) vt vx O2 (tl ++ [kk]) xl ((leastSt p st i).2.map (·.map Prod.fst)) ((leastSt p st i).2.map (·.map Prod.snd)) from fun o => HLS5.out.below ((Below.refl _ _).alloc (Nat.le_refl _) _).drew)
                have hxi : (x0 : Int) < (st.length : Int) := by omega
                have hcW2 : (c : Int) < (W : Int) := by omega
                have hi2 : (i : Int) < (O2.length : Int) := by have := HO2.out; omega
                go_region_held3 (fun w' => w'.cell? ⟨tb, 2, none⟩ = some (.slice (some ⟨gx, 0, none⟩) st.length capx) ∧ w'.cell? ⟨go2, i, none⟩ = some (.int .i64 (x0 : Int)) ∧ w'.cell? ⟨gx, x0, none⟩ = some (.slice (some ⟨g2, 0, none⟩) W c2) ∧ w'.cell? ⟨g2, c, none⟩ = some (.bool cu))
                  (first | exact K5.out | assumption | exact HCells.out _ _ _ (HA5.out _) | exact HCells.out _ _ _ (by assumption))
                  ((refine step_append_lies _ (by rfl) _ _ _ (by rfl) w1.heap.size 4 i4 (.bool false) 1 1 Tryz.underlying58 hi4 ha0 ha1 ha2 (by rfl) (by decide) _ xl.length (bools xl) (by rfl) (by exact HLS5.out.o3.alloc _) ⟨w5.heap.size, 0, none⟩ 1 1 [.bool cu] (by rfl) (by rfl) (by exact one_news w5 _ 4) (one_bool _) (by decide) (by unfold maxLen; omega) (by omega) (by simp; omega) (w5.heap.size + 1) (by simp) ?_; intro g6 cap6 w6 hown6 hgrow6 hat6 hlt6; have hLS6 := HLS5.out.app_x hown6 (grown_drew hgrow6) hat6 (by omega)))
                have HLS6 := hide hLS6
                clear hLS6 hown6 hgrow6 hat6 K5 HA5 HCells
                have HRel := hide (show LS w1 w1.heap.size w1.heap.size (.slice aoc cl.length capc) w6 (.slice (some ⟨go2, 0, none⟩) O2.length co2) (.slice (some ⟨g5, 0, none⟩) (tl.length + 1) cap5) (.slice (some ⟨g6, 0, none⟩) (xl.length + 1) cap6) vt vx (leastRow p O (r.take (c + 1))).1 ((leastRow p O (r.take (c + 1))).2.map Prod.fst) ((leastRow p O (r.take (c + 1))).2.map Prod.snd) ((leastSt p st i).2.map (·.map Prod.fst)) ((leastSt p st i).2.map (·.map Prod.snd)) by
                  have h := HLS6.out
                  rw [HStep.out, HSt2.out]
                  simp only [List.map_append, List.map_cons, List.map_nil]
                  rw [← HTl.out, ← HXl.out]
                  exact h)
                go_wp2
                go_roundw
                case rel => exact ⟨c + 1, by omega, by go_num, HRel.out⟩
                case measure => simp [intOf]; omega
              · have bd : (((py : Nat) : Int) != (pt : Int)) = true := by rw [bne_iff_ne]; omega
                have HNO2 := hide (show ∀ (j z : Nat), j < kk + 1 → O'[j]? = some z → p.getD z 0 ≠ pt by
                  intro j z hj hz
                  rcases Nat.lt_or_ge j kk with h | h
                  · exact HNO.out j z h hz
                  · have : j = kk := by omega
                    subst this
                    rw [HY.out] at hz
                    injection hz with hz
                    rw [← hz, HPY.out]
                    exact he)
                clear he
                go_wp2_with fail
                go_quiet (fail)
                go_wp2
                go_roundw
                case rel => exact ⟨kk + 1, by omega, by go_num, HNO2.out, below_drewN HBJ.out _⟩
                case measure => simp [intOf]; omega
            · have hke : kk = O'.length := by omega
              have dk : decide ((kk : Int) < (O'.length : Int)) = false := by simp; omega
              have bk : ((kk : Int) == (O'.length : Int)) = true := by rw [beq_iff_eq]; omega
              have HSt2' := hide (show rowStep p O' tgt = (kk, O' ++ [tgt]) by
                rw [hke]
                refine step_new (fun j z hz => ?_)
                rw [HPT.out]
                refine HNO.out j z ?_ hz
                rcases Nat.lt_or_ge j O'.length with h | h
                · omega
                · rw [List.getElem?_eq_none h] at hz; cases hz)
              clear hke
              go_wp2_with fail
              go_quiet (fail)
              have HLSy := hide (HLSi.out.below (below_drewN HBJ.out nq))
              generalize wj.drewN nq = wy at *
              have hys := HLSy.out.sz
              have hRlen : tl.length = c := by rw [HTl.out, List.length_map]; exact HRc.out
              have hXlen : xl.length = c := by rw [HXl.out, List.length_map]; exact HRc.out
              have HRl := hide hRlen
              have HXln := hide hXlen
              have hRle : tl.length ≤ 7 := by omega
              have hXle : xl.length ≤ 7 := by omega
              clear hRlen hXlen
              go_wp2_with (first
                | (at_builtin; refine wpList_append_lies _ rfl (.tmp 70) (.tmp 72) 33 rfl w1.heap.size 3 i0 (.int .i64 0) 1 8 Tryz.underlying33 hi hz0 hz1 hz2 rfl (by decide) _ O'.length (ints O') rfl (HLSy.out.o1.alloc _) ⟨wy.heap.size, 0, none⟩ 1 1 [.int .i64 (tgt : Int)] rfl rfl (one_news wy _ 3) (one_int _) (by omega) (by unfold maxLen; omega) (by omega) (by simp; omega) (wy.heap.size + 1) (by simp) ?_; intro go2 co2 wz hown4 hgrow4 hat4 hlt4; have HLSz := hide (HLSy.out.app_o hown4 hgrow4 hat4 (by omega)); clear hown4 hgrow4 hat4)
                | (at_builtin; refine wpList_append_lies _ rfl (.tmp 74) (.tmp 76) 33 rfl w1.heap.size 3 i0 (.int .i64 0) 1 8 Tryz.underlying33 hi hz0 hz1 hz2 rfl (by decide) _ tl.length (ints tl) rfl (HLSz.out.o2.alloc _) ⟨wz.heap.size, 0, none⟩ 1 1 [.int .i64 (kk : Int)] rfl rfl (one_news wz _ 3) (one_int _) (by omega) (by unfold maxLen; omega) (by omega) (by have := HLSz.out.sz; simp; omega) (wz.heap.size + 1) (by simp) ?_; intro g5 cap5 w5 hown5 hgrow5 hat5 hlt5))
              have HO2 := hide (show i < O'.length + 1 by omega)
              obtain ⟨O2, hO2⟩ : ∃ x, x = O' ++ [tgt] := ⟨_, rfl⟩
              rw [← hO2] at HLSz HSt2'
              have HSt2 := hide HSt2'.out
              have HX2 := hide (show O2[i]? = some x0 by rw [hO2, List.getElem?_append_left (by omega)]; exact HXi.out)
              have HOL := hide (show O2.length = O'.length + 1 by rw [hO2, List.length_append, List.length_singleton])
              clear hO2
              have HLS5 := hide (HLSz.out.app_t hown5 hgrow5 hat5 (by omega))
              clear hown5 hgrow5 hat5 HLSz
              have hs5 := HLS5.out.sz
              have HCells := hide (show ∀ w' xv' xl', LS w1 w1.heap.size w1.heap.size (.slice aoc cl.length capc) w' (.slice (some ⟨go2, 0, none⟩) (O'.length + 1) co2) (.slice (some ⟨g5, 0, none⟩) (tl.length + 1) cap5) xv' vt vx O2 (tl ++ [kk]) xl' ((leastSt p st i).2.map (·.map Prod.fst)) ((leastSt p st i).2.map (·.map Prod.snd)) →
                  (w'.cell? ⟨tb, 2, none⟩ = some (.slice (some ⟨gx, 0, none⟩) st.length capx) ∧ w'.cell? ⟨go2, i, none⟩ = some (.int .i64 (x0 : Int)) ∧ w'.cell? ⟨gx, x0, none⟩ = some (.slice (some ⟨g2, 0, none⟩) W c2) ∧ w'.cell? ⟨g2, c, none⟩ = some (.bool cu)) by
                intro w' xv' xl' h
                have hb := HB1.out.trans (h.bl.mono HB1.out.size)
                refine ⟨cell_later hb t2, ?_, cell_later hb rcu, cell_later hb HCu.out⟩
                have h1 := h.o1
                rw [HOL.out] at h1
                rw [h1.cellAt i (by have := HO2.out; omega)]
                exact ints_get O2 i x0 HX2.out)
              have K5 := hide (HCells.out w5.drew _ _ (HLS5.out.below ((Below.refl _ _).drew)))
              have HA5 := hide (show ∀ o, LS w1 w1.heap.size w1.heap.size (.slice aoc cl.length capc) ((w5.alloc o).drew) (.slice (some ⟨go2, 0, none⟩) (O'.length + 1) co2) (.slice (some ⟨g5, 0, none⟩) (tl.length + 1) cap5) (.slice ax xl.length cx) vt vx O2 (tl ++ [kk]) xl ((leastSt p st i).2.map (·.map Prod.fst)) ((leastSt p st i).2.map (·.map Prod.snd)) from fun o => HLS5.out.below ((Below.refl _ _).alloc (Nat.le_refl _) _).drew)
              have hxi : (x0 : Int) < (st.length : Int) := by omega
              have hcW2 : (c : Int) < (W : Int) := by omega
              have hi2 : (i : Int) < (O'.length : Int) + 1 := by have := HO2.out; omega
              go_region_held3 (fun w' => w'.cell? ⟨tb, 2, none⟩ = some (.slice (some ⟨gx, 0, none⟩) st.length capx) ∧ w'.cell? ⟨go2, i, none⟩ = some (.int .i64 (x0 : Int)) ∧ w'.cell? ⟨gx, x0, none⟩ = some (.slice (some ⟨g2, 0, none⟩) W c2) ∧ w'.cell? ⟨g2, c, none⟩ = some (.bool cu))
                (first | exact K5.out | assumption | exact HCells.out _ _ _ (HA5.out _) | exact HCells.out _ _ _ (by assumption))
                ((refine step_append_lies _ (by rfl) _ _ _ (by rfl) w1.heap.size 4 i4 (.bool false) 1 1 Tryz.underlying58 hi4 ha0 ha1 ha2 (by rfl) (by decide) _ xl.length (bools xl) (by rfl) (by exact HLS5.out.o3.alloc _) ⟨w5.heap.size, 0, none⟩ 1 1 [.bool cu] (by rfl) (by rfl) (by exact one_news w5 _ 4) (one_bool _) (by decide) (by unfold maxLen; omega) (by omega) (by simp; omega) (w5.heap.size + 1) (by simp) ?_; intro g6 cap6 w6 hown6 hgrow6 hat6 hlt6; have hLS6 := HLS5.out.app_x hown6 (grown_drew hgrow6) hat6 (by omega)))
              have HLS6 := hide hLS6
              clear hLS6 hown6 hgrow6 hat6 K5 HA5 HCells
              have HRel := hide (show LS w1 w1.heap.size w1.heap.size (.slice aoc cl.length capc) w6 (.slice (some ⟨go2, 0, none⟩) (O'.length + 1) co2) (.slice (some ⟨g5, 0, none⟩) (tl.length + 1) cap5) (.slice (some ⟨g6, 0, none⟩) (xl.length + 1) cap6) vt vx (leastRow p O (r.take (c + 1))).1 ((leastRow p O (r.take (c + 1))).2.map Prod.fst) ((leastRow p O (r.take (c + 1))).2.map Prod.snd) ((leastSt p st i).2.map (·.map Prod.fst)) ((leastSt p st i).2.map (·.map Prod.snd)) by
                have h := HLS6.out
                rw [HStep.out, HSt2.out]
                simp only [List.map_append, List.map_cons, List.map_nil]
                rw [← HTl.out, ← HXl.out]
                exact h)
              go_wp2
              go_roundw
              case rel => exact ⟨c + 1, by omega, by go_num, HRel.out⟩
              case measure => simp [intOf]; omega
        · have hcE : c = W := by omega
          have HFull := hide (show r.take c = r from List.take_of_length_le (by rw [HRL.out]; omega))
          obtain ⟨oT, hoT⟩ : ∃ oT, oT = (leastSt p st i).2.map (·.map Prod.fst) := ⟨_, rfl⟩
          obtain ⟨oX, hoX⟩ : ∃ oX, oX = (leastSt p st i).2.map (·.map Prod.snd) := ⟨_, rfl⟩
          have HLSo := hide (show LS w1 w1.heap.size w1.heap.size (.slice aoc cl.length capc) wi (.slice (some ⟨go, 0, none⟩) O'.length co') (.slice at' tl.length ct) (.slice ax xl.length cx) vt vx O' tl xl oT oX by rw [hoT, hoX]; exact HLSi.out)
          have hoTl : oT.length ≤ 256 := by rw [hoT, List.length_map, leastSt_length]; omega
          have hoXl : oX.length ≤ 256 := by rw [hoX, List.length_map, leastSt_length]; omega
          have HoT := hide hoT
          have HoX := hide hoX
          clear hoT hoX HLSi
          obtain ⟨vs1, hv1, hu1⟩ := HLSo.out.r1
          obtain ⟨vs2', hv2', _⟩ := HLSo.out.r2
          obtain ⟨avt, cvt, hvt, _, _⟩ := own_shape hv1
          obtain ⟨avx, cvx, hvx, _, _⟩ := own_shape hv2'
          subst hvt
          subst hvx
          have HV1 := hide hv1
          have HU1 := hide hu1
          have hp0 := HLSo.out.hp
          have z1 := row_cell hp0 (j := 1) rfl
          have z2 := row_cell hp0 (j := 2) rfl
          have hos := HLSo.out.sz
          clear hv1 hu1 hv2' hp0
          have HP5 := hide (show ∀ w5, (wi.alloc (.cells #[.slice at' tl.length ct] 33)).grownBy w5 (Value.slice avt oT.length cvt).ownBlock → w5.heap[w1.heap.size]? = some (.cells #[.slice aoc cl.length capc, .slice avt oT.length cvt, .slice avx oX.length cvx] 45 (0, 0)) from fun w5 hg => HLSo.out.pgrow HV1.out hg (by decide))
          go_wp2_with (first
            | (at_builtin; refine wpList_append_lies _ rfl (.tmp 98) (.tmp 100) 42 rfl w1.heap.size 33 i33 (.slice none 0 0) 1 24 Tryz.underlying42 hi33 hb0 hb1 hb2 rfl (by decide) _ oT.length vs1 rfl (HV1.out.alloc _) ⟨wi.heap.size, 0, none⟩ 1 1 [.slice at' tl.length ct] rfl rfl (one_news wi _ 33) (one_slice _ _ _) (by omega) (by unfold maxLen; omega) (by omega) (by simp; omega) (wi.heap.size + 1) (by simp) ?_; intro g5 cap5 w5 hown5 hgrow5 hat5 hlt5; have hp5 := HP5.out w5 hgrow5; have y1 := row_cell hp5 (j := 1) rfl; have y1f := row_free hp5 1; have y2 := row_cell hp5 (j := 2) rfl; have hb5 := lt_of_block hp5; have HLT := hide (HLSo.out.pushT HV1.out HU1.out hown5 hgrow5 (Nat.le_refl _)); obtain ⟨vs2, hv2, hu2⟩ := HLT.out.r2; have HV2 := hide hv2; have HU2 := hide hu2; clear hown5 hgrow5 hat5 hv2 hu2 hp5)
            | (at_builtin; refine wpList_append_lies _ rfl (.tmp 108) (.tmp 110) 43 rfl w1.heap.size 58 i58 (.slice none 0 0) 1 24 Tryz.underlying43 hi58 hc0 hc1 hc2 rfl (by decide) _ oX.length vs2 rfl (HV2.out.alloc _) ⟨w5.heap.size, 0, none⟩ 1 1 [.slice ax xl.length cx] rfl rfl (by exact one_news_set w5 _ _ _ 58) (one_slice _ _ _) (by omega) (by unfold maxLen; omega) (by omega) (by have := HLT.out.sz; simp at this ⊢; omega) (w5.heap.size + 1) (by simp) ?_; intro g6 cap6 w6 hown6 hgrow6 hat6 hlt6; have hp6 := HLT.out.pgrow HV2.out hgrow6 (by decide); have y3 := row_cell hp6 (j := 2) rfl; have y3f := row_free hp6 2; have HLX := hide (HLT.out.pushX HV2.out HU2.out hown6 hgrow6 (Nat.le_refl _)); clear hown6 hgrow6 hat6 hp6))
          have HStF := hide (show leastSt p st (i + 1) = (O', (leastSt p st i).2 ++ [R']) by
            rw [HNext.out, HO'.out, HR'.out, HFull.out])
          have HLO := hide (show LO p st w1 w1.heap.size w1.heap.size (.slice aoc cl.length capc) (i + 1) (.slice (some ⟨go, 0, none⟩) O'.length co') (w6.setCell ⟨w1.heap.size, 2, none⟩ (.slice (some ⟨g6, 0, none⟩) (oX.length + 1) cap6)) by
            refine ⟨.slice (some ⟨g5, 0, none⟩) (oT.length + 1) cap5, .slice (some ⟨g6, 0, none⟩) (oX.length + 1) cap6, ?_⟩
            rw [HStF.out]
            simp only [List.map_append, List.map_cons, List.map_nil]
            rw [← HTl.out, ← HXl.out, ← HoT.out, ← HoX.out]
            exact HLX.out)
          have HCm := hide (show Came p st (i + 1) by
            intro j hj
            rcases Nat.lt_or_ge j i with h | h
            · exact HCame.out j h
            · have : j = i := by omega
              subst this
              rw [← HO.out]; exact hlt)
          have HLen := hide (show i + 1 ≤ (leastSt p st (i + 1)).1.length ∧ (leastSt p st (i + 1)).1.length ≤ st.length by
            rw [HStF.out]; exact ⟨by show i + 1 ≤ O'.length; omega, hN'⟩)
          clear HLX HLT HV2 HU2
          go_roundw
          case rel => exact ⟨i + 1, by go_num, HCm.out, HLen.out.1, HLen.out.2, HLO.out⟩
          case measure => simp [intOf]; omega
    · have hiE : (leastSt p st i).1.length = i := by rw [← HO.out]; omega
      have HiE := hide hiE
      clear hiE
      have HTab := hide (show RTab wo base w1.heap.size cl (leastSt p st i).2 ∧ Below w.heap.size w wo from
        ⟨⟨_, _, _, HLS.out.hp, HCls.out.below HBo.out, HLS.out.r1.rows.base (Nat.le_trans hbase HB1.out.size), HLS.out.r2.rows.base (Nat.le_trans hbase HB1.out.size)⟩, HBo.out⟩)
      have HAll := hide (show IsFinal st (groupsN st (k + 1)) ∧ Came (groupsN st (k + 1)) st i ∧ (leastSt (groupsN st (k + 1)) st i).1.length = i ∧ RTab wo base w1.heap.size cl (leastSt (groupsN st (k + 1)) st i).2 ∧ Below w.heap.size w wo by
        rw [← HP.out]
        exact ⟨HFin.out, HCame.out, HiE.out, HTab.out.1, HTab.out.2⟩)
      go_wp2
      go_ret
      exact ⟨w1.heap.size, k, i, rfl, HAll.out⟩

end Go.Proofs.YtnecjeambpikdaaGreatDoor
