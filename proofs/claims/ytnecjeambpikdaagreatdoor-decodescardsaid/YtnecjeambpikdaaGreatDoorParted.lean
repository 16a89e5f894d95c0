import Derived.Test.YtnecjeambpikdaaGreatDoorKey
import Derived.Deep.WholeRow
namespace Go.Proofs.YtnecjeambpikdaaGreatDoor
open Go.RowKit Go.Maps

/-- The map holds what was seen, each view with its number. -/
def SeenMap (W : Nat) (D : DataW Unit) (seen : List (List (Nat × Bool))) : Prop :=
  Maps.size D = seen.length ∧ ∀ (v : List (Nat × Bool)) (kl : Lit), v.length = W → keyOf Tryz.prog 122 (.agg (seven (pad v))) = some kl →
    Maps.has D kl = seen.contains v ∧ (seen.contains v = true → D.atKey kl (.lit (.int .i64 0)) = .lit (.int .i64 ((seen.idxOf v : Nat) : Int)))

theorem seenMap_nil (W : Nat) : SeenMap W (.map []) [] := ⟨rfl, fun v kl _ _ => ⟨rfl, fun h => by simp at h⟩⟩

theorem seenMap_put {W : Nat} {D : DataW Unit} {seen : List (List (Nat × Bool))} (h : SeenMap W D seen) (hT : Tidy D) (h7 : W ≤ 7) {v : List (Nat × Bool)} {kl : Lit} (hv : v.length = W)
    (hkey : keyOf Tryz.prog 122 (.agg (seven (pad v))) = some kl) (hnew : seen.contains v = false) : SeenMap W (D.put kl (.lit (.int .i64 ((seen.length : Nat) : Int)))) (seen ++ [v]) := by
  have hk := law122.key hkey
  refine ⟨?_, fun v' kl' hv' hkey' => ?_⟩
  · rw [size_put hT, (h.2 v kl hv hkey).1, hnew, if_neg (by simp), h.1]; simp
  · by_cases e : v' = v
    · subst e
      rw [hkey] at hkey'
      injection hkey' with hkk
      subst hkk
      refine ⟨by rw [has_put_same hT.isMap hk]; simp, fun _ => ?_⟩
      rw [atKey_put_same hT.isMap hk]
      have : v' ∉ seen := by simpa using hnew
      rw [List.idxOf_append, if_neg this]; simp
    · have hne : kl' ≠ kl := by
        intro e'
        subst e'
        have := law122.inj hkey hkey'
        injection this with this
        exact e (pad_inj (by omega) (by omega) this).symm
      rw [has_put_other hne, atKey_put_other hne]
      obtain ⟨p1, p2⟩ := h.2 v' kl' hv' hkey'
      have hc : (seen ++ [v]).contains v' = seen.contains v' := by simp [e]
      rw [hc]
      refine ⟨p1, fun hs => ?_⟩
      rw [p2 hs, List.idxOf_append, if_pos (by simpa using hs)]

theorem ints_set_next (l : List Nat) (k N x : Nat) (h : l.length = k) (hk : k < N) : (ints (l ++ List.replicate (N - k) 0)).set k (.int .i64 (x : Int)) = ints ((l ++ [x]) ++ List.replicate (N - (k + 1)) 0) := by
  have e : N - k = (N - (k + 1)) + 1 := by omega
  rw [e, List.replicate_succ]
  subst h
  simp [ints]
theorem take_next {α : Type} {l : List α} {k : Nat} {x : α} (h : l[k]? = some x) : l.take (k + 1) = l.take k ++ [x] := by rw [List.take_add_one, h]; rfl

theorem info3 : (Tryz.prog.info? 3).map (fun i => (i.zero, i.size, i.bytes)) = some (some (.int .i64 0), 1, 8) := by kernel_rfl

theorem pad_le (l : List (Nat × Bool)) (gs : List Nat) (N i : Nat) (h : ∀ x ∈ gs, x < N) (hN : N ≤ 1000000000) : (pad (vw l gs) i).1 ≤ 1000000000 := by
  simp only [pad, vw, List.getD_eq_getElem?_getD, List.getElem?_map]
  cases l[i]? with
  | none => simp
  | some a =>
    simp only [Option.map_some, Option.getD_some]
    cases hg : gs[a.1]? with
    | none => simp
    | some x => have := h x (List.mem_of_getElem? hg); simp; omega
theorem parted_own {w2 w3 : World} {B N mb : Nat} {xs : List Value} {o : Obj} (h : w2.ownsRow B 3 1 (.slice (some ⟨B, 0, none⟩) N N) N xs) (hg : (w2.alloc o).grownBy w3 (some mb)) (hne : mb ≠ B) : w3.ownsRow B 3 1 (.slice (some ⟨B, 0, none⟩) N N) N xs :=
  (h.alloc o).kept hg (.inr (by simp [Value.ownBlock]; omega))
theorem parted_after {w2 w3 : World} {B N mb nn k : Nat} {xs : List Value} {o : Obj} {D : DataW Unit} (h : w2.ownsRow B 3 1 (.slice (some ⟨B, 0, none⟩) N N) N xs) (_hm : w2.ownsMap Tryz.prog 122 (plainElem (H := Unit) Tryz.prog 3) mb nn D)
    (hg : (w2.alloc o).grownBy w3 (some mb)) (hne : mb ≠ B) (hx : xs[k]? = some (.int .i64 0)) (hk : k < N) : w3.cell? ⟨B, k, none⟩ = some (.int .i64 0) ∧ w3.frozen? ⟨B, k, none⟩ = false ∧ B < w3.heap.size := by
  have h3 := parted_own h hg hne
  have hc : w3.cell? ⟨B, k, none⟩ = some (.int .i64 0) := by rw [h3.cellAt k (by omega)]; exact hx
  exact ⟨hc, h3.frozenAt k, World.block_lt_of_cell? _ _ hc⟩

set_option maxRecDepth 100000 in
set_option maxHeartbeats 2000000 in
theorem parted_walk (states : List (List (Nat × Bool))) (gs : List Nat) (Wd base b2 mb nn : Nat) (v v2 : Value) (w : World) (hv : Rows2 w base 73 81 2 arrs v states) (h2 : w.ownsRow b2 3 1 v2 gs.length (ints gs))
    (hpos : 0 < states.length) (hn : states.length ≤ 1000) (hgs : gs.length = states.length) (hgb : ∀ x ∈ gs, x < states.length) (hW0 : 0 < Wd) (hW7 : Wd ≤ 7)
    (ha : ∀ r ∈ states, r.length = Wd ∧ ∀ a ∈ r, a.1 < states.length) (hm : w.ownsMap Tryz.prog 122 (plainElem (H := Unit) Tryz.prog 3) mb nn (.map [])) (hnn : nn ≤ 1000000) :
    Calls Tryz.prog 74 #[v, v2, .map (some mb)] w fun e w' => ∃ v3 D, e = .returned v3 ∧ w'.ownsRow w.heap.size 3 1 v3 states.length (ints (numAll (states.map fun l => vw l gs)).1) ∧
      w'.ownsMap Tryz.prog 122 (plainElem (H := Unit) Tryz.prog 3) mb (nn + states.length) D ∧ Maps.size D = (numAll (states.map fun l => vw l gs)).2.length ∧ w.grownBy w' (some mb) := by
  obtain ⟨i0, hi, hz0, hz1, hz2⟩ := info_parts info3
  obtain ⟨g, cap, rfl, hbg, hglt, hrow⟩ := hv.head hpos
  have hgm : g ≠ mb := by
    intro e
    obtain ⟨vs, hvs, _⟩ := hv
    rcases hvs.2 with ⟨h, _⟩ | ⟨g', cap', cur, h, _, hh, _⟩
    · cases h
    · injection h with h; injection h with h; injection h with h
      obtain ⟨es, cl, hmb, _⟩ := hm
      rw [← h, e, hmb] at hh; cases hh
  have hmlt : mb < w.heap.size := hm.lt
  have HR := hide hrow
  have HA := hide ha
  have HGB := hide hgb
  have HM := hide hm
  have H2 := hide h2
  have HGS := hide hgs
  clear hv hrow ha hgb hm h2 hgs hbg
  generalize hN : states.length = N at *
  have HN := hide hN
  clear hN
  obtain ⟨vs, hvs⟩ : ∃ vs, vs = states.map fun l => vw l gs := ⟨_, rfl⟩
  have HVS := hide hvs
  rw [← hvs]
  clear hvs
  go_enter Tryz.func74, Tryz.ntmps74
  go_wp2_with (at_make; refine wpList_make_full _ rfl _ _ 33 rfl w.heap.size 3 i0 (.int .i64 0) 1 Tryz.underlying33 hi hz0 hz1 .i64 .i64 N N N rfl rfl rfl rfl (by rw [hz2]; omega) (by unfold maxLen; omega) (Nat.le_refl _) ?_; intro w1 hown1 hgrow1)
  have hz : ints (List.replicate N 0) = (madeCells (Value.int .i64 0).cells (N * 1)).toList := by
    rw [show (Value.int .i64 0).cells = #[.int .i64 0] from rfl, toList_madeCells_one]; simp [ints]
  rw [← hz] at hown1
  clear hz
  go_loopw [18] (fun i wr => ∃ k : Nat, ∃ D : DataW Unit, k ≤ N ∧ i = .int .i64 k ∧ wr.ownsRow w.heap.size 3 1 (.slice (some ⟨w.heap.size, 0, none⟩) N N) N (ints ((numAll (vs.take k)).1 ++ List.replicate (N - k) 0)) ∧
      wr.ownsMap Tryz.prog 122 (plainElem (H := Unit) Tryz.prog 3) mb (nn + k) D ∧ SeenMap Wd D (numAll (vs.take k)).2 ∧ w.grownBy wr (some mb)) (fun i _ => N - (intOf i).toNat)
  case atStart =>
    refine ⟨0, .map [], Nat.zero_le _, rfl, by simpa [numAll] using hown1, (HM.out.kept hgrow1 (by simp)), seenMap_nil _, ?_⟩
    exact ⟨hgrow1.os, hgrow1.tape, hgrow1.output, hgrow1.size, fun k hk _ => hgrow1.block k hk (by simp)⟩
  case round =>
    obtain ⟨k, D, hk, rfl, hown, hmap, hseen, hkept⟩ := hrel
    have HO := hide hown
    have HMp := hide hmap
    have HS := hide hseen
    have HK := hide hkept
    clear hown hmap hseen hkept hown1 hgrow1
    by_cases hlt : k < N
    · have hsl : states[k]? = some (states.getD k []) := getD_some _ _ _ (by have := HN.out; omega)
      obtain ⟨ao, c, hcell, hlc, hcm, hrl⟩ := HR.out k _ hsl
      obtain ⟨hlW, hla⟩ := HA.out _ (List.mem_of_getElem? hsl)
      have hvk : vs[k]? = some (vw (states.getD k []) gs) := by rw [HVS.out, List.getElem?_map, hsl]; rfl
      generalize states.getD k [] = l at *
      have hcr : wr.cell? ⟨g, k, none⟩ = some (.slice ao l.length c) := HK.out.cell hcell (by simpa using hgm)
      have hnm : ∀ k o, some mb = some k → w.heap[k]? = some o → ∀ c e, o ≠ .cells c e (0, 0) := by
        intro k o hk ho c e ho'
        injection hk with hk
        subst hk
        obtain ⟨es, cl, hmb, _⟩ := HM.out
        rw [hmb] at ho
        injection ho with ho
        rw [ho'] at ho
        cases ho
      have HL := hide (own_kept hrl HK.out (fun k o a b c => hnm k o a b c _))
      have HG := hide (own_kept H2.out HK.out (fun k o a b c => hnm k o a b c _))
      have HVK := hide hvk
      have HLA := hide hla
      have HLW := hide hlW
      clear hsl hcell hrl hla hvk hnm hlW
      go_wp2_with fail
      refine (view_any l gs wr HL.out HG.out (by have := HLW.out; omega) (by have := HLW.out; omega) (by have := HGS.out; omega) (by have := HGS.out; exact fun a h => by have := HLA.out a h; omega)).mono ?_
      rintro e w2 ⟨rfl, hb2⟩
      rw [vi_pad]
      have hvl : (vw l gs).length = Wd := by have := HLW.out; simp [vw]; omega
      have hbd : ∀ i, (pad (vw l gs) i).1 ≤ 1000000000 := by
        intro i
        exact pad_le l gs N i HGB.out (by omega)
      obtain ⟨kl, hkey⟩ := key_ex _ hbd
      generalize vw l gs = vv at *
      obtain ⟨S, hS⟩ : ∃ S, S = seven (pad vv) := ⟨_, rfl⟩
      have hS1 : S.all (·.oneCell') = true := by rw [hS]; exact seven_one _
      have hS2 : (Tryz.prog.info? 122).map (·.size) = some S.size := by rw [hS]; exact info122
      have HS3 := hide (show S.size = 14 by rw [hS]; rfl)
      rw [← hS] at hkey ⊢
      have HSS := hide hS
      have HKEY := hide hkey
      have HS1 := hide hS1
      have HS2 := hide hS2
      have HVL := hide hvl
      have HB2 := hide hb2
      have HBD := hide hbd
      clear hS hkey hS1 hS2 hvl hb2 hbd
      have HMQ := hide (HMp.out.kept (kept_of_below none HB2.out) (by simp))
      have HO2 := hide (own_below HO.out HB2.out (Nat.le_refl _))
      have HNK := hide (show (numAll (vs.take k)).1.length = k by
          rw [numAll_length, List.length_take]
          have : vs.length = N := by rw [HVS.out, List.length_map]; exact HN.out
          omega)
      have hxl : (ints ((numAll (vs.take k)).1 ++ List.replicate (N - k) 0))[k]? = some (.int .i64 0) := by
        have h1 := HNK.out
        refine ints_get _ _ 0 ?_
        rw [List.getElem?_append_right (by omega), h1, Nat.sub_self, List.getElem?_replicate, if_pos (by omega)]
      have hq2 : w2.cell? ⟨w.heap.size, k, none⟩ = some (.int .i64 0) := by rw [HO2.out.cellAt k (by omega)]; exact hxl
      have hf2 : w2.frozen? ⟨w.heap.size, k, none⟩ = false := HO2.out.frozenAt k
      have hw2 : w.heap.size < w2.heap.size := World.block_lt_of_cell? _ _ hq2
      have HXL := hide hxl
      clear hxl
      cases hct : (numAll (vs.take k)).2.contains vv
      · have hhas : Maps.has D kl = false := by rw [(HS.out.2 vv kl HVL.out (by rw [← HSS.out]; exact HKEY.out)).1, hct]
        have HCT := hide hct
        clear hct
        have HSZ := hide HS.out.1
        have hsz0 := HMp.out.size_le
        have hmd : mb ≠ w.heap.size := by omega
        go_wp2_with (first
          | (refine wpList_store_row rfl 122 (.tmp 10) (.tmp 25) rfl w2.heap.size S rfl rfl 122 #[.int .i64 0, .bool false, .int .i64 0, .bool false, .int .i64 0, .bool false, .int .i64 0, .bool false, .int .i64 0, .bool false, .int .i64 0, .bool false, .int .i64 0, .bool false] (by exact heap_push_new _ _) HS2.out HS3.out.symm HS1.out ?_; rw [World.setRow_alloc_new])
          | (refine wpList_load_row rfl 122 (.tmp 10) rfl w2.heap.size rfl 122 S (0, 0) _ (by exact heap_push_new _ _) Tryz.underlying122 rfl HS2.out ?_)
          | (at_lookup; refine wpList_lookup_own_ok_int _ rfl _ _ 132 rfl 122 3 .i64 law122 Tryz.underlying132 Tryz.underlying3 (zero3 _) mb (nn + k) D rfl (HMQ.out.alloc _) _ kl rfl HKEY.out ?_; intro c hat hwc)
          | (at_len; refine wpList_len_own _ rfl _ 132 rfl 122 3 Tryz.underlying132 _ mb (nn + k) D rfl (HMQ.out.alloc _) ?_)
          | (at_mapUpdate; refine wpList_mapUpdate_own _ rfl _ _ _ 132 rfl 122 3 law122 Tryz.underlying132 _ mb (nn + k) _ rfl (HMQ.out.alloc _) (by unfold maxLen; omega) _ _ _ rfl rfl HKEY.out _ [] (plainElem_int Tryz.underlying3 (WalkArith.wf_i64 (by omega))) ?_; intro w3 hown3 hgrow3; obtain ⟨hq3, hf3, hw3⟩ := parted_after HO2.out HMQ.out hgrow3 hmd HXL.out hlt))
        go_roundw
        case rel =>
          have hvk := HVK.out
          have hstep : numAll (vs.take (k + 1)) = ((numAll (vs.take k)).1 ++ [(numAll (vs.take k)).2.length], (numAll (vs.take k)).2 ++ [vv]) := by
            rw [take_next hvk, numAll_snoc, numStep, HCT.out]; rfl
          have ho3 := parted_own HO2.out hgrow3 hmd
          have hkg : w.grownBy w3 (some mb) := kept_trans (kept_alloc (kept_below HK.out HB2.out) _) hgrow3
          refine ⟨k + 1, D.put kl (.lit (.int .i64 (((numAll (vs.take k)).2.length : Nat) : Int))), by omega, by go_num, ?_, ?_, ?_, ?_⟩
          · rw [hstep, ← ints_set_next _ k N _ HNK.out hlt]
            rw [HSZ.out]
            exact (ho3.stored k _).1
          · rw [HSZ.out] at hown3
            exact hown3.setCell (by show mb ≠ w.heap.size; omega) _
          · rw [hstep]
            exact seenMap_put HS.out (HMp.out.tidy law122) hW7 HVL.out (by rw [← HSS.out]; exact HKEY.out) HCT.out
          · exact kept_setCell hkg (by simp) _
        case measure => simp [intOf]; omega
      · have hhas : Maps.has D kl = true := by rw [(HS.out.2 vv kl HVL.out (by rw [← HSS.out]; exact HKEY.out)).1, hct]
        have HCT := hide hct
        clear hct
        go_wp2_with (first
          | (refine wpList_store_row rfl 122 (.tmp 10) (.tmp 25) rfl w2.heap.size S rfl rfl 122 #[.int .i64 0, .bool false, .int .i64 0, .bool false, .int .i64 0, .bool false, .int .i64 0, .bool false, .int .i64 0, .bool false, .int .i64 0, .bool false, .int .i64 0, .bool false] (by exact heap_push_new _ _) HS2.out HS3.out.symm HS1.out ?_; rw [World.setRow_alloc_new])
          | (refine wpList_load_row rfl 122 (.tmp 10) rfl w2.heap.size rfl 122 S (0, 0) _ (by exact heap_push_new _ _) Tryz.underlying122 rfl HS2.out ?_)
          | (at_lookup; refine wpList_lookup_own_ok_int _ rfl _ _ 132 rfl 122 3 .i64 law122 Tryz.underlying132 Tryz.underlying3 (zero3 _) mb (nn + k) D rfl (HMQ.out.alloc _) _ kl rfl HKEY.out ?_; intro c hat hwc))
        go_roundw
        case rel =>
          have hvk := HVK.out
          have hstep : numAll (vs.take (k + 1)) = ((numAll (vs.take k)).1 ++ [(numAll (vs.take k)).2.idxOf vv], (numAll (vs.take k)).2) := by
            rw [take_next hvk, numAll_snoc, numStep, HCT.out, if_pos rfl]
          have hc : c = (((numAll (vs.take k)).2.idxOf vv : Nat) : Int) := by
            have h1 := (HS.out.2 vv kl HVL.out (by rw [← HSS.out]; exact HKEY.out)).2 HCT.out
            rw [h1] at hat
            injection hat with hat
            injection hat with _ hat
            exact hat.symm
          refine ⟨k + 1, D, by omega, by go_num, ?_, ?_, by rw [hstep]; exact HS.out, ?_⟩
          · rw [hstep, ← ints_set_next _ k N _ HNK.out hlt, ← hc]
            exact (HO2.out.stored k _).1.alloc _
          · exact ((HMQ.out.setCell (by show mb ≠ w.heap.size; omega) _).alloc _).mono (by omega)
          · exact kept_alloc (kept_setCell (kept_below HK.out HB2.out) (by simp) _) _
        case measure => simp [intOf]; omega
    · go_wp2
      go_ret
      have hkN : k = N := by omega
      have htk : vs.take k = vs := List.take_of_length_le (by rw [HVS.out, List.length_map, HN.out]; omega)
      have hseen := HS.out
      have hown := HO.out
      have hmp := HMp.out
      rw [htk] at hseen hown
      rw [hkN] at hown hmp
      simp only [Nat.sub_self, List.replicate_zero, List.append_nil] at hown
      exact ⟨_, D, rfl, hown, hmp, hseen.1, HK.out⟩

end Go.Proofs.YtnecjeambpikdaaGreatDoor
