import Derived.Test.YtnecjeambpikdaaGreatDoorTwo
namespace Go.Proofs.YtnecjeambpikdaaGreatDoor
open Go.RowKit

/-- A state's arrows as they can be read. -/
def rowOk (W : Nat) (l : List (Nat × Bool)) : Prop := l.length = W ∧ ∀ a ∈ l, a.1 ≤ 16777215

theorem asize (l : List UInt8) : (⟨l.toArray⟩ : ByteArray).size = l.length := by show l.toArray.size = _; simp

theorem cutS_any (p : ByteArray) (h : p.size ≤ 1000000) (w : World) : Calls Tryz.prog 43 #[.string p, .string ⟨#[47]⟩] w fun e w' => ∃ (p1 : ByteArray) (br : Bool), e = .returned (.tuple #[.string p1, .bool br]) ∧ p1.size ≤ p.size ∧ p1.data.toList = Lib.trimSuffix p.data.toList [47] ∧ br = Lib.hasSuffix p.data.toList [47] ∧ w' = w := by
  refine (Tryz.strings_CutSuffix p ⟨#[47]⟩ w (by omega)).mono ?_
  rintro e w3 ⟨rfl, rfl⟩
  exact ⟨_, _, rfl, by rw [asize, Lib.size_eq]; exact trim_le _ _, rfl, rfl, rfl⟩
theorem trimS_any (p : ByteArray) (h : p.size ≤ 1000000) (w : World) : Calls Tryz.prog 44 #[.string p, .string ⟨#[126]⟩] w fun e w' => ∃ (p1 : ByteArray), e = .returned (.string p1) ∧ p1.size ≤ p.size ∧ p1.data.toList = Lib.trimSuffix p.data.toList [126] ∧ w' = w := by
  refine (Tryz.strings_TrimSuffix p ⟨#[126]⟩ w (by omega)).mono ?_
  rintro e w3 ⟨rfl, rfl⟩
  exact ⟨_, rfl, by rw [asize, Lib.size_eq]; exact trim_le _ _, rfl, rfl⟩

set_option maxHeartbeats 4000000 in
set_option maxRecDepth 100000 in
theorem arrows_walk (s : ByteArray) (hs : s.size ≤ 100000) (Wd : Nat) (hWd : 0 < Wd) (hWd2 : Wd ≤ 7) (w : World) (hE : Env w) :
    Calls Tryz.prog 23 #[.string s, .int .i64 (Wd : Int)] w fun e w' => ∃ (v : Value) (l : List (Nat × Bool)) (ok : Bool), e = .returned (.tuple #[v, .bool ok]) ∧ (∃ ao n c, v = .slice ao n c) ∧
      (ok = true → w'.ownsRow w.heap.size 81 2 v l.length (arrs l) ∧ rowOk Wd l) ∧ (∀ l', rowOk Wd l' → s.data.toList = stateLine l' → ok = true ∧ l = l') ∧ Below w.heap.size w w' := by
  obtain ⟨i0, hi, hz0, hz1, hz2⟩ := info_parts info81b
  have HS := hide (split_any 32 s (by omega) w hE)
  go_enter Tryz.func23, Tryz.ntmps23
  go_wp2_with fail
  refine HS.out.mono ?_
  rintro e w1 ⟨N, parts, rfl, rfl, hN, hN1, hN2, hps, hpl⟩
  have HN := hide hN
  have HPS := hide hps
  have HPL := hide (show ∀ l', rowOk Wd l' → s.data.toList = stateLine l' → parts.map (·.data.toList) = l'.map arrowText by
    intro l' h1 h2
    refine hpl _ (fun e => ?_) (fun x hx => ?_) h2
    · have := h1.1
      rw [List.map_eq_nil_iff] at e
      rw [e] at this
      simp at this
      omega
    · obtain ⟨y, hy, rfl⟩ := List.mem_map.1 hx
      exact arrow_no (h1.2 y hy) dig32 (by decide) (by decide))
  have HPC := hide (fun k p h => part_cell w parts k p h)
  have HB0 := hide (show Below w.heap.size w (w.alloc (.cells (parts.map Value.string).toArray 9)) from (Below.refl _ _).alloc (Nat.le_refl _) _)
  have hs1 : w.heap.size < (w.alloc (.cells (parts.map Value.string).toArray 9)).heap.size := by simp
  generalize w.alloc (.cells (parts.map Value.string).toArray 9) = w1 at *
  clear hN hps hpl HS
  go_wp2_with (at_make; refine wpList_make_full _ rfl _ _ 73 rfl w1.heap.size 81 i0 (.agg #[.int .i64 0, .bool false]) 2 Tryz.underlying73 hi hz0 hz1 .i64 .i64 N N N rfl rfl rfl rfl (by rw [hz2]; omega) (by unfold maxLen; omega) (Nat.le_refl _) ?_; intro w2 hown2 hgrow2)
  have hz : (madeCells (Value.agg #[.int .i64 0, .bool false]).cells (N * 2)).toList = arrs (List.replicate N (0, false)) := arrs_made N
  rw [hz] at hown2
  have HO2 := hide hown2
  have HB2 := hide ((Below.refl w1.heap.size w1).grown hgrow2 (Nat.le_refl _) (by simp))
  clear hz hown2 hgrow2
  go_loopw [21] (fun i wr => ∃ r : List (Nat × Bool), r.length ≤ N ∧ i = .int .i64 (r.length : Int) ∧ wr.ownsRow w1.heap.size 81 2 (.slice (some ⟨w1.heap.size, 0, none⟩) N N) N (arrs (r ++ List.replicate (N - r.length) (0, false))) ∧
      (∀ a ∈ r, a.1 ≤ 16777215) ∧ (∀ l', rowOk Wd l' → s.data.toList = stateLine l' → r = l'.take r.length) ∧ Below w1.heap.size w1 wr) (fun i _ => N - (intOf i).toNat)
  case atStart => exact ⟨[], Nat.zero_le _, rfl, HO2.out, by simp, by simp, HB2.out⟩
  case round =>
    obtain ⟨r, hk, rfl, hown, hok, hcmp, hb⟩ := hrel
    have HO := hide hown
    have HOK := hide hok
    have HC := hide hcmp
    have HB := hide hb
    clear hown hok hcmp hb HO2 HB2
    generalize hK : r.length = k at *
    have HK := hide hK
    clear hK
    by_cases hlt : k < N
    · have hp : parts[k]? = some (parts.getD k ByteArray.empty) := getD_some _ _ _ (by have := HN.out; omega)
      have hpz := HPS.out _ (List.mem_of_getElem? hp)
      have hpc : wr.cell? ⟨w.heap.size, k, none⟩ = some (.string (parts.getD k ByteArray.empty)) := cell_later HB.out (HPC.out k _ hp)
      have HP := hide hp
      clear hp
      generalize parts.getD k ByteArray.empty = p at *
      go_wp2_with fail
      refine (cutS_any p (by omega) wr).mono ?_
      rintro e w3 ⟨p1, br, rfl, hp1, hp1e, hbr, rfl⟩
      have HP1 := hide hp1e
      have HBR := hide hbr
      clear hp1e hbr
      go_wp2_with fail
      refine (trimS_any p1 (by omega) w3).mono ?_
      rintro e w4 ⟨p2, rfl, hp2, hp2e, rfl⟩
      have HP2 := hide hp2e
      clear hp2e
      go_wp2_with fail
      refine (number_walk 10 pu10 p2 (by omega) w4 ((hE.below HB0.out).below HB.out)).mono ?_
      rintro e w3 ⟨n, ok, rfl, hn, h2, hb3⟩
      have HV := hide (show ∀ l', rowOk Wd l' → s.data.toList = stateLine l' → ok = true ∧ r ++ [(n, br)] = l'.take (k + 1) by
        intro l' g1 g2
        have g3 := HPL.out l' g1 g2
        have g4 : (l'.map arrowText)[k]? = some p.data.toList := by rw [← g3, List.getElem?_map, HP.out]; rfl
        rw [List.getElem?_map] at g4
        obtain ⟨x, hx, hxp⟩ := Option.map_eq_some_iff.1 g4
        have hx1 := g1.2 x (List.mem_of_getElem? hx)
        obtain ⟨c1, c2⟩ := arrow_cut x hx1
        have c3 := dec_canon x.1 hx1
        have e2 : p2.data.toList = Lib.decDigits x.1 := by rw [HP2.out, HP1.out]; rw [← hxp, c1]
        obtain ⟨a1, a2⟩ := h2 x.1 hx1 (size_ne e2 c3.pos) (by rw [e2]; exact c3.val)
        refine ⟨a1, ?_⟩
        have g5 := HC.out l' g1 g2
        have hxe : x = (n, br) := Prod.ext a2.symm (by rw [HBR.out, ← hxp, c2])
        rw [take_step hx, hxe, ← g5])
      have HO3 := hide (own_below HO.out hb3 (Nat.le_refl _))
      have HB3 := hide (below2 HB.out hb3)
      have hq0 : w3.cell? ⟨w1.heap.size, k * 2, none⟩ = some (.int .i64 0) := by
        rw [HO3.out.cellAt (k * 2) (by omega)]
        exact (arrs_get _ k (0, false) (get_next r k N _ HK.out hlt)).1
      have hq1 : w3.cell? ⟨w1.heap.size, k * 2 + 1, none⟩ = some (.bool false) := by
        rw [HO3.out.cellAt (k * 2 + 1) (by omega)]
        exact (arrs_get _ k (0, false) (get_next r k N _ HK.out hlt)).2
      have hf0 : w3.frozen? ⟨w1.heap.size, k * 2, none⟩ = false := HO3.out.frozenAt _
      have hf1 : w3.frozen? ⟨w1.heap.size, k * 2 + 1, none⟩ = false := HO3.out.frozenAt _
      have hlt3 : w1.heap.size < w3.heap.size := World.block_lt_of_cell? _ _ hq0
      clear h2 hb3
      cases ok
      · go_wp2
        go_ret2
        refine ⟨_, [], false, rfl, ⟨_, _, _, rfl⟩, by simp, fun l' g1 g2 => ?_, ?_⟩
        · exact Bool.noConfusion (HV.out l' g1 g2).1
        · exact below2 HB0.out HB3.out
      · have HVT := hide (fun l' g1 g2 => (HV.out l' g1 g2).2)
        clear HV
        go_wp2
        go_roundw
        case rel =>
          refine ⟨r ++ [(n, br)], by have := HK.out; simp; omega, by have := HK.out; rw [List.length_append, this]; go_num, ?_, ?_, ?_, ?_⟩
          · rw [List.length_append, HK.out, List.length_singleton, ← set_next r k N (0, false) _ HK.out hlt, ← arrs_set]
            exact ((HO3.out.stored (k * 2) _).1.stored (k * 2 + 1) _).1
          · intro x hx
            rw [List.mem_append, List.mem_singleton] at hx
            rcases hx with hx | rfl
            · exact HOK.out x hx
            · exact hn
          · intro l' g1 g2
            have := HVT.out l' g1 g2
            rw [List.length_append, HK.out, List.length_singleton]
            exact this
          · exact (HB3.out.setCell (p := ⟨w1.heap.size, k * 2, none⟩) (Nat.le_refl _) _).setCell (p := ⟨w1.heap.size, k * 2 + 1, none⟩) (Nat.le_refl _) _
        case measure => simp [intOf]; omega
    · have hkN : k = N := by omega
      subst hkN
      have HL := hide (show ∀ l', rowOk Wd l' → s.data.toList = stateLine l' → l'.length = k ∧ r = l' by
        intro l' g1 g2
        have g3 := congrArg List.length (HPL.out l' g1 g2)
        rw [List.length_map, List.length_map, HN.out] at g3
        refine ⟨g3.symm, ?_⟩
        have g4 := HC.out l' g1 g2
        rw [g3, List.take_length] at g4
        exact g4)
      have HO3 := hide (show wr.ownsRow w.heap.size 81 2 (.slice (some ⟨w1.heap.size, 0, none⟩) k k) r.length (arrs r) by
        have := own_base HO.out (show w.heap.size ≤ w1.heap.size by omega)
        rw [Nat.sub_self, List.replicate_zero, List.append_nil] at this
        rw [HK.out]
        exact this)
      by_cases h6 : k = Wd
      · have d6 : ((k : Int) == (Wd : Int)) = true := by simp; omega
        have H6 := hide h6
        clear h6
        go_wp2
        go_ret2
        exact ⟨_, r, true, rfl, ⟨_, _, _, rfl⟩, fun _ => ⟨HO3.out, by rw [HK.out]; exact H6.out, HOK.out⟩, fun l' g1 g2 => ⟨rfl, (HL.out l' g1 g2).2⟩, below2 HB0.out HB.out⟩
      · have d6 : ((k : Int) == (Wd : Int)) = false := by simp; omega
        go_wp2
        go_ret2
        exact ⟨_, r, false, rfl, ⟨_, _, _, rfl⟩, by simp, fun l' g1 g2 => absurd g1.1 (by rw [(HL.out l' g1 g2).1]; exact h6), below2 HB0.out HB.out⟩

end Go.Proofs.YtnecjeambpikdaaGreatDoor
