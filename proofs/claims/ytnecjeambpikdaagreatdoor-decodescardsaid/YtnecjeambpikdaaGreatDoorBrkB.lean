import Derived.Test.YtnecjeambpikdaaGreatDoorBrkA
namespace Go.Proofs.YtnecjeambpikdaaGreatDoor
open Go.RowKit

set_option maxHeartbeats 4000000 in
set_option maxRecDepth 100000 in
theorem breaksB_walk (T : Tbl) (hT : Bd T) (base tb : Nat) (s : ByteArray) (w : World) (hA : RTab w base tb T.classes T.states) :
    Calls Tryz.prog 8 #[.pointer (some ⟨tb, 0, none⟩), .string s] w fun e w' => ∃ v F, e = .returned (.tuple #[v, .int .i64 (if 200 < s.size then 1 else 0)]) ∧ F = (if 200 < s.size then [] else goes T.classes T.states s s.size 0 0) ∧ F.length ≤ 1000 ∧ w'.ownsRow w.heap.size 3 1 v F.length (ints F) ∧ Below w.heap.size w w' := by
  by_cases hs : 200 < s.size
  · rw [if_pos hs, if_pos hs]
    go_enter Tryz.func8, Tryz.ntmps8
    go_wp2
    go_ret2
    exact ⟨_, [], rfl, rfl, Nat.zero_le _, World.ownsRow_nil _ _ _ _, Below.refl _ _⟩
  · rw [if_neg hs, if_neg hs]
    have hs' : s.size ≤ 200 := by omega
    obtain ⟨i0, hi, hz0, hz1, hz2⟩ := info_parts info3
    have HA := hide hA
    obtain ⟨vc, gt, gx, capt, capx, t0, t1, t2, hcls, hrow⟩ := hA.open_ hT.pos
    have HRow := hide hrow
    have HT := hide hT
    have hN1 := hT.pos
    have hN2 := hT.sts
    have hC := hT.cls
    clear hcls hT hrow hA t0
    obtain ⟨K, hK⟩ : ∃ K, K = w.heap.size := ⟨_, rfl⟩
    go_enter Tryz.func8, Tryz.ntmps8
    go_wp2_with fail
    rw [← hK]
    have HK := hide hK
    clear hK
    go_loopw [6, 7] (fun fv qv wr => ∃ (pos q fuel : Nat) (F : List Nat), qv = .int .i64 (q : Int) ∧ wr.ownsRow K 3 1 fv F.length (ints F) ∧ wr.heap[K]? = some (.stringIter s pos) ∧ q < T.states.length ∧ F ++ goes T.classes T.states s fuel pos q = goes T.classes T.states s s.size 0 0 ∧ s.size ≤ pos + fuel ∧ F.length ≤ pos ∧ F.length ≤ s.size ∧ Below K w wr) (fun _ _ wr => s.size - wr.iterPos K)
    case atStart =>
      refine ⟨0, 0, s.size, [], rfl, World.ownsRow_nil _ _ _ _, ?_, by omega, by simp, by omega, Nat.le_refl _, Nat.zero_le _, ?_⟩
      · rw [HK.out]; exact World.iter_heap w s 0
      · rw [HK.out]; exact (Below.refl _ _).alloc (Nat.le_refl _) _
    case round =>
      obtain ⟨pos, q, fuel, F, rfl, hown, hit, hq, hgo, hfu, hFp, hFs, hb⟩ := hrel
      have HO := hide hown
      have HIT := hide hit
      have HGO := hide hgo
      have HB := hide hb
      obtain ⟨aof, capf, rfl, _, _⟩ := own_shape hown
      clear hown hgo hb
      by_cases hlt : pos < s.size
      · have hnx := fun ty => Lib.run_next_any_at (P := Tryz.prog) wr K s pos ty hit hlt
        have hstep := decode_step s pos hlt
        have hcle := decode_le s pos
        have hK1 : K < wr.heap.size := (Array.getElem?_eq_some_iff.1 hit).1
        have HIT1 := hide (Lib.iterAt_heap wr K s pos (pos + (Utf8.decode s pos).2) hit)
        have HO1 := hide (own_iter HIT.out (pos + (Utf8.decode s pos).2) HO.out)
        have HB1 := hide (Lib.below_iterAt HB.out (Nat.le_refl _) s (pos + (Utf8.decode s pos).2))
        have hK2 : K < (wr.iterAt K s (pos + (Utf8.decode s pos).2)).heap.size := by rw [Lib.iterAt_size]; exact hK1
        have HGS := hide (show ∃ f, fuel = f + 1 ∧ F ++ ((if (arrowAt T.classes T.states q (Utf8.decode s pos).1).2 && decide (0 < pos) then [pos] else []) ++ goes T.classes T.states s f (pos + (Utf8.decode s pos).2) (arrowAt T.classes T.states q (Utf8.decode s pos).1).1) = goes T.classes T.states s s.size 0 0 by
          obtain ⟨f, rfl⟩ : ∃ f, fuel = f + 1 := ⟨fuel - 1, by omega⟩
          refine ⟨f, rfl, ?_⟩
          have h := HGO.out
          rw [goes, if_pos hlt] at h
          exact h)
        generalize wr.iterAt K s (pos + (Utf8.decode s pos).2) = W1 at *
        generalize (Utf8.decode s pos).2 = wd at *
        generalize (Utf8.decode s pos).1 = c at *
        obtain ⟨r, hr1, hr2, hr3, hr4⟩ := arrow_in HT.out hq c
        obtain ⟨g1, g2, c1, c2, RR⟩ := HRow.out q r hr1 (by omega)
        have hbw : Below w.heap.size w W1 := HK.out ▸ HB1.out
        have hixl : classIx T.classes c < r.length := by have := classIx_le T.classes c; omega
        have CC := hide (show Calls Tryz.prog 18 #[.pointer (some ⟨tb, 0, none⟩), .int .i64 (c : Int)] W1 fun e w'' => e = .returned (.int .i64 ((classIx T.classes c : Nat) : Int)) ∧ Below W1.heap.size W1 w'' from
          classB_walk T.classes T.states HT.out.cls (fun l hl => ⟨(HT.out.each l hl).1, by have := (HT.out.each l hl).2.1; omega⟩) base tb c W1 (HA.out.below hbw))
        have ZZ := hide (show ∀ w', Below W1.heap.size W1 w' → w'.cell? ⟨tb, 1, none⟩ = some (.slice (some ⟨gt, 0, none⟩) T.states.length capt) ∧ w'.cell? ⟨tb, 2, none⟩ = some (.slice (some ⟨gx, 0, none⟩) T.states.length capx) ∧
            w'.cell? ⟨gt, q, none⟩ = some (.slice (some ⟨g1, 0, none⟩) r.length c1) ∧ w'.cell? ⟨gx, q, none⟩ = some (.slice (some ⟨g2, 0, none⟩) r.length c2) ∧
            w'.cell? ⟨g1, classIx T.classes c, none⟩ = some (.int .i64 ((arrowAt T.classes T.states q c).1 : Int)) ∧ w'.cell? ⟨g2, classIx T.classes c, none⟩ = some (.bool (arrowAt T.classes T.states q c).2) by
          intro w' h
          have hbb := below2 hbw h
          exact ⟨cell_later hbb t1, cell_later hbb t2, cell_later hbb RR.to, cell_later hbb RR.cut, cell_later hbb (RR.toAt _ _ hr2), cell_later hbb (RR.cutAt _ _ hr2)⟩)
        have RT := hide (show w.cell? ⟨gt, q, none⟩ = some (.slice (some ⟨g1, 0, none⟩) r.length c1) ∧ w.cell? ⟨g1, classIx T.classes c, none⟩ = some (.int .i64 ((arrowAt T.classes T.states q c).1 : Int)) from ⟨RR.to, RR.toAt _ _ hr2⟩)
        clear hr1 hr2 RR
        generalize hAR : arrowAt T.classes T.states q c = ar at *
        clear hAR
        obtain ⟨a1, a2⟩ := ar
        simp only at hr3
        generalize classIx T.classes c = ix at *
        generalize hRL : r.length = R at *
        clear hRL hit
        have hcw : IntKind.i64.wrap (c : Int) = (c : Int) := by rw [IntKind.wrap_i64]; omega
        go_wp2_with fail
        refine CC.out.mono ?_
        rintro e wc ⟨rfl, hbc⟩
        obtain ⟨z1, z2, z3, z4, z5, z6⟩ := ZZ.out wc hbc
        have HBC := hide (show Below K w wc from HB1.out.trans (hbc.mono (Nat.le_of_lt hK2)))
        have HOc := hide (own_below HO1.out hbc (Nat.le_refl _))
        have HITc := hide (show wc.heap[K]? = some (.stringIter s (pos + wd)) by rw [hbc.block _ hK2]; exact HIT1.out)
        have hKc : K < wc.heap.size := (Array.getElem?_eq_some_iff.1 HITc.out).1
        clear hbc HIT1 HO1 HB1 CC hnx
        have HNext := hide (show ∀ fv F' wx, wx.ownsRow K 3 1 fv F'.length (ints F') → wx.heap[K]? = some (.stringIter s (pos + wd)) → Below K w wx → F' = F ++ (if a2 && decide (0 < pos) then [pos] else []) →
            ∃ (pos' q fuel : Nat) (F : List Nat), Value.int .i64 (a1 : Int) = .int .i64 (q : Int) ∧ wx.ownsRow K 3 1 fv F.length (ints F) ∧ wx.heap[K]? = some (.stringIter s pos') ∧ q < T.states.length ∧ F ++ goes T.classes T.states s fuel pos' q = goes T.classes T.states s s.size 0 0 ∧ s.size ≤ pos' + fuel ∧ F.length ≤ pos' ∧ F.length ≤ s.size ∧ Below K w wx by
          intro fv F' wx h1 h2 h3 h4
          obtain ⟨f, hf, hg⟩ := HGS.out
          refine ⟨pos + wd, a1, f, F', rfl, h1, h2, hr3, ?_, by omega, ?_, ?_, h3⟩
          · rw [← hg, h4, List.append_assoc]
          · rw [h4, List.length_append]; split <;> simp <;> omega
          · rw [h4, List.length_append]; split <;> simp <;> omega)
        have HMs := hide (show ∀ wx : World, wx.heap[K]? = some (.stringIter s (pos + wd)) → s.size - wx.iterPos K < s.size - wr.iterPos K by
          intro wx h1
          have h2 := HIT.out
          simp only [World.iterPos, h1, h2]
          omega)
        have HE1 := hide (fun wx h1 h2 h3 h4 => HNext.out (.slice aof F.length capf) F wx h1 h2 h3 h4)
        by_cases hp0 : 0 < pos
        · have dp : decide ((0 : Int) < (pos : Int)) = true := by simp; omega
          cases a2
          · have HFin := hide (HE1.out wc HOc.out HITc.out HBC.out (by simp))
            have HM := hide (HMs.out wc HITc.out)
            clear HNext HE1 HMs
            go_wp2
            go_roundw
            case rel => exact HFin.out
            case measure => exact HM.out
          · have ZZ2 := hide (show ∀ w1, (wc.alloc (.cells #[.int .i64 (pos : Int)] 3)).grownBy w1 (Value.slice aof F.length capf).ownBlock → w1.cell? ⟨tb, 1, none⟩ = some (.slice (some ⟨gt, 0, none⟩) T.states.length capt) ∧ w1.cell? ⟨gt, q, none⟩ = some (.slice (some ⟨g1, 0, none⟩) R c1) ∧ w1.cell? ⟨g1, ix, none⟩ = some (.int .i64 (a1 : Int)) by
              intro w1 hg
              have hB1 : Below K w w1 := (HBC.out.alloc (Nat.le_of_lt hKc) _).grown hg (by simp; omega) (fun k hk => (own_lt HOc.out k hk).1)
              have hlt1 : ∀ {b j : Nat} {u : Value}, w.cell? ⟨b, j, none⟩ = some u → w1.cell? ⟨b, j, none⟩ = some u := fun h => cell_later (HK.out ▸ hB1) h
              exact ⟨hlt1 t1, hlt1 RT.out.1, hlt1 RT.out.2⟩)
            go_wp2_with (at_builtin; refine wpList_append_own _ rfl _ _ 33 rfl K 3 i0 (.int .i64 0) 1 8 Tryz.underlying33 hi hz0 hz1 hz2 rfl (by decide) _ F.length (ints F) rfl (HOc.out.alloc _) ⟨wc.heap.size, 0, none⟩ 1 1 [.int .i64 (pos : Int)] rfl rfl (one_news wc _ 3) (one_int _) (by unfold maxLen; omega) (by omega) (by simp; omega) ?_; intro v' w1 hown1 hgrow1 hnil1; obtain ⟨y1, y2, y3⟩ := ZZ2.out w1 hgrow1; obtain ⟨ao', cap', rfl, _, _⟩ := own_shape hown1)
            have hI1 : w1.heap[K]? = some (.stringIter s (pos + wd)) := app_keep HOc.out hgrow1 HITc.out (fun c e => by cases e)
            have hB1 : Below K w w1 := (HBC.out.alloc (Nat.le_of_lt hKc) _).grown hgrow1 (by simp; omega) (fun k hk => (own_lt HOc.out k hk).1)
            have hO1 : w1.ownsRow K 3 1 (.slice ao' (F.length + 1) cap') (F ++ [pos]).length (ints (F ++ [pos])) := by
              rw [List.length_append, List.length_singleton, ints_append]
              exact hown1
            have HFin := hide (HNext.out _ (F ++ [pos]) w1 hO1 hI1 hB1 (by simp [hp0]))
            have HM := hide (HMs.out w1 hI1)
            clear hO1 hB1 hI1 hown1 hgrow1
            go_roundw
            case rel => exact HFin.out
            case measure => exact HM.out
        · have dp : decide ((0 : Int) < (pos : Int)) = false := by simp; omega
          have HFin := hide (HE1.out wc HOc.out HITc.out HBC.out (by simp [hp0]))
          have HM := hide (HMs.out wc HITc.out)
          clear HNext HE1 HMs
          go_wp2
          go_roundw
          case rel => exact HFin.out
          case measure => exact HM.out
      · have hnx := fun ty => Lib.run_next_end_at (P := Tryz.prog) wr K s pos ty hit hlt
        have HRes := hide (show F = goes T.classes T.states s s.size 0 0 by
          have h := HGO.out
          cases fuel with
          | zero => rw [goes, List.append_nil] at h; exact h
          | succ f => rw [goes, if_neg hlt, List.append_nil] at h; exact h)
        clear hit HGO
        go_wp2
        go_ret2
        exact ⟨_, F, rfl, HRes.out, by omega, HK.out ▸ HO.out, HK.out ▸ HB.out⟩

end Go.Proofs.YtnecjeambpikdaaGreatDoor
