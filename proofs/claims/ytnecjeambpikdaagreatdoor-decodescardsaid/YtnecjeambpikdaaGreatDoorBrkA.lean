import Derived.Test.YtnecjeambpikdaaGreatDoorClsB
import Derived.Test.YtnecjeambpikdaaGreatDoorParted
import Derived.Lib.OthersKept
import Derived.OwnWalk
import Derived.Deep.DeepCutAuto
import Derived.Deep.RegionHeld3
namespace Go.Proofs.YtnecjeambpikdaaGreatDoor
open Go.RowKit

/-- The arrow that is taken. -/
def arrowAt (cl : List (List (Nat × Nat))) (st : List (List (Nat × Bool))) (q c : Nat) : Nat × Bool := (st.getD q []).getD (classIx cl c) (0, false)
/-- Where a text breaks, from a place and a state on. -/
def goes (cl : List (List (Nat × Nat))) (st : List (List (Nat × Bool))) (s : ByteArray) : Nat → Nat → Nat → List Nat
  | 0, _, _ => []
  | f + 1, pos, q => if pos < s.size then (if (arrowAt cl st q (Utf8.decode s pos).1).2 && decide (0 < pos) then [pos] else []) ++ goes cl st s f (pos + (Utf8.decode s pos).2) (arrowAt cl st q (Utf8.decode s pos).1).1 else []

theorem decode_step (s : ByteArray) (pos : Nat) (h : pos < s.size) : 1 ≤ (Utf8.decode s pos).2 := by
  by_cases ha : (s[pos]'h).toNat < 128
  · rw [decode_ascii s pos h ha]; exact Nat.le_refl _
  · exact (decode_high s pos h (by omega)).2

theorem own_iter {w : World} {k : Nat} {s : ByteArray} {pos : Nat} (hk : w.heap[k]? = some (.stringIter s pos)) (pos' : Nat) {base : Nat} {e : TypeId} {size : Nat} {v : Value} {n : Nat} {xs : List Value} (h : w.ownsRow base e size v n xs) : (w.iterAt k s pos').ownsRow base e size v n xs := by
  obtain ⟨h1, h2⟩ := h
  refine ⟨h1, ?_⟩
  rcases h2 with h2 | ⟨g, cap, cur, hv, hg, hh, r⟩
  · exact Or.inl h2
  · refine Or.inr ⟨g, cap, cur, hv, hg, ?_, r⟩
    rw [Lib.iterAt_other w k g s pos' (fun e => by rw [e, hk] at hh; cases hh)]; exact hh

/-- The arrow's facts, for a table that is well made. -/
theorem arrow_in {T : Tbl} (hT : Bd T) {q : Nat} (hq : q < T.states.length) (c : Nat) : ∃ r, T.states[q]? = some r ∧ r[classIx T.classes c]? = some (arrowAt T.classes T.states q c) ∧ (arrowAt T.classes T.states q c).1 < T.states.length ∧ r.length = T.classes.length + 1 := by
  have h1 := getD_some T.states q [] hq
  obtain ⟨h2, h3⟩ := hT.row _ (List.mem_of_getElem? h1)
  have h4 := getD_some (T.states.getD q []) (classIx T.classes c) (0, false) (by have := classIx_le T.classes c; omega)
  exact ⟨_, h1, h4, h3 _ (List.mem_of_getElem? h4), h2⟩

theorem two_set {w' : World} {q : Nat} {x0 y0 : Value} {t : TypeId} {x y : Value} (h : w'.heap[q]? = some (.cells #[x0, y0] t (0, 0))) : ((w'.setCell ⟨q, 0, none⟩ x).setCell ⟨q, 1, none⟩ y).heap[q]? = some (.cells #[x, y] t (0, 0)) :=
  heap_setCell_same _ q 1 _ _ y (heap_setCell_same w' q 0 _ _ x h)
theorem one_news (w : World) (u : Value) (e : TypeId) : ∀ j x, [u][j]? = some x → (w.alloc (.cells #[u] e)).cell? ((⟨w.heap.size, 0, none⟩ : Addr).add j) = some x := by
  intro j x h
  rw [addr_add]
  refine row_cell (heap_push_new w _) ?_
  match j, h with
  | 0, h => simpa using h
theorem one_int (n : Int) : ∀ u ∈ [Value.int .i64 n], u.oneCell' = true := by intro u h; simp at h; subst h; rfl
theorem own_not {w : World} {base : Nat} {e : TypeId} {size : Nat} {v : Value} {n : Nat} {xs : List Value} {b : Nat} {x : Obj} (h : w.ownsRow base e size v n xs) (hb : w.heap[b]? = some x) (hx : ∀ c, x ≠ .cells c e (0, 0)) : some b ≠ v.ownBlock := by
  intro h1
  rcases h.2 with ⟨rfl, _⟩ | ⟨g, cap, cur, rfl, _, hh, _⟩
  · cases h1
  · injection h1 with h1
    subst h1
    rw [hb] at hh
    injection hh with hh
    exact hx _ hh
theorem app_keep {w w1 : World} {o : Obj} {base : Nat} {e : TypeId} {size : Nat} {v : Value} {n : Nat} {xs : List Value} {b : Nat} {x : Obj} (h : w.ownsRow base e size v n xs) (hg : (w.alloc o).grownBy w1 v.ownBlock) (hb : w.heap[b]? = some x) (hx : ∀ c, x ≠ .cells c e (0, 0)) : w1.heap[b]? = some x := by
  have h2 := heap_push_old hb o
  have h3 : b < (w.alloc o).heap.size := (Array.getElem?_eq_some_iff.1 h2).1
  rw [hg.block b h3 (own_not h hb hx)]
  exact h2
theorem s5 {a b c d e : Prop} (h : a ∧ b ∧ c ∧ d ∧ e) : e := h.2.2.2.2

set_option maxHeartbeats 4000000 in
set_option maxRecDepth 100000 in
theorem brkA_walk (T : Tbl) (hT : Bd T) (base tb : Nat) (s : ByteArray) (hs : s.size ≤ 200) (w : World) (hA : TabAt w base tb T) :
    Calls Tryz.prog 17 #[.pointer (some ⟨tb, 0, none⟩), .string s] w fun e w' => ∃ v F, e = .returned v ∧ F = goes T.classes T.states s s.size 0 0 ∧ F.length ≤ 1000 ∧ w'.ownsRow w.heap.size 3 1 v F.length (ints F) ∧ Below w.heap.size w w' := by
  obtain ⟨i0, hi, hz0, hz1, hz2⟩ := info_parts info3
  have HA := hide hA
  obtain ⟨vc, vs, hh, hrc, hrs⟩ := hA
  have HRS := hide hrs
  obtain ⟨gs, caps, rfl, _, _, hrow⟩ := hrs.head hT.pos
  have HRow := hide hrow
  have t1 := row_cell hh (j := 1) rfl
  have HT := hide hT
  have hN1 := hT.pos
  have hN2 := hT.sts
  have hC := hT.cls
  clear hrc hrs hh hT hrow
  obtain ⟨K, hK⟩ : ∃ K, K = w.heap.size := ⟨_, rfl⟩
  go_enter Tryz.func17, Tryz.ntmps17
  go_wp2_with fail
  rw [← hK]
  have HK := hide hK
  clear hK
  go_loopw [5, 6] (fun fv qv wr => ∃ (pos q fuel : Nat) (F : List Nat), qv = .int .i64 (q : Int) ∧ wr.ownsRow K 3 1 fv F.length (ints F) ∧ wr.heap[K]? = some (.stringIter s pos) ∧ q < T.states.length ∧ F ++ goes T.classes T.states s fuel pos q = goes T.classes T.states s s.size 0 0 ∧ s.size ≤ pos + fuel ∧ F.length ≤ pos ∧ F.length ≤ s.size ∧ Below K w wr) (fun _ _ wr => s.size - wr.iterPos K)
  case atStart =>
    refine ⟨0, 0, s.size, [], rfl, World.ownsRow_nil _ _ _ _, ?_, by omega, by simp, by omega, Nat.le_refl _, Nat.zero_le _, ?_⟩
    · rw [HK.out]; exact World.iter_heap w s 0
    · rw [HK.out]; exact (Below.refl _ _).alloc (Nat.le_refl _) _
  case round =>
    obtain ⟨pos, q, fuel, F, rfl, hown, hit, hq, hgo, hfu, hFp, hFs, hb⟩ := hrel
    have HO := hide hown
    have HIT := hide hit
    have HGO := hide hgo
    have HB := hide hb
    obtain ⟨aof, capf, rfl, _, _⟩ := own_shape hown
    clear hown hgo hb
    by_cases hlt : pos < s.size
    · have hnx := fun ty => Lib.run_next_any_at (P := Tryz.prog) wr K s pos ty hit hlt
      have hstep := decode_step s pos hlt
      have hK1 : K < wr.heap.size := (Array.getElem?_eq_some_iff.1 hit).1
      have HIT1 := hide (Lib.iterAt_heap wr K s pos (pos + (Utf8.decode s pos).2) hit)
      have HO1 := hide (own_iter HIT.out (pos + (Utf8.decode s pos).2) HO.out)
      have HB1 := hide (Lib.below_iterAt HB.out (Nat.le_refl _) s (pos + (Utf8.decode s pos).2))
      have hK2 : K < (wr.iterAt K s (pos + (Utf8.decode s pos).2)).heap.size := by rw [Lib.iterAt_size]; exact hK1
      have HGS := hide (show ∃ f, fuel = f + 1 ∧ F ++ ((if (arrowAt T.classes T.states q (Utf8.decode s pos).1).2 && decide (0 < pos) then [pos] else []) ++ goes T.classes T.states s f (pos + (Utf8.decode s pos).2) (arrowAt T.classes T.states q (Utf8.decode s pos).1).1) = goes T.classes T.states s s.size 0 0 by
        obtain ⟨f, rfl⟩ : ∃ f, fuel = f + 1 := ⟨fuel - 1, by omega⟩
        refine ⟨f, rfl, ?_⟩
        have h := HGO.out
        rw [goes, if_pos hlt] at h
        exact h)
      generalize wr.iterAt K s (pos + (Utf8.decode s pos).2) = W1 at *
      generalize (Utf8.decode s pos).2 = wd at *
      generalize (Utf8.decode s pos).1 = c at *
      obtain ⟨r, hr1, hr2, hr3, hr4⟩ := arrow_in HT.out hq c
      obtain ⟨ao2, c2, hcell2, hlc2, hcm2, hown2⟩ := HRow.out q r hr1
      obtain ⟨g2, c3, hv2, _, _, _, _, hcc, _⟩ := own_head hown2 (by omega)
      injection hv2 with hao2 _ hc3
      subst hao2
      subst hc3
      have hbw : Below w.heap.size w W1 := HK.out ▸ HB1.out
      have z1 := cell_later hbw t1
      have z2 := cell_later hbw hcell2
      have z3 := cell_later hbw (hcc _ _ (arrs_get r _ _ hr2).1)
      have z4 := cell_later hbw (hcc _ _ (arrs_get r _ _ hr2).2)
      have hixl : classIx T.classes c < r.length := by have := classIx_le T.classes c; omega
      have CC := hide (show ∀ w', Below W1.heap.size W1 w' → Calls Tryz.prog 31 #[.pointer (some ⟨tb, 0, none⟩), .int .i32 (c : Int)] w' fun e w'' => e = .returned (.int .i64 ((classIx T.classes c : Nat) : Int)) ∧ Below W1.heap.size W1 w'' by
        intro w' hb'
        refine (classA_walk T HT.out base tb c w' (HA.out.below (below2 hbw hb'))).mono ?_
        rintro e w'' ⟨rfl, hb''⟩
        exact ⟨rfl, below2 hb' hb''⟩)
      have CCx := hide (show ∀ w' q, Below W1.heap.size W1 w' → w'.heap[q]? = some (.cells #[.int .i64 0, .bool false] 81 (0, 0)) → Calls Tryz.prog 31 #[.pointer (some ⟨tb, 0, none⟩), .int .i32 (c : Int)] w' fun e w'' => e = .returned (.int .i64 ((classIx T.classes c : Nat) : Int)) ∧ Below W1.heap.size W1 w'' ∧
          Hid (w''.heap[q]? = some (.cells #[.int .i64 0, .bool false] 81 (0, 0))) ∧ w''.cell? ⟨q, 0, none⟩ = some (.int .i64 0) ∧ w''.cell? ⟨q, 1, none⟩ = some (.bool false) ∧ w''.frozen? ⟨q, 0, none⟩ = false ∧ w''.frozen? ⟨q, 1, none⟩ = false ∧ q < w''.heap.size by
        intro w' q hb' hq'
        refine (classA_walk T HT.out base tb c w' (HA.out.below (below2 hbw hb'))).mono ?_
        rintro e w'' ⟨rfl, hb''⟩
        have hk : w''.heap[q]? = some (.cells #[.int .i64 0, .bool false] 81 (0, 0)) := by rw [hb''.block _ (lt_of_block hq')]; exact hq'
        exact ⟨rfl, below2 hb' hb'', hk, row_cell hk rfl, row_cell hk rfl, row_free hk 0, row_free hk 1, lt_of_block hk⟩)
      clear hcell2 hown2 hcc hr1 hr2
      generalize hAR : arrowAt T.classes T.states q c = ar at *
      clear hAR
      obtain ⟨a1, a2⟩ := ar
      simp only at z3 z4 hr3
      generalize classIx T.classes c = ix at *
      generalize hRL : r.length = R at *
      clear hRL hit
      have SOf := hide (show ∀ w', Below W1.heap.size W1 w' → (w'.cell? ⟨tb, 1, none⟩ = some (.slice (some ⟨gs, 0, none⟩) T.states.length caps) ∧ w'.cell? ⟨gs, q, none⟩ = some (.slice (some ⟨g2, 0, none⟩) R c2) ∧ w'.cell? ⟨g2, ix * 2, none⟩ = some (.int .i64 (a1 : Int)) ∧ w'.cell? ⟨g2, ix * 2 + 1, none⟩ = some (.bool a2) ∧ Below W1.heap.size W1 w') from
        fun w' h => ⟨cell_later h z1, cell_later h z2, cell_later h z3, cell_later h z4, h⟩)
      have CCb := hide (show ∀ w' q, Below W1.heap.size W1 w' → Hid (w'.heap[q]? = some (.cells #[.int .i64 0, .bool false] 81 (0, 0))) → Calls Tryz.prog 31 #[.pointer (some ⟨tb, 0, none⟩), .int .i32 (c : Int)] w' fun e w'' => e = .returned (.int .i64 (ix : Int)) ∧ Below W1.heap.size W1 w'' ∧
          Hid (w''.heap[q]? = some (.cells #[.int .i64 0, .bool false] 81 (0, 0))) ∧ w''.cell? ⟨q, 0, none⟩ = some (.int .i64 0) ∧ w''.cell? ⟨q, 1, none⟩ = some (.bool false) ∧ w''.frozen? ⟨q, 0, none⟩ = false ∧ w''.frozen? ⟨q, 1, none⟩ = false ∧ q < w''.heap.size from fun w' q hb' hq' => CCx.out w' q hb' hq'.out)
      have K0 := hide (SOf.out W1.drew (Below.refl _ _).drew)
      have KA := hide (show ∀ w' o, Below W1.heap.size W1 w' → Below W1.heap.size W1 (w'.alloc o) from fun w' o h => h.alloc h.size o)
      have KS := hide (show ∀ w' q k x, Below W1.heap.size W1 w' → W1.heap.size ≤ q → Below W1.heap.size W1 (w'.setCell ⟨q, k, none⟩ x) from fun w' q k x h hq => h.setCell (p := ⟨q, k, none⟩) hq x)
      have KD := hide (show ∀ o, Below W1.heap.size W1 (W1.alloc o).drew from fun o => ((Below.refl _ _).alloc (Nat.le_refl _) _).drew)
      have hix0 : (0 : Int) ≤ (ix : Int) := by omega
      have hixR : (ix : Int) < (R : Int) := by omega
      have n1 : gs < W1.heap.size := World.block_lt_of_cell? _ _ z2
      have n2 : tb < W1.heap.size := World.block_lt_of_cell? _ _ z1
      have n3 : g2 < W1.heap.size := World.block_lt_of_cell? _ _ z3
      go_upto_region 6 with fail
      go_cut [9] (fun s9 wx => ∃ q' : Nat, s9 = .pointer (some ⟨q', 0, none⟩) ∧ wx.heap[q']? = some (.cells #[.int .i64 (a1 : Int), .bool a2] 81 (0, 0)) ∧ Below W1.heap.size W1 wx)
      case first =>
        go_region_with (first
            | (go_at_call 31; refine (CCb.out _ W1.heap.size (by exact KD.out _) (by exact hide (heap_push_new W1 _))).mono ?_; rintro e w' ⟨rfl, hS, hQ, y1, y2, y3, y4, y5⟩; obtain ⟨v1, v2, v3, v4, v5⟩ := SOf.out w' hS; have v6 : g2 < w'.heap.size := World.block_lt_of_cell? _ _ v3; have v8 : gs < w'.heap.size := World.block_lt_of_cell? _ _ v2; have v9 : tb < w'.heap.size := World.block_lt_of_cell? _ _ v1)
            | (go_at_call 31; refine (CC.out _ (by exact (Below.refl _ _).drew)).mono ?_; rintro e w' ⟨rfl, hS⟩; obtain ⟨v1, v2, v3, v4, v5⟩ := SOf.out w' hS; have v6 : g2 < w'.heap.size := World.block_lt_of_cell? _ _ v3; have v8 : gs < w'.heap.size := World.block_lt_of_cell? _ _ v2; have v9 : tb < w'.heap.size := World.block_lt_of_cell? _ _ v1))
        all_goals (go_wp2_with fail)
        all_goals go_meet
        all_goals (first
          | exact ⟨_, rfl, heap_push_new _ _, KA.out _ _ (by assumption)⟩
          | exact ⟨_, rfl, two_set (unhide (by assumption)), KS.out _ _ _ _ (KS.out _ _ _ _ (by assumption) (Nat.le_refl _)) (Nat.le_refl _)⟩)
      case rest =>
        obtain ⟨q', rfl, hq', hbc⟩ := hcut
        have HQ := hide hq'
        have HBC := hide (show Below K w wc from HB1.out.trans (hbc.mono (Nat.le_of_lt hK2)))
        have HOc := hide (own_below HO1.out hbc (Nat.le_refl _))
        have HITc := hide (show wc.heap[K]? = some (.stringIter s (pos + wd)) by rw [hbc.block _ hK2]; exact HIT1.out)
        have y0 := row_cell hq' (j := 0) rfl
        have y1 := row_cell hq' (j := 1) rfl
        have hKc : K < wc.heap.size := (Array.getElem?_eq_some_iff.1 HITc.out).1
        have hqc := lt_of_block hq'
        have hms : s.size - (pos + wd) < s.size - pos := by omega
        have HITr := hide HIT.out
        clear hq' hbc HIT1 HO1 HB1 CC CCx CCb SOf K0 KA KS KD hnx z1 z2 z3 z4 HITr
        have HNext := hide (show ∀ fv F' wx, wx.ownsRow K 3 1 fv F'.length (ints F') → wx.heap[K]? = some (.stringIter s (pos + wd)) → Below K w wx → F' = F ++ (if a2 && decide (0 < pos) then [pos] else []) →
            ∃ (pos' q fuel : Nat) (F : List Nat), Value.int .i64 (a1 : Int) = .int .i64 (q : Int) ∧ wx.ownsRow K 3 1 fv F.length (ints F) ∧ wx.heap[K]? = some (.stringIter s pos') ∧ q < T.states.length ∧ F ++ goes T.classes T.states s fuel pos' q = goes T.classes T.states s s.size 0 0 ∧ s.size ≤ pos' + fuel ∧ F.length ≤ pos' ∧ F.length ≤ s.size ∧ Below K w wx by
          intro fv F' wx h1 h2 h3 h4
          obtain ⟨f, hf, hg⟩ := HGS.out
          refine ⟨pos + wd, a1, f, F', rfl, h1, h2, hr3, ?_, by omega, ?_, ?_, h3⟩
          · rw [← hg, h4, List.append_assoc]
          · rw [h4, List.length_append]; split <;> simp <;> omega
          · rw [h4, List.length_append]; split <;> simp <;> omega)
        have HMs := hide (show ∀ wx : World, wx.heap[K]? = some (.stringIter s (pos + wd)) → s.size - wx.iterPos K < s.size - wr.iterPos K by
          intro wx h1
          have h2 := HIT.out
          simp only [World.iterPos, h1, h2]
          omega)
        have HE1 := hide (fun wx h1 h2 h3 h4 => HNext.out (.slice aof F.length capf) F wx h1 h2 h3 h4)
        cases a2
        · have HFin := hide (HE1.out wc HOc.out HITc.out HBC.out (by simp))
          have HM := hide (HMs.out wc HITc.out)
          clear HNext HE1 HMs
          go_wp2
          go_roundw
          case rel => exact HFin.out
          case measure => exact HM.out
        · by_cases hp0 : 0 < pos
          · have dp : decide ((0 : Int) < (pos : Int)) = true := by simp; omega
            go_wp2_with (at_builtin; refine wpList_append_own _ rfl _ _ 33 rfl K 3 i0 (.int .i64 0) 1 8 Tryz.underlying33 hi hz0 hz1 hz2 rfl (by decide) _ F.length (ints F) rfl (HOc.out.alloc _) ⟨wc.heap.size, 0, none⟩ 1 1 [.int .i64 (pos : Int)] rfl rfl (one_news wc _ 3) (one_int _) (by unfold maxLen; omega) (by omega) (by simp; omega) ?_; intro v' w1 hown1 hgrow1 hnil1; have y0' : w1.cell? ⟨q', 0, none⟩ = some (.int .i64 (a1 : Int)) := row_cell (app_keep HOc.out hgrow1 HQ.out (fun c e => by injection e with _ e; cases e)) rfl; obtain ⟨ao', cap', rfl, _, _⟩ := own_shape hown1)
            have hI1 : w1.heap[K]? = some (.stringIter s (pos + wd)) := app_keep HOc.out hgrow1 HITc.out (fun c e => by cases e)
            have hB1 : Below K w w1 := (HBC.out.alloc (Nat.le_of_lt hKc) _).grown hgrow1 (by simp; omega) (fun k hk => (own_lt HOc.out k hk).1)
            have hO1 : w1.ownsRow K 3 1 (.slice ao' (F.length + 1) cap') (F ++ [pos]).length (ints (F ++ [pos])) := by
              rw [List.length_append, List.length_singleton, ints_append]
              exact hown1
            have HFin := hide (HNext.out _ (F ++ [pos]) w1 hO1 hI1 hB1 (by simp [hp0]))
            have HM := hide (HMs.out w1 hI1)
            clear hO1 hB1 hI1 hown1 hgrow1
            go_roundw
            case rel => exact HFin.out
            case measure => exact HM.out
          · have dp : decide ((0 : Int) < (pos : Int)) = false := by simp; omega
            have HFin := hide (HE1.out wc HOc.out HITc.out HBC.out (by simp [hp0]))
            have HM := hide (HMs.out wc HITc.out)
            clear HNext HE1 HMs
            go_wp2
            go_roundw
            case rel => exact HFin.out
            case measure => exact HM.out
    · have hnx := fun ty => Lib.run_next_end_at (P := Tryz.prog) wr K s pos ty hit hlt
      have HRes := hide (show F = goes T.classes T.states s s.size 0 0 by
        have h := HGO.out
        cases fuel with
        | zero => rw [goes, List.append_nil] at h; exact h
        | succ f => rw [goes, if_neg hlt, List.append_nil] at h; exact h)
      clear hit HGO
      go_wp2
      go_ret
      exact ⟨_, F, rfl, HRes.out, by omega, HK.out ▸ HO.out, HK.out ▸ HB.out⟩

set_option maxHeartbeats 2000000 in
/-- Breaks. -/
theorem breaksA_walk (T : Tbl) (hT : Bd T) (base tb : Nat) (s : ByteArray) (w : World) (hA : TabAt w base tb T) :
    Calls Tryz.prog 7 #[.pointer (some ⟨tb, 0, none⟩), .string s] w fun e w' => ∃ v F, e = .returned (.tuple #[v, .int .i64 (if 200 < s.size then 1 else 0)]) ∧ F = (if 200 < s.size then [] else goes T.classes T.states s s.size 0 0) ∧ F.length ≤ 1000 ∧ w'.ownsRow w.heap.size 3 1 v F.length (ints F) ∧ Below w.heap.size w w' := by
  by_cases hs : 200 < s.size
  · rw [if_pos hs, if_pos hs]
    go_enter Tryz.func7, Tryz.ntmps7
    go_wp2
    go_ret2
    exact ⟨_, [], rfl, rfl, Nat.zero_le _, World.ownsRow_nil _ _ _ _, Below.refl _ _⟩
  · rw [if_neg hs, if_neg hs]
    have H := hide (brkA_walk T hT base tb s (by omega) w hA)
    clear hA
    go_enter Tryz.func7, Tryz.ntmps7
    go_wp2_with fail
    refine H.out.mono ?_
    rintro e w1 ⟨v, F, rfl, hF, hl, ho, hb⟩
    have HX := hide (And.intro hF (And.intro hl (And.intro ho hb)))
    clear hF hl ho hb
    go_wp2
    go_ret2
    exact ⟨v, F, rfl, HX.out.1, HX.out.2.1, HX.out.2.2.1, HX.out.2.2.2⟩

end Go.Proofs.YtnecjeambpikdaaGreatDoor
