import Derived.Test.YtnecjeambpikdaaGreatDoorCls
namespace Go.Proofs.YtnecjeambpikdaaGreatDoor
open Go.RowKit

/-- What is read of a class. -/
theorem ClsAt.head {w : World} {base : Nat} {v : Value} {cl : List (List (Nat × Nat))} (h : ClsAt w base v cl) (hn : 0 < cl.length) :
    ∃ g cap, v = .slice (some ⟨g, 0, none⟩) cl.length cap ∧ ∀ i l, cl[i]? = some l → 0 < l.length → ∃ g2 c2, w.cell? ⟨g, i * 2 + 1, none⟩ = some (.slice (some ⟨g2, 0, none⟩) l.length c2) ∧ ∀ j u, (rngs .i64 l)[j]? = some u → w.cell? ⟨g2, j, none⟩ = some u := by
  obtain ⟨us, h1, h2, h3⟩ := h
  obtain ⟨g, cap, rfl, _, _, _, _, hc, _⟩ := own_head h2 hn
  refine ⟨g, cap, rfl, fun i l hl hl0 => ?_⟩
  obtain ⟨u, hu, ho⟩ := h3 i l hl
  obtain ⟨g2, c2, rfl, _, _, _, _, hc2, _⟩ := own_head ho hl0
  exact ⟨g2, c2, hc _ _ (pairs_get (fun _ => .string ⟨#[]⟩) (fun u => u) us i _ hu).2, hc2⟩
theorem ClsAt.shape {w : World} {base : Nat} {v : Value} {cl : List (List (Nat × Nat))} (h : ClsAt w base v cl) : ∃ ao cap, v = .slice ao cl.length cap := by
  obtain ⟨us, h1, h2, h3⟩ := h
  obtain ⟨ao, cap, rfl, _, _⟩ := own_shape h2
  exact ⟨ao, cap, rfl⟩


set_option maxHeartbeats 4000000 in
set_option maxRecDepth 100000 in
theorem classR_walk (cl : List (List (Nat × Nat))) (hcl : cl.length ≤ 6) (hcl2 : ∀ l ∈ cl, 1 ≤ l.length ∧ l.length ≤ 1000) (base rb c : Nat) (v : Value) (w : World) (h0 : w.cell? ⟨rb, 0, none⟩ = some v) (hv : ClsAt w base v cl) :
    Calls Tryz.prog 32 #[.pointer (some ⟨rb, 0, none⟩), .int .i64 (c : Int)] w fun e w' => e = .returned (.int .i64 ((classIx cl c : Nat) : Int)) ∧ Below w.heap.size w w' := by
  obtain ⟨ao, cap, rfl⟩ := hv.shape
  have HV := hide hv
  have HEach := hide hcl2
  clear hv hcl2
  generalize hC : cl.length = C at *
  have HC := hide hC
  clear hC
  go_enter Tryz.func32, Tryz.ntmps32
  go_wp2_with fail
  go_loopw [5] (fun i wr => ∃ k : Nat, k ≤ C ∧ i = .int .i64 (k : Int) ∧ classIx (cl.drop k) c + k = classIx cl c ∧ Below w.heap.size w wr) (fun i _ => C - (intOf i).toNat)
  case atStart => exact ⟨0, Nat.zero_le _, rfl, by simp, Below.refl _ _⟩
  case round =>
    obtain ⟨k, hk, rfl, hix, hb⟩ := hrel
    have HIX := hide hix
    have HB := hide hb
    clear hix hb
    have t0r := cell_later HB.out h0
    by_cases hlt : k < C
    · have hx : cl[k]? = some (cl.getD k []) := getD_some _ _ _ (by have := HC.out; omega)
      have hok := HEach.out _ (List.mem_of_getElem? hx)
      obtain ⟨g1, cap1, hv1, hrow⟩ := HV.out.head (by have := HC.out; omega)
      obtain ⟨g2, c2, hcell, hcc⟩ := hrow k _ hx hok.1
      have HD := hide (drop_cons hx)
      clear hx hrow
      generalize cl.getD k [] = l at *
      injection hv1 with hao hlen hcap
      clear hlen
      subst hao
      subst hcap
      have HCC := hide hcc
      have hL6 := hok.2
      have HCell := hide hcell
      clear hcell hcc hok
      generalize hL : l.length = L at *
      have HL := hide hL
      clear hL
      go_wp2_with fail
      go_loopw [6] (fun i wi => ∃ j : Nat, j ≤ L ∧ i = .int .i64 (j : Int) ∧ inCls (l.drop j) c = inCls l c ∧ Below w.heap.size w wi) (fun i _ => L - (intOf i).toNat)
      case atStart => exact ⟨0, Nat.zero_le _, rfl, by simp, HB.out⟩
      case round =>
        obtain ⟨j, hj, rfl, hin, hb⟩ := hrel
        have HIN := hide hin
        have HB2 := hide hb
        clear hin hb
        have u0 := cell_later HB2.out h0
        have u1 := cell_later HB2.out HCell.out
        by_cases hlt2 : j < L
        · have hx : l[j]? = some (l.getD j (0, 0)) := getD_some _ _ _ (by have := HL.out; omega)
          have s1 := cell_later HB2.out (HCC.out _ _ (rngs_get .i64 l j _ hx).1)
          have s2 := cell_later HB2.out (HCC.out _ _ (rngs_get .i64 l j _ hx).2)
          have HD2 := hide (drop_cons hx)
          clear hx
          generalize l.getD j (0, 0) = x at *
          obtain ⟨lo, hi⟩ := x
          simp only at s1 s2
          have HSt := hide (show inCls l c = ((decide (lo ≤ c) && decide (c ≤ hi)) || inCls (l.drop (j + 1)) c) by
            rw [← HIN.out, HD2.out, inCls, List.any_cons]; rfl)
          have hBa : w.heap.size ≤ wr.heap.size := HB2.out.size
          by_cases h1 : lo ≤ c
          · have d1 : decide ((lo : Int) ≤ (c : Int)) = true := by simp; omega
            by_cases h2 : c ≤ hi
            · have d2 : decide ((c : Int) ≤ (hi : Int)) = true := by simp; omega
              have HRes := hide (show k = classIx cl c by
                have h3 := HIX.out
                have h4 := HSt.out
                rw [decide_eq_true h1, decide_eq_true h2] at h4
                rw [HD.out, classIx, h4] at h3
                simp at h3
                exact h3)
              have HBf := hide (show ∀ o, Below w.heap.size w (wr.alloc o) from fun o => HB2.out.alloc hBa o)
              clear HSt HD2 HIN HIX
              go_wp2
              go_ret
              exact ⟨ret_int (by rw [← HRes.out]), HBf.out _⟩
            · have d2 : decide ((c : Int) ≤ (hi : Int)) = false := by simp; omega
              have HNx := hide (show inCls (l.drop (j + 1)) c = inCls l c by
                have h4 := HSt.out
                rw [decide_eq_false h2] at h4
                simpa using h4.symm)
              have HBf := hide (show ∀ o, Below w.heap.size w (wr.alloc o) from fun o => HB2.out.alloc hBa o)
              clear HSt HD2 HIN
              go_wp2
              go_roundw
              case rel => exact ⟨j + 1, by omega, by go_num, HNx.out, HBf.out _⟩
              case measure => simp [intOf]; omega
          · have d1 : decide ((lo : Int) ≤ (c : Int)) = false := by simp; omega
            have HNx := hide (show inCls (l.drop (j + 1)) c = inCls l c by
              have h4 := HSt.out
              rw [decide_eq_false h1] at h4
              simpa using h4.symm)
            have HBf := hide (show ∀ o, Below w.heap.size w (wr.alloc o) from fun o => HB2.out.alloc hBa o)
            clear HSt HD2 HIN
            go_wp2
            go_roundw
            case rel => exact ⟨j + 1, by omega, by go_num, HNx.out, HBf.out _⟩
            case measure => simp [intOf]; omega
        · have HNx := hide (show classIx (cl.drop (k + 1)) c + (k + 1) = classIx cl c by
            have h1 := HIN.out
            rw [List.drop_eq_nil_of_le (by have := HL.out; omega)] at h1
            have h2 : inCls l c = false := h1.symm
            have h3 := HIX.out
            rw [HD.out, classIx, h2] at h3
            simp at h3
            omega)
          go_wp2
          go_roundw
          case rel => exact ⟨k + 1, by omega, by go_num, HNx.out, HB2.out⟩
          case measure => simp [intOf]; omega
    · have HRes := hide (show C = classIx cl c by
        have h3 := HIX.out
        rw [List.drop_eq_nil_of_le (by have := HC.out; omega), classIx] at h3
        omega)
      go_wp2
      go_ret
      exact ⟨ret_int (by rw [← HRes.out]), HB.out⟩

set_option maxHeartbeats 4000000 in
set_option maxRecDepth 100000 in
theorem classB_walk (cl : List (List (Nat × Nat))) (st : List (List (Nat × Bool))) (hcl : cl.length ≤ 6) (hcl2 : ∀ l ∈ cl, 1 ≤ l.length ∧ l.length ≤ 1000) (base tb c : Nat) (w : World) (hv : RTab w base tb cl st) :
    Calls Tryz.prog 18 #[.pointer (some ⟨tb, 0, none⟩), .int .i64 (c : Int)] w fun e w' => e = .returned (.int .i64 ((classIx cl c : Nat) : Int)) ∧ Below w.heap.size w w' := by
  obtain ⟨vc, vt, vx, h1, h2, _, _⟩ := hv
  have q0 := row_cell h1 (j := 0) rfl
  have HC := hide h2
  obtain ⟨ao, cap, rfl⟩ := h2.shape
  clear h1 h2
  go_enter Tryz.func18, Tryz.ntmps18
  go_wp2_with fail
  refine (classR_walk cl hcl hcl2 base w.heap.size c _ _ (row_cell (heap_push_new w _) rfl) (HC.out.below ((Below.refl _ _).alloc (Nat.le_refl _) _))).mono ?_
  rintro e w1 ⟨rfl, hb⟩
  have HB := hide (below2 ((Below.refl _ _).alloc (Nat.le_refl _) _) hb)
  clear hb
  go_wp2
  go_ret
  exact ⟨rfl, HB.out⟩

end Go.Proofs.YtnecjeambpikdaaGreatDoor
