import Derived.Test.YtnecjeambpikdaaGreatDoorParted
import Derived.Test.YtnecjeambpikdaaGreatDoorGroups
namespace Go.Proofs.YtnecjeambpikdaaGreatDoor
open Go.RowKit Go.Maps Go.ChangeMaps Go.MapKept

/-- 'clear(m)' on a map that is owned. -/
theorem own_clear {H : Type} {P : Program} {w : World} {k e t : TypeId} {R : Value → Option (DataW H × List MemPlace)} {b n : Nat} {D : DataW H} (h : w.ownsMap P k R b n D) (ht : P.underlying t = some (.map k e)) (ty : TypeId) :
    ∃ w', (Builtin.clear_ #[t] ty #[.map (some b)]).run P w = .ok (.tuple #[]) w' ∧ w'.ownsMap P k R b 0 (.map []) ∧ w.grownBy w' (some b) := by
  obtain ⟨es, clock, hb, F, hs, rfl⟩ := h
  refine ⟨setBlock w b (.map #[] clock), ?_, ⟨#[], clock, heap_setBlock_same hb _, ⟨by simp, ?_, by simp⟩, Nat.le_refl _, rfl⟩, ?_⟩
  · simp [Builtin.clear_, run_underlying ht, MapKept.run_getObj_map hb, MapKept.run_setObj_map _ hb, Result.andThen, setBlock]
  · simp [Stamped]
  · exact ⟨rfl, rfl, rfl, by simp [setBlock], fun i _ hi => heap_setBlock_other hb _ (fun e => hi (by rw [e]))⟩

theorem wpList_clear_own {H : Type} {P : Program} (w : World) {ops : Array Oper} {rest : List Oper} {o : Oper} {a : Act} {Q : Exit → Act → World → Prop}
    (hg : o.guard = none) (m : Operand) (t : TypeId) (hop : o.op = Op.call { callee := Callee.builtin Builtin.clear, args := #[m], argTypes := #[t] })
    (k e : TypeId) (ht : P.underlying t = some (.map k e)) (R : Value → Option (DataW H × List MemPlace)) (b n : Nat) (D : DataW H) (hm : a.eval m = .map (some b)) (hown : w.ownsMap P k R b n D)
    (hK : ∀ w', w'.ownsMap P k R b 0 (.map []) → w.grownBy w' (some b) → wpList P ops Q rest (a.put o.dst (.tuple #[])) w') : wpList P ops Q (o :: rest) a w := by
  refine wpList_plain hg fun K' hK' => ?_
  obtain ⟨w', hrun, r1, r2⟩ := own_clear hown ht o.type
  unfold Oper.wp
  simp [execOp, hop, resolve, invoke, builtin, hm, hrun, Result.andThen]
  exact hK' _ _ (hK w' r1 r2)

theorem not_cells {H : Type} {P : Program} {w : World} {k : TypeId} {R : Value → Option (DataW H × List MemPlace)} {b n : Nat} {D : DataW H} (h : w.ownsMap P k R b n D) : ∀ j o, some b = some j → w.heap[j]? = some o → ∀ c e, o ≠ .cells c e (0, 0) := by
  intro j o hj ho c e ho'
  injection hj with hj
  subst hj
  obtain ⟨es, cl, hmb, _⟩ := h
  rw [hmb] at ho
  injection ho with ho
  rw [ho'] at ho
  cases ho
theorem own_map {H : Type} {P : Program} {w w' : World} {k : TypeId} {R : Value → Option (DataW H × List MemPlace)} {b n : Nat} {D : DataW H} {base : Nat} {e : TypeId} {size : Nat} {v : Value} {m : Nat} {xs : List Value}
    (h : w.ownsRow base e size v m xs) (hm : w.ownsMap P k R b n D) (hg : w.grownBy w' (some b)) : w'.ownsRow base e size v m xs := own_kept h hg (fun j o a b c => not_cells hm j o a b c _)
theorem rows_map {H : Type} {P : Program} {w w' : World} {k : TypeId} {R : Value → Option (DataW H × List MemPlace)} {b n : Nat} {D : DataW H} {α : Type} {base eo ei size : Nat} {enc : List α → List Value} {v : Value} {ll : List (List α)}
    (h : Rows2 w base eo ei size enc v ll) (hm : w.ownsMap P k R b n D) (hg : w.grownBy w' (some b)) : Rows2 w' base eo ei size enc v ll := h.kept hg (not_cells hm)

set_option maxRecDepth 100000 in
set_option maxHeartbeats 2000000 in
theorem groups_walk (states : List Arrows) (Wd base : Nat) (v : Value) (w : World) (hv : Rows2 w base 73 81 2 arrs v states)
    (hpos : 0 < states.length) (hn : states.length ≤ 1000) (hW0 : 0 < Wd) (hW7 : Wd ≤ 7) (ha : ∀ r ∈ states, r.length = Wd ∧ ∀ a ∈ r, a.1 < states.length) :
    Calls Tryz.prog 60 #[v] w fun e w' => ∃ v3 k, e = .returned v3 ∧ w'.ownsRow w.heap.size 3 1 v3 states.length (ints (groupsN states (k + 1))) ∧ IsFinal states (groupsN states (k + 1)) ∧ Below w.heap.size w w' := by
  obtain ⟨i0, hi, hz0, hz1, hz2⟩ := info_parts info3
  have hcl : Closed states := fun r hr a h => (ha r hr).2 a h
  have hmm := @run_makeMap Tryz.prog
  obtain ⟨ao, cap, rfl, hcap, hcm⟩ := hv.shape
  have HV := hide hv
  have HA := hide ha
  have HCL := hide hcl
  have HPOS := hide hpos
  have HN0 := hide hn
  clear hv ha hcl hpos hn
  generalize hN : states.length = N at *
  have HN := hide hN
  clear hN
  have hN1 := HN0.out
  go_enter Tryz.func60, Tryz.ntmps60
  go_wp2_with (at_make; refine wpList_make_full _ rfl _ _ 33 rfl w.heap.size 3 i0 (.int .i64 0) 1 Tryz.underlying33 hi hz0 hz1 .i64 .i64 N N N rfl rfl rfl rfl (by rw [hz2]; omega) (by unfold maxLen; omega) (Nat.le_refl _) ?_; intro w1 hown1 hgrow1)
  have hz : ints (groupsN states 0) = (madeCells (Value.int .i64 0).cells (N * 1)).toList := by
    rw [show (Value.int .i64 0).cells = #[.int .i64 0] from rfl, toList_madeCells_one, groupsN, HN.out]; simp [ints]
  have HO1 := hide (hz ▸ hown1)
  have HG1 := hide hgrow1
  have hw1 : w.heap.size ≤ w1.heap.size := hgrow1.size
  clear hz hown1 hgrow1
  go_loopw [3, 4] (fun gv c wr => ∃ k nn : Nat, ∃ D : DataW Unit, nn ≤ N ∧ c = .int .i64 (countN states k : Nat) ∧ wr.ownsRow w.heap.size 3 1 gv N (ints (groupsN states k)) ∧
      wr.ownsMap Tryz.prog 122 (plainElem (H := Unit) Tryz.prog 3) w1.heap.size nn D ∧ Below w.heap.size w wr) (fun _ c _ => N - (intOf c).toNat)
  case atStart =>
    refine ⟨0, 0, .map [], Nat.zero_le _, rfl, HO1.out.alloc _, World.ownsMap_made _ _ _ _, ?_⟩
    exact ((Below.refl _ _).grown HG1.out (Nat.le_refl _) (by simp)).alloc hw1 _
  case round =>
    obtain ⟨k, nn, D, hnn, rfl, hown, hmap, hb⟩ := hrel
    have HO := hide hown
    have HM := hide hmap
    have HB := hide hb
    have hcm1 := countN_mono states HCL.out k
    have hcl1 := countN_le states (k + 1)
    have HNl := HN.out
    rw [HNl] at hcl1
    have hgv := own_shape hown
    obtain ⟨gao, gcap, rfl, _, _⟩ := hgv
    clear hown hmap hb HNl
    obtain ⟨w2, hrun, hm2, hg2⟩ := own_clear (t := 132) HM.out Tryz.underlying132 0
    have HM2 := hide hm2
    have HG2 := hide hg2
    have HB2 := hide (HB.out.grown hg2 HB.out.size (fun j hj => by injection hj with hj; omega))
    have HV2 := hide (rows_map (HV.out.below HB.out (Nat.le_refl _)) HM.out hg2)
    have HO2 := hide (own_map HO.out HM.out hg2)
    clear hm2 hg2
    go_wp2_with fail
    have hb1 := HN.out
    refine (parted_walk states (groupsN states k) Wd base w.heap.size w1.heap.size 0 _ _ w2 HV2.out (by rw [groupsN_length, hb1]; exact HO2.out) (by have := HPOS.out; omega) (by omega) (groupsN_length states k) (groupsN_lt states (by have := HPOS.out; omega) k) hW0 hW7 (by rw [hb1]; exact HA.out) HM2.out (by omega)).mono ?_
    rintro e w3 ⟨v3, D3, rfl, hown3, hmap3, hsz3, hg3⟩
    have hcnt : (numAll (states.map fun l => vw l (groupsN states k))).2.length = countN states (k + 1) := rfl
    have hgrp : (numAll (states.map fun l => vw l (groupsN states k))).1 = groupsN states (k + 1) := rfl
    rw [hcnt] at hsz3
    rw [hgrp, hb1] at hown3
    rw [hb1] at hmap3
    have HO3 := hide (own_base hown3 (show w.heap.size ≤ w2.heap.size from HB2.out.size))
    have HM3 := hide hmap3
    have HB3 := hide (HB2.out.grown hg3 HB2.out.size (fun j hj => by injection hj with hj; omega))
    obtain ⟨gao3, gcap3, rfl, _, _⟩ := own_shape hown3
    have HSZ := hide hsz3
    clear hown3 hmap3 hg3 hcnt hgrp hb1 hrun hsz3
    by_cases hst : countN states (k + 1) = countN states k
    · have hbq : ((Maps.size D3 : Nat) : Int) == ((countN states k : Nat) : Int) := by rw [HSZ.out, hst]; simp
      have HST := hide hst
      clear hst
      go_wp2_with (at_len; refine wpList_len_own _ rfl _ 132 rfl 122 3 Tryz.underlying132 _ w1.heap.size _ D3 rfl HM3.out ?_)
      go_ret
      exact ⟨_, k, rfl, HO3.out, final_of_count states HCL.out (by rw [HN.out]; exact HPOS.out) k HST.out, HB3.out⟩
    · have hbq : (((Maps.size D3 : Nat) : Int) == ((countN states k : Nat) : Int)) = false := by rw [HSZ.out, beq_eq_false_iff_ne]; omega
      have hgt : countN states k < countN states (k + 1) := by omega
      go_wp2_with (at_len; refine wpList_len_own _ rfl _ 132 rfl 122 3 Tryz.underlying132 _ w1.heap.size _ D3 rfl HM3.out ?_)
      rw [HSZ.out]
      go_roundw
      case rel => exact ⟨k + 1, _, D3, by omega, rfl, HO3.out, HM3.out, HB3.out⟩
      case measure => simp [intOf]; omega

end Go.Proofs.YtnecjeambpikdaaGreatDoor
