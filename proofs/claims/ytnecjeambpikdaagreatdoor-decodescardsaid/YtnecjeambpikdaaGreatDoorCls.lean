import Derived.Test.YtnecjeambpikdaaGreatDoorWritten
import Derived.Test.YtnecjeambpikdaaGreatDoorAlike
namespace Go.Proofs.YtnecjeambpikdaaGreatDoor
open Go.RowKit

/-- Does a class have a rune? -/
def inCls (l : List (Nat × Nat)) (c : Nat) : Bool := l.any fun x => decide (x.1 ≤ c) && decide (c ≤ x.2)
/-- The first class that has a rune. -/
def classIx : List (List (Nat × Nat)) → Nat → Nat
  | [], _ => 0
  | l :: r, c => if inCls l c then 0 else classIx r c + 1
theorem classIx_le : ∀ (cl : List (List (Nat × Nat))) (c : Nat), classIx cl c ≤ cl.length
  | [], _ => Nat.le_refl _
  | l :: r, c => by
    rw [classIx]
    split
    · exact Nat.zero_le _
    · have := classIx_le r c; simp; omega

set_option maxHeartbeats 4000000 in
set_option maxRecDepth 100000 in
theorem classA_walk (T : Tbl) (hT : Bd T) (base tb c : Nat) (w : World) (hA : TabAt w base tb T) :
    Calls Tryz.prog 31 #[.pointer (some ⟨tb, 0, none⟩), .int .i32 (c : Int)] w fun e w' => e = .returned (.int .i64 ((classIx T.classes c : Nat) : Int)) ∧ Below w.heap.size w w' := by
  obtain ⟨vc, vs, hh, hrc, hrs⟩ := hA
  obtain ⟨ao, cap, rfl, _, _⟩ := hrc.shape
  have t0 := row_cell hh (j := 0) rfl
  have HRC := hide hrc
  have HEach := hide hT.each
  have hC6 := hT.cls
  have htb := lt_of_block hh
  clear hrc hrs hh hT
  generalize T.classes = cl at *
  generalize hC : cl.length = C at *
  have HC := hide hC
  clear hC
  go_enter Tryz.func31, Tryz.ntmps31
  go_wp2_with fail
  go_loopw [14] (fun i wr => ∃ k : Nat, k ≤ C ∧ i = .int .i64 (k : Int) ∧ classIx (cl.drop k) c + k = classIx cl c ∧ Below w.heap.size w wr) (fun i _ => C - (intOf i).toNat)
  case atStart => exact ⟨0, Nat.zero_le _, rfl, by simp, Below.refl _ _⟩
  case round =>
    obtain ⟨k, hk, rfl, hix, hb⟩ := hrel
    have HIX := hide hix
    have HB := hide hb
    clear hix hb
    have t0r := cell_later HB.out t0
    by_cases hlt : k < C
    · have hx : cl[k]? = some (cl.getD k []) := getD_some _ _ _ (by have := HC.out; omega)
      obtain ⟨g1, cap1, hv1, _, _, hrow⟩ := HRC.out.head (by have := HC.out; omega)
      obtain ⟨ao2, c2, hcell, _, _, hown⟩ := hrow k _ hx
      have hok := HEach.out _ (List.mem_of_getElem? hx)
      have HD := hide (drop_cons hx)
      clear hx hrow
      generalize cl.getD k [] = l at *
      injection hv1 with hao hlen hcap
      clear hlen
      subst hao
      subst hcap
      obtain ⟨g2, c3, hv2, _, _, _, _, hcc, _⟩ := own_head hown hok.1
      injection hv2 with hao2 _ hc3
      subst hao2
      subst hc3
      have hcr := cell_later HB.out hcell
      have HCC := hide hcc
      have hL6 := hok.2.1
      have HSp := hide hok.2.2
      clear hcell hown hcc hok
      generalize hL : l.length = L at *
      have HL := hide hL
      clear hL
      go_wp2_with fail
      go_loopw [21] (fun i wr => ∃ j : Nat, j ≤ L ∧ i = .int .i64 (j : Int) ∧ inCls (l.drop j) c = inCls l c ∧ Below w.heap.size w wr) (fun i _ => L - (intOf i).toNat)
      case atStart => exact ⟨0, Nat.zero_le _, rfl, by simp, HB.out⟩
      case round =>
        obtain ⟨j, hj, rfl, hin, hb⟩ := hrel
        have HIN := hide hin
        have HB2 := hide hb
        clear hin hb
        by_cases hlt2 : j < L
        · have hx : l[j]? = some (l.getD j (0, 0)) := getD_some _ _ _ (by have := HL.out; omega)
          have s1 := cell_later HB2.out (HCC.out _ _ (rngs_get .i32 l j _ hx).1)
          have s2 := cell_later HB2.out (HCC.out _ _ (rngs_get .i32 l j _ hx).2)
          have HD2 := hide (drop_cons hx)
          clear hx
          generalize l.getD j (0, 0) = x at *
          obtain ⟨lo, hi⟩ := x
          simp only at s1 s2
          have HSt := hide (show inCls l c = ((decide (lo ≤ c) && decide (c ≤ hi)) || inCls (l.drop (j + 1)) c) by
            rw [← HIN.out, HD2.out, inCls, List.any_cons]; rfl)
          have hBa : w.heap.size ≤ wr.heap.size := HB2.out.size
          by_cases h1 : lo ≤ c
          · have d1 : decide ((lo : Int) ≤ (c : Int)) = true := by simp; omega
            by_cases h2 : c ≤ hi
            · have d2 : decide ((c : Int) ≤ (hi : Int)) = true := by simp; omega
              have HRes := hide (show k = classIx cl c by
                have h3 := HIX.out
                have h4 := HSt.out
                rw [decide_eq_true h1, decide_eq_true h2] at h4
                rw [HD.out, classIx, h4] at h3
                simp at h3
                exact h3)
              have HBf := hide (show ∀ o, Below w.heap.size w (wr.alloc o) from fun o => HB2.out.alloc hBa o)
              clear HSt HD2 HIN HIX
              go_wp2
              go_ret
              exact ⟨ret_int (by rw [← HRes.out]), HBf.out _⟩
            · have d2 : decide ((c : Int) ≤ (hi : Int)) = false := by simp; omega
              have HNx := hide (show inCls (l.drop (j + 1)) c = inCls l c by
                have h4 := HSt.out
                rw [decide_eq_false h2] at h4
                simpa using h4.symm)
              have HBf := hide (show ∀ o, Below w.heap.size w (wr.alloc o) from fun o => HB2.out.alloc hBa o)
              clear HSt HD2 HIN
              go_wp2
              go_roundw
              case rel => exact ⟨j + 1, by omega, by go_num, HNx.out, HBf.out _⟩
              case measure => simp [intOf]; omega
          · have d1 : decide ((lo : Int) ≤ (c : Int)) = false := by simp; omega
            have HNx := hide (show inCls (l.drop (j + 1)) c = inCls l c by
              have h4 := HSt.out
              rw [decide_eq_false h1] at h4
              simpa using h4.symm)
            have HBf := hide (show ∀ o, Below w.heap.size w (wr.alloc o) from fun o => HB2.out.alloc hBa o)
            clear HSt HD2 HIN
            go_wp2
            go_roundw
            case rel => exact ⟨j + 1, by omega, by go_num, HNx.out, HBf.out _⟩
            case measure => simp [intOf]; omega
        · have HNx := hide (show classIx (cl.drop (k + 1)) c + (k + 1) = classIx cl c by
            have h1 := HIN.out
            rw [List.drop_eq_nil_of_le (by have := HL.out; omega)] at h1
            have h2 : inCls l c = false := h1.symm
            have h3 := HIX.out
            rw [HD.out, classIx, h2] at h3
            simp at h3
            omega)
          go_wp2
          go_roundw
          case rel => exact ⟨k + 1, by omega, by go_num, HNx.out, HB2.out⟩
          case measure => simp [intOf]; omega
    · have HRes := hide (show C = classIx cl c by
        have h3 := HIX.out
        rw [List.drop_eq_nil_of_le (by have := HC.out; omega), classIx] at h3
        omega)
      go_wp2
      go_ret
      exact ⟨ret_int (by rw [← HRes.out]), HB.out⟩

end Go.Proofs.YtnecjeambpikdaaGreatDoor
