import Derived.Test.YtnecjeambpikdaaGreatDoorProg
import Derived.Test.YtnecjeambpikdaaGreatDoorMem
import Derived.Test.YtnecjeambpikdaaGreatDoorPure
namespace Go.Proofs.YtnecjeambpikdaaGreatDoor
open Go.RowKit

set_option maxHeartbeats 1000000 in
theorem come_walk (states : List (List (Nat × Bool))) (base : Nat) (v : Value) (w : World) (hv : Rows2 w base 73 81 2 arrs v states) (hn : states.length ≤ 1000000) (hpos : 0 < states.length)
    (ha : ∀ r ∈ states, 0 < r.length ∧ r.length ≤ 1000000 ∧ ∀ a ∈ r, a.1 < 16777216) :
    Calls Tryz.prog 24 #[v] w fun e w' => e = .returned (.bool (asTheyCome states)) ∧ Below w.heap.size w w' := by
  obtain ⟨g, cap, rfl, hbg, hglt, hrow⟩ := hv.head hpos
  have HR : Hid (∀ (i : Nat) (l : List (Nat × Bool)), states[i]? = some l → ∃ ao c, w.cell? ⟨g, i, none⟩ = some (.slice ao l.length c) ∧ l.length ≤ c ∧ c ≤ maxLen ∧ w.ownsRow base 81 2 (.slice ao l.length c) l.length (arrs l)) := hrow
  have HA : Hid (∀ r ∈ states, 0 < r.length ∧ r.length ≤ 1000000 ∧ ∀ a ∈ r, a.1 < 16777216) := ha
  have hbg' : Hid (base ≤ g) := hbg
  clear hv hrow ha hbg
  generalize hN : states.length = N at *
  have HN : Hid (states.length = N) := hN
  clear hN
  go_enter Tryz.func24, Tryz.ntmps24
  go_wp2
  go_loopw [3, 10] (fun m i wr => ∃ k met : Nat, k ≤ N ∧ i = .int .i64 k ∧ m = .int .i64 met ∧ met ≤ 16777216 ∧ comeRows k met (states.drop k) = comeRows 0 1 states ∧ Below w.heap.size w wr) (fun _ i _ => N - (intOf i).toNat)
  case atStart => exact ⟨0, 1, Nat.zero_le _, rfl, rfl, by omega, by simp, Below.refl _ _⟩
  case round =>
    obtain ⟨k, met, hk, rfl, rfl, hmet, heq, hb⟩ := hrel
    have HE : Hid (comeRows k met (states.drop k) = comeRows 0 1 states) := heq
    clear heq
    by_cases hlt : k < N
    · have hsl : states[k]? = some (states.getD k []) := getD_some _ _ _ (by have := HN.out; omega)
      obtain ⟨ao, c, hcell, hlc, hcm, hown⟩ := HR.out k _ hsl
      obtain ⟨hl0, hlm, hla⟩ := HA.out _ (List.mem_of_getElem? hsl)
      obtain ⟨l, hl⟩ : ∃ l, l = states.getD k [] := ⟨_, rfl⟩
      rw [← hl] at hsl hcell hlc hown hl0 hlm hla
      obtain ⟨g2, c2, hv2, _, hg2lt, _, _, hc2, _⟩ := own_head hown hl0
      injection hv2 with hao _ hcc
      subst hao hcc
      have hcr : wr.cell? ⟨g, k, none⟩ = some (.slice (some ⟨g2, 0, none⟩) l.length c) := (hb.cell hglt).trans hcell
      have HDrop : Hid (states.drop k = l :: states.drop (k + 1)) := drop_cons hsl
      have HC2 : Hid (∀ j u, (arrs l)[j]? = some u → w.cell? ⟨g2, j, none⟩ = some u) := hc2
      have HLA : Hid (∀ a ∈ l, a.1 < 16777216) := hla
      clear hsl hcell hown hl hc2 hla
      generalize hL : l.length = L at *
      have HL : Hid (l.length = L) := hL
      clear hL
      by_cases hkm : k = met
      · subst hkm
        have hbq : ((k : Int) == (k : Int)) = true := by simp
        go_wp2
        go_ret
        refine ⟨ret_bool ?_, hb⟩
        have := HE.out
        rw [HDrop.out, comeRows, if_pos rfl] at this
        simp [asTheyCome, ← this]
      · have hbq : ((k : Int) == (met : Int)) = false := by simp; omega
        go_wp2
        go_loopw [3, 20] (fun m i wi => ∃ j met' : Nat, j ≤ L ∧ i = .int .i64 j ∧ m = .int .i64 met' ∧ met' ≤ 16777216 ∧ comeRow met' (l.drop j) = comeRow met l ∧ Below w.heap.size w wi) (fun _ i _ => L - (intOf i).toNat)
        case atStart => exact ⟨0, met, Nat.zero_le _, rfl, rfl, hmet, by simp, hb⟩
        case round =>
          rename_i wi hrel
          obtain ⟨j, met', hj, rfl, rfl, hmet', heq', hb'⟩ := hrel
          have HE' : Hid (comeRow met' (l.drop j) = comeRow met l) := heq'
          clear heq'
          by_cases hjl : j < L
          · have hx : l[j]? = some (l.getD j (0, false)) := getD_some _ _ _ (by have := HL.out; omega)
            have hxa := HLA.out _ (List.mem_of_getElem? hx)
            have HDrop' : Hid (l.drop j = l.getD j (0, false) :: l.drop (j + 1)) := drop_cons hx
            have q0 := (hb'.cell (p := ⟨g2, j * 2, none⟩) hg2lt).trans (HC2.out _ _ (arrs_get l j _ hx).1)
            have q1 := (hb'.cell (p := ⟨g2, j * 2 + 1, none⟩) hg2lt).trans (HC2.out _ _ (arrs_get l j _ hx).2)
            clear hx
            generalize l.getD j (0, false) = x at *
            obtain ⟨x1, x2⟩ := x
            simp only at q0 q1 hxa
            have hE := HE'.out
            rw [HDrop'.out, comeRow] at hE
            have HE2 := hide hE
            clear hE HE'
            go_wp2
            · have hlt2 : met' < x1 := by assumption
              go_ret
              refine ⟨ret_bool ?_, hb'.alloc hb'.size _⟩
              have h2 := unhide HE2
              rw [if_pos hlt2] at h2
              have h1 := HE.out
              rw [HDrop.out, comeRows, if_neg hkm, ← h2] at h1
              simp [asTheyCome, ← h1]
            · have hlt2 : ¬ met' < x1 := by assumption
              have hq : ((x1 : Int) == (met' : Int)) = true := by assumption
              have hxx : x1 = met' := by simpa [cast_beq] using hq
              have h2 := unhide HE2
              rw [if_neg hlt2, if_pos hxx] at h2
              go_roundw
              case rel => exact ⟨j + 1, met' + 1, by omega, by go_num, by go_num, by omega, h2, hb'.alloc hb'.size _⟩
              case measure => simp [intOf]; omega
            · have hlt2 : ¬ met' < x1 := by assumption
              have hq : ((x1 : Int) == (met' : Int)) = false := by assumption
              have hxx : ¬ x1 = met' := by simpa [cast_beq] using hq
              have h2 := unhide HE2
              rw [if_neg hlt2, if_neg hxx] at h2
              go_roundw
              case rel => exact ⟨j + 1, met', by omega, by go_num, by go_num, by omega, h2, hb'.alloc hb'.size _⟩
              case measure => simp [intOf]; omega
          · go_wp2
            have h2 := HE'.out
            rw [List.drop_eq_nil_of_le (by have := HL.out; omega), comeRow] at h2
            have h1 := HE.out
            rw [HDrop.out, comeRows, if_neg hkm, ← h2] at h1
            go_roundw
            case rel => exact ⟨k + 1, met', by omega, by go_num, rfl, hmet', h1, hb'⟩
            case measure => simp [intOf]; omega
    · go_wp2
      go_ret
      refine ⟨ret_bool ?_, hb⟩
      have h1 := HE.out
      rw [List.drop_eq_nil_of_le (by have := HN.out; omega), comeRows] at h1
      rw [asTheyCome, ← h1, HN.out]
      rw [cast_beq]; simp

end Go.Proofs.YtnecjeambpikdaaGreatDoor
