import Derived.Test.YtnecjeambpikdaaGreatDoorRuns
namespace Go.Proofs.YtnecjeambpikdaaGreatDoor
open Go.RowKit

set_option maxHeartbeats 1000000 in
theorem digit_any (n : Nat) (hn : n ≤ 255) (w : World) : Calls Tryz.prog 46 #[.int .u8 (n : Int)] w fun e w' => e = .returned (.bool (decide (48 ≤ n ∧ n ≤ 57))) ∧ w' = w := by
  by_cases h : 48 ≤ n
  · have d1 : decide ((48 : Int) ≤ (n : Int)) = true := by simp; omega
    by_cases h2 : n ≤ 57
    · have d2 : decide ((n : Int) ≤ 57) = true := by simp; omega
      go_enter Tryz.func46, Tryz.ntmps46
      go_wp2
      go_ret
      exact ⟨ret_bool (by simp [h, h2]), rfl⟩
    · have d2 : decide ((n : Int) ≤ 57) = false := by simp; omega
      go_enter Tryz.func46, Tryz.ntmps46
      go_wp2
      go_ret
      exact ⟨ret_bool (by simp [h2]), rfl⟩
  · have d1 : decide ((48 : Int) ≤ (n : Int)) = false := by simp; omega
    go_enter Tryz.func46, Tryz.ntmps46
    go_wp2
    go_ret
    exact ⟨ret_bool (by simp [h]), rfl⟩

/-- What hexDigit answers. -/
def hexAns (c : UInt8) : Int := match digOf c with
  | some d => (d : Int)
  | none => -1

set_option maxHeartbeats 1000000 in
theorem hexDigit_any (c : UInt8) (w : World) : Calls Tryz.prog 26 #[.int .u8 (c.toNat : Int)] w fun e w' => e = .returned (.int .i64 (hexAns c)) ∧ w' = w := by
  have hA : hexAns c = if 48 ≤ c.toNat ∧ c.toNat ≤ 57 then ((c.toNat : Int) - 48) else if 97 ≤ c.toNat ∧ c.toNat ≤ 102 then ((c.toNat : Int) - 87) else -1 := by
    unfold hexAns digOf
    split
    · rename_i d h
      split at h
      · rename_i g; injection h with h; rw [if_pos g]; omega
      · rename_i g
        split at h
        · rename_i g2; injection h with h; rw [if_neg g, if_pos g2]; omega
        · cases h
    · rename_i h
      split at h
      · cases h
      · rename_i g
        split at h
        · cases h
        · rename_i g2; rw [if_neg g, if_neg g2]
  rw [hA]
  have hn : c.toNat ≤ 255 := by have := c.toNat_lt; omega
  generalize c.toNat = n at *
  clear hA
  by_cases h : 48 ≤ n ∧ n ≤ 57
  · rw [if_pos h]
    have C1 := hide (show ∀ w, Calls Tryz.prog 46 #[.int .u8 (n : Int)] w fun e w' => e = .returned (.bool true) ∧ w' = w from fun w => by
      have := digit_any n hn w
      rwa [decide_eq_true h] at this)
    obtain ⟨h1, h2⟩ := h
    go_enter Tryz.func26, Tryz.ntmps26
    go_wp2_with fail
    refine (C1.out _).mono ?_
    rintro e w' ⟨rfl, rfl⟩
    go_wp2
    go_ret
    exact ⟨ret_int rfl, rfl⟩
  · rw [if_neg h]
    have C1 := hide (show ∀ w, Calls Tryz.prog 46 #[.int .u8 (n : Int)] w fun e w' => e = .returned (.bool false) ∧ w' = w from fun w => by
      have := digit_any n hn w
      rwa [decide_eq_false h] at this)
    by_cases h1 : 97 ≤ n
    · have d1 : decide ((97 : Int) ≤ (n : Int)) = true := by simp; omega
      by_cases h2 : n ≤ 102
      · have d2 : decide ((n : Int) ≤ 102) = true := by simp; omega
        rw [if_pos ⟨h1, h2⟩]
        clear h
        go_enter Tryz.func26, Tryz.ntmps26
        go_wp2_with fail
        refine (C1.out _).mono ?_
        rintro e w' ⟨rfl, rfl⟩
        go_wp2
        go_ret
        exact ⟨ret_int (by omega), rfl⟩
      · have d2 : decide ((n : Int) ≤ 102) = false := by simp; omega
        rw [if_neg (fun g => h2 g.2)]
        clear h
        go_enter Tryz.func26, Tryz.ntmps26
        go_wp2_with fail
        refine (C1.out _).mono ?_
        rintro e w' ⟨rfl, rfl⟩
        go_wp2
        go_ret
        exact ⟨rfl, rfl⟩
    · have d1 : decide ((97 : Int) ≤ (n : Int)) = false := by simp; omega
      rw [if_neg (fun g => h1 g.1)]
      clear h
      go_enter Tryz.func26, Tryz.ntmps26
      go_wp2_with fail
      refine (C1.out _).mono ?_
      rintro e w' ⟨rfl, rfl⟩
      go_wp2
      go_ret
      exact ⟨rfl, rfl⟩

/-- A text that is being read. -/
def FeedAt (w : World) (fb : Nat) (s : ByteArray) (ok : Bool) : Prop := w.heap[fb]? = some (.cells #[.string s, .bool ok] 50 (0, 0))

/-- What skip leaves. -/
def Skipped (fb : Nat) (s t : ByteArray) (ok : Bool) (w w' : World) : Prop := ∃ (s' : ByteArray) (ok' : Bool), FeedAt w' fb s' ok' ∧ s'.size ≤ s.size ∧ (ok' = true → ok = true ∧ s.data.toList = t.data.toList ++ s'.data.toList) ∧
      (∀ r, ok = true → s.data.toList = t.data.toList ++ r → ok' = true ∧ s'.data.toList = r) ∧ w.grownBy w' (some fb)

theorem extract_tail (s : ByteArray) (i : Nat) : (s.extract i s.size).data.toList = s.data.toList.drop i := by
  simp only [ByteArray.data_extract, Array.toList_extract, List.extract_eq_take_drop]
  rw [List.take_of_length_le (by rw [List.length_drop, Lib.size_eq s]; exact Nat.le_refl _)]
theorem extract_head (s : ByteArray) (i : Nat) : (s.extract 0 i).data.toList = s.data.toList.take i := by
  simp only [ByteArray.data_extract, Array.toList_extract, List.extract_eq_take_drop, List.drop_zero, Nat.sub_zero]

set_option maxHeartbeats 2000000 in
set_option maxRecDepth 100000 in
theorem skip_walk (fb : Nat) (s t : ByteArray) (ok : Bool) (w : World) (hf : FeedAt w fb s ok) :
    Calls Tryz.prog 13 #[.pointer (some ⟨fb, 0, none⟩), .string t] w fun e w' => e = .returned (.tuple #[]) ∧ Skipped fb s t ok w w' := by
  have hc0 : w.cell? ⟨fb, 0, none⟩ = some (.string s) := row_cell hf rfl
  have hc1 : w.cell? ⟨fb, 1, none⟩ = some (.bool ok) := row_cell hf rfl
  have hz0 : w.frozen? ⟨fb, 0, none⟩ = false := row_free hf 0
  have hz1 : w.frozen? ⟨fb, 1, none⟩ = false := row_free hf 1
  have HF := hide hf
  clear hf
  have HG := hide (show ∀ j u, w.grownBy (w.setCell ⟨fb, j, none⟩ u) (some fb) from fun j u => ⟨rfl, rfl, rfl, by simp, fun k _ hk => heap_setCell_other w ⟨fb, j, none⟩ k u (fun e => hk (by simp [e]))⟩)
  have HPRE := hide (show ∀ r, s.data.toList = t.data.toList ++ r → ¬ s.size < t.size ∧ (s.extract 0 t.size).toList == t.toList by
    intro r hr
    have h1 : s.size = t.size + r.length := by rw [Lib.size_eq, hr, List.length_append, ← Lib.size_eq]
    refine ⟨by omega, ?_⟩
    rw [ByteArray.toList_eq, ByteArray.toList_eq, beq_iff_eq, extract_head, hr, List.take_left' (by rw [← Lib.size_eq])])
  have HNo := hide (show (∀ r, ok = true → s.data.toList = t.data.toList ++ r → False) → Skipped fb s t ok w (w.setCell ⟨fb, 1, none⟩ (.bool false)) from
    fun h => ⟨s, false, heap_setCell_same w fb 1 _ _ _ HF.out, Nat.le_refl _, by simp, fun r h1 h2 => (h r h1 h2).elim, HG.out _ _⟩)
  cases ok
  · have HP := hide (HNo.out (by simp))
    clear HNo
    go_enter Tryz.func13, Tryz.ntmps13
    go_wp2
    refine bodyPost_ret (results_none rfl _ _ _) rfl ?_
    exact ⟨rfl, HP.out⟩
  · by_cases hlt : s.size < t.size
    · have HP := hide (HNo.out (fun r _ hr => (HPRE.out r hr).1 hlt))
      clear HNo
      go_enter Tryz.func13, Tryz.ntmps13
      go_wp2
      refine bodyPost_ret (results_none rfl _ _ _) rfl ?_
      exact ⟨rfl, HP.out⟩
    · cases hb : ((s.extract 0 t.size).toList == t.toList)
      · have HP := hide (HNo.out (fun r _ hr => by have := (HPRE.out r hr).2; rw [hb] at this; cases this))
        clear HNo
        go_enter Tryz.func13, Tryz.ntmps13
        go_wp2
        refine bodyPost_ret (results_none rfl _ _ _) rfl ?_
        exact ⟨rfl, HP.out⟩
      · have hst : s.data.toList = t.data.toList ++ (s.extract t.size s.size).data.toList := by
          have hb' := hb
          rw [ByteArray.toList_eq, ByteArray.toList_eq, beq_iff_eq, extract_head] at hb'
          rw [extract_tail, ← hb', List.take_append_drop]
        have HP := hide (show Skipped fb s t true w (w.setCell ⟨fb, 0, none⟩ (.string (s.extract t.size s.size))) from
          ⟨s.extract t.size s.size, true, heap_setCell_same w fb 0 _ _ _ HF.out, by rw [ByteArray.size_extract]; omega, fun _ => ⟨rfl, hst⟩, fun r _ hr => ⟨rfl, by rw [hst] at hr; exact List.append_cancel_left hr⟩, HG.out _ _⟩)
        clear HNo hst
        go_enter Tryz.func13, Tryz.ntmps13
        go_wp2
        go_end0
        exact ⟨rfl, HP.out⟩

end Go.Proofs.YtnecjeambpikdaaGreatDoor
