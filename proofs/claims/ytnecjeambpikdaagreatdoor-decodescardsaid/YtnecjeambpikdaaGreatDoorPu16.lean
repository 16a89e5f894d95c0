import Derived.Test.YtnecjeambpikdaaGreatDoorPu10
namespace Go.Proofs.YtnecjeambpikdaaGreatDoor
open Go.RowKit

set_option maxHeartbeats 8000000 in
set_option maxRecDepth 100000 in
/-- internal/strconv.ParseUint(s, 16, 24), s not empty. -/
theorem pu16_walk (t : ByteArray) (hne : t.size ≠ 0) (hmax : t.size ≤ 1000000) (w : World) :
    Calls Tryz.prog 69 #[.string t, .int .i64 16, .int .i64 24] w fun e w' => ∃ (n kind : Nat), e = .returned (.tuple #[.int .u64 (n : Int), errOf kind]) ∧ kind ≤ 2 ∧ n ≤ 16777215 ∧
      (∀ m, m ≤ 16777215 → valB 16 0 t.data.toList = some m → kind = 0 ∧ n = m) ∧ Below w.heap.size w w' := by
  have hemp : t.toList.isEmpty = false := by
    rw [← decide_eq_emptyBytes]
    exact decide_eq_false (fun h => hne (by rw [h]; rfl))
  have hcv := Lib.run_convert_string_bytes (P := Tryz.prog) w 9 88 5 t (u := .string) Tryz.underlying9 Tryz.underlying88 Tryz.underlying5
  have hB : ∀ j, j < t.size → (Lib.bytesWorld w 5 t).cell? ⟨w.heap.size, j, none⟩ = some (.int .u8 (t.data.toList.getD j 0).toNat) := fun j hj => Lib.bytesWorld_cell w 5 t j hj
  have HBW := hide (Lib.bytesWorld_below w 5 t)
  obtain ⟨W1, hW1⟩ : ∃ W1, W1 = Lib.bytesWorld w 5 t := ⟨_, rfl⟩
  rw [← hW1] at hcv hB HBW
  clear hW1
  obtain ⟨bs, hL⟩ : ∃ bs, bs = t.data.toList := ⟨_, rfl⟩
  have hLn : bs.length = t.size := by rw [hL, Lib.size_eq]
  rw [← hL] at hB ⊢
  clear hL
  have hmv : IntKind.u64.wrap (IntKind.u64.wrap 16777216 - 1) = 16777215 := by
    rw [IntKind.wrap_u64, IntKind.wrap_u64]
    decide
  have HB := hide hB
  have HLn := hide hLn
  clear hB hLn
  go_enter Tryz.func69, Tryz.ntmps69
  go_wp2
  go_loop [12, 13, 101] (fun vu vn vi => ∃ (k acc : Nat) (a : Int), vu = .bool false ∧ vn = .int .u64 a ∧ vi = .int .i64 k ∧ k ≤ t.size ∧ Hid (a = (acc : Int) ∧ acc ≤ 16777215 ∧ ∀ m, m ≤ 16777215 → valB 16 0 bs = some m → valB 16 acc (bs.drop k) = some m))
    (fun _ _ vi => t.size - (intOf vi).toNat)
  case atStart => exact ⟨0, 0, 0, rfl, rfl, rfl, by omega, rfl, by omega, fun m _ h => h⟩
  case round =>
    obtain ⟨k, acc, a, rfl, rfl, rfl, hk, hh⟩ := hrel
    obtain ⟨ha, hacc, hdec⟩ := hh.out
    clear hh
    have a0 : 0 ≤ a := by omega
    have a1 : a ≤ 16777215 := by omega
    by_cases hkn : k < t.size
    · have hc := HB.out k hkn
      have hget : bs[k]? = some (bs.getD k 0) := getD_some _ _ _ (by have := HLn.out; omega)
      have HD := hide (drop_cons hget)
      generalize bs.getD k 0 = c at *
      have hc256 : c.toNat < 256 := c.toNat_lt
      have HDEC := hide hdec
      clear hget hdec
      by_cases hdig : 48 ≤ c.toNat ∧ c.toNat ≤ 57
      · obtain ⟨hd0, hd1⟩ := hdig
        have hdo : digOf c = some (c.toNat - 48) := by simp [digOf, hd0, hd1]
        have HF := hide (valB_cons (base := 16) (acc := acc) (r := bs.drop (k + 1)) hdo (by omega))
        clear hdo
        by_cases hov : 16777215 < acc * 16 + (c.toNat - 48)
        · have iov : 16777215 < a * 16 + ((c.toNat : Int) - 48) := by omega
          have HFin := hide (show ∀ m, m ≤ 16777215 → valB 16 0 bs = some m → False by
            intro m hm hv
            have h1 := HDEC.out m hm hv
            rw [HD.out, HF.out] at h1
            have := valB_ge 16 (by decide) _ _ _ h1
            omega)
          clear hacc hov ha
          go_wp2
          go_ret2
          exact ⟨16777215, 1, rfl, by omega, by omega, fun m hm hv => (HFin.out m hm hv).elim, HBW.out⟩
        · have HN : Hid (a * 16 + ((c.toNat : Int) - 48) = ((acc * 16 + (c.toNat - 48) : Nat) : Int) ∧ acc * 16 + (c.toNat - 48) ≤ 16777215 ∧ ∀ m, m ≤ 16777215 → valB 16 0 bs = some m → valB 16 (acc * 16 + (c.toNat - 48)) (bs.drop (k + 1)) = some m) := ⟨by omega, by omega, fun m hm hv => by have h1 := HDEC.out m hm hv; rw [HD.out, HF.out] at h1; exact h1⟩
          have iov : a * 16 + ((c.toNat : Int) - 48) ≤ 16777215 := by omega
          clear hacc hov ha
          go_wp2
          refine ⟨⟨k + 1, acc * 16 + (c.toNat - 48), a * 16 + ((c.toNat : Int) - 48), rfl, (by first | rfl | (congr 1; omega)), (by first | rfl | (congr 1; omega)), by omega, HN⟩, by simp [intOf]; omega⟩
      · obtain ⟨x, hx⟩ : ∃ x : Int, x = bits .or .u8 (c.toNat : Int) 32 := ⟨_, rfl⟩
        have hv0 : 0 ≤ x := by rw [hx]; exact bits_lo_u8 .or (c.toNat : Int) 32
        have hv1 : x ≤ 255 := by rw [hx]; exact bits_hi_u8 .or (c.toNat : Int) 32
        have HXL := hide (show 97 ≤ c.toNat → c.toNat ≤ 122 → x = c.toNat from fun h1 h2 => by rw [hx]; exact or32 c.toNat h1 h2)
        have h95 : c.toNat = 95 → x = 127 := fun h => by rw [hx, h]; decide
        have hlow : ∀ w', Calls Tryz.prog 85 #[.int .u8 (c.toNat : Int)] w' fun e w'' => e = .returned (.int .u8 x) ∧ w'' = w' := fun w' => by rw [hx]; exact lower_any _ _
        have HLOW := hide hlow
        have H95 := hide h95
        clear hlow h95 hx
        by_cases hal : 97 ≤ x ∧ x ≤ 102
        · obtain ⟨hx0, hx1⟩ := hal
          have hn95 : ¬ c.toNat = 95 := fun h => by have := H95.out h; omega
          have hb95 : ((c.toNat : Int) == 95) = false := by rw [beq_eq_false_iff_ne]; omega
          have hnd : ¬ (48 ≤ (c.toNat : Int) ∧ (c.toNat : Int) ≤ 57) := by omega
          have HF := hide (show ∀ m, m ≤ 16777215 → valB 16 0 bs = some m → valB 16 (acc * 16 + (x.toNat - 87)) (bs.drop (k + 1)) = some m by
            intro m hm hv
            have h1 := HDEC.out m hm hv
            rw [HD.out] at h1
            by_cases hl : 97 ≤ c.toNat ∧ c.toNat ≤ 102
            · have hxc := HXL.out hl.1 (by omega)
              rw [valB_cons (d := c.toNat - 87) (by unfold digOf; rw [if_neg hdig, if_pos hl]) (by omega)] at h1
              have : x.toNat - 87 = c.toNat - 87 := by omega
              rw [this]; exact h1
            · rw [valB_none (fun d hd => by unfold digOf at hd; rw [if_neg hdig, if_neg hl] at hd; cases hd)] at h1
              cases h1)
          by_cases hov : 16777215 < acc * 16 + (x.toNat - 87)
          · have iov : 16777215 < a * 16 + (x - 97 + 10) := by omega
            have HFin := hide (show ∀ m, m ≤ 16777215 → valB 16 0 bs = some m → False by
              intro m hm hv
              have := valB_ge 16 (by decide) _ _ _ (HF.out m hm hv)
              omega)
            clear hacc hov ha
            by_cases hq : 48 ≤ (c.toNat : Int)
            · have hq2 : ¬ (c.toNat : Int) ≤ 57 := by omega
              go_wp2_with (go_at_call 85; refine (HLOW.out _).mono ?_; rintro e w' ⟨rfl, rfl⟩)
              go_ret2
              exact ⟨16777215, 1, rfl, by omega, by omega, fun m hm hv => (HFin.out m hm hv).elim, HBW.out⟩
            · go_wp2_with (go_at_call 85; refine (HLOW.out _).mono ?_; rintro e w' ⟨rfl, rfl⟩)
              go_ret2
              exact ⟨16777215, 1, rfl, by omega, by omega, fun m hm hv => (HFin.out m hm hv).elim, HBW.out⟩
          · have HN : Hid (a * 16 + (x - 97 + 10) = ((acc * 16 + (x.toNat - 87) : Nat) : Int) ∧ acc * 16 + (x.toNat - 87) ≤ 16777215 ∧ ∀ m, m ≤ 16777215 → valB 16 0 bs = some m → valB 16 (acc * 16 + (x.toNat - 87)) (bs.drop (k + 1)) = some m) := ⟨by omega, by omega, HF.out⟩
            have iov : a * 16 + (x - 97 + 10) ≤ 16777215 := by omega
            clear hacc hov ha
            by_cases hq : 48 ≤ (c.toNat : Int)
            · have hq2 : ¬ (c.toNat : Int) ≤ 57 := by omega
              go_wp2_with (go_at_call 85; refine (HLOW.out _).mono ?_; rintro e w' ⟨rfl, rfl⟩)
              refine ⟨⟨k + 1, acc * 16 + (x.toNat - 87), a * 16 + (x - 97 + 10), rfl, (by first | rfl | (congr 1; omega)), (by first | rfl | (congr 1; omega)), by omega, HN⟩, by simp [intOf]; omega⟩
            · go_wp2_with (go_at_call 85; refine (HLOW.out _).mono ?_; rintro e w' ⟨rfl, rfl⟩)
              refine ⟨⟨k + 1, acc * 16 + (x.toNat - 87), a * 16 + (x - 97 + 10), rfl, (by first | rfl | (congr 1; omega)), (by first | rfl | (congr 1; omega)), by omega, HN⟩, by simp [intOf]; omega⟩
        · have HFin := hide (show ∀ m, m ≤ 16777215 → valB 16 0 bs = some m → False by
            intro m hm hv
            have h1 := HDEC.out m hm hv
            rw [HD.out, valB_none (fun d hd => by
              unfold digOf at hd
              rw [if_neg hdig] at hd
              split at hd
              · rename_i hl
                have := HXL.out hl.1 (by omega)
                omega
              · cases hd)] at h1
            cases h1)
          clear hacc ha
          have hu95 : bits .or .u8 95 32 = 127 := by decide
          go_wp2_with (first | (go_at_call_of 85 (c.toNat); refine (HLOW.out _).mono ?_; rintro e w' ⟨rfl, rfl⟩) | (go_at_call 85; refine (lower_any _ _).mono ?_; rintro e w' ⟨rfl, rfl⟩))
          all_goals go_ret2
          all_goals exact ⟨0, 2, rfl, by omega, by omega, fun m hm hv => (HFin.out m hm hv).elim, HBW.out⟩
    · have hkk : k = t.size := by omega
      subst hkk
      have HFin := hide (show ∀ m, m ≤ 16777215 → valB 16 0 bs = some m → acc = m by
        intro m hm hv
        have h1 := hdec m hm hv
        rw [List.drop_eq_nil_of_le (by have := HLn.out; omega), valB] at h1
        injection h1)
      have HA := hide hacc
      subst ha
      clear hacc a0 a1 hdec
      go_wp2
      go_ret2
      exact ⟨acc, 0, rfl, by omega, HA.out, fun m hm hv => ⟨rfl, HFin.out m hm hv⟩, HBW.out⟩

end Go.Proofs.YtnecjeambpikdaaGreatDoor
