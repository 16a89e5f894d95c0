import Derived.Test.YtnecjeambpikdaaGreatDoorProg
import Derived.Test.YtnecjeambpikdaaGreatDoorMem
import Derived.Test.YtnecjeambpikdaaGreatDoorDigits
import Derived.Lib.Strings
import Derived.Lib.Walk
import Derived.Lib.ConvBytes
import Derived.Lib.AtoiErrMem
import Derived.Lib.Hide
namespace Go.Proofs.YtnecjeambpikdaaGreatDoor
open Go.RowKit

/-- An error of internal/strconv by its number; 0: none. -/
def errOf : Nat → Value
  | 0 => .nilIface
  | k + 1 => .iface 142 (.int .i64 ((k + 1 : Nat) : Int))

theorem or32_all : ∀ c : Fin 256, 97 ≤ c.val → c.val ≤ 122 → bits .or .u8 (c.val : Int) 32 = (c.val : Int) := by decide +kernel
theorem or32 (c : Nat) (h1 : 97 ≤ c) (h2 : c ≤ 122) : bits .or .u8 (c : Int) 32 = (c : Int) := or32_all ⟨c, by omega⟩ h1 h2

theorem lower_any (c : Int) (w : World) : Calls Tryz.prog 85 #[.int .u8 c] w fun e w' => e = .returned (.int .u8 (bits .or .u8 c 32)) ∧ w' = w := by
  go_enter Tryz.func85, Tryz.ntmps85
  go_wp2
  go_ret
  exact ⟨rfl, rfl⟩

set_option maxHeartbeats 8000000 in
set_option maxRecDepth 100000 in
/-- internal/strconv.ParseUint(s, 10, 24), s not empty. -/
theorem pu10_walk (t : ByteArray) (hne : t.size ≠ 0) (hmax : t.size ≤ 1000000) (w : World) :
    Calls Tryz.prog 69 #[.string t, .int .i64 10, .int .i64 24] w fun e w' => ∃ (n kind : Nat), e = .returned (.tuple #[.int .u64 (n : Int), errOf kind]) ∧ kind ≤ 2 ∧ n ≤ 16777215 ∧
      (∀ m, m ≤ 16777215 → valB 10 0 t.data.toList = some m → kind = 0 ∧ n = m) ∧ Below w.heap.size w w' := by
  have hemp : t.toList.isEmpty = false := by
    rw [← decide_eq_emptyBytes]
    exact decide_eq_false (fun h => hne (by rw [h]; rfl))
  have hcv := Lib.run_convert_string_bytes (P := Tryz.prog) w 9 88 5 t (u := .string) Tryz.underlying9 Tryz.underlying88 Tryz.underlying5
  have hB : ∀ j, j < t.size → (Lib.bytesWorld w 5 t).cell? ⟨w.heap.size, j, none⟩ = some (.int .u8 (t.data.toList.getD j 0).toNat) := fun j hj => Lib.bytesWorld_cell w 5 t j hj
  have HBW := hide (Lib.bytesWorld_below w 5 t)
  obtain ⟨W1, hW1⟩ : ∃ W1, W1 = Lib.bytesWorld w 5 t := ⟨_, rfl⟩
  rw [← hW1] at hcv hB HBW
  clear hW1
  obtain ⟨bs, hL⟩ : ∃ bs, bs = t.data.toList := ⟨_, rfl⟩
  have hLn : bs.length = t.size := by rw [hL, Lib.size_eq]
  rw [← hL] at hB ⊢
  clear hL
  have hmv : IntKind.u64.wrap (IntKind.u64.wrap 16777216 - 1) = 16777215 := by
    rw [IntKind.wrap_u64, IntKind.wrap_u64]
    decide
  have HB := hide hB
  have HLn := hide hLn
  clear hB hLn
  go_enter Tryz.func69, Tryz.ntmps69
  go_wp2
  go_loop [12, 13, 101] (fun vu vn vi => ∃ (k acc : Nat) (a : Int), vu = .bool false ∧ vn = .int .u64 a ∧ vi = .int .i64 k ∧ k ≤ t.size ∧ Hid (a = (acc : Int) ∧ acc ≤ 16777215 ∧ ∀ m, m ≤ 16777215 → valB 10 0 bs = some m → valB 10 acc (bs.drop k) = some m))
    (fun _ _ vi => t.size - (intOf vi).toNat)
  case atStart => exact ⟨0, 0, 0, rfl, rfl, rfl, by omega, rfl, by omega, fun m _ h => h⟩
  case round =>
    obtain ⟨k, acc, a, rfl, rfl, rfl, hk, hh⟩ := hrel
    obtain ⟨ha, hacc, hdec⟩ := hh.out
    clear hh
    have a0 : 0 ≤ a := by omega
    have a1 : a ≤ 16777215 := by omega
    by_cases hkn : k < t.size
    · have hc := HB.out k hkn
      have hget : bs[k]? = some (bs.getD k 0) := getD_some _ _ _ (by have := HLn.out; omega)
      have HD := hide (drop_cons hget)
      generalize bs.getD k 0 = c at *
      have hc256 : c.toNat < 256 := c.toNat_lt
      have HDEC := hide hdec
      clear hget hdec
      by_cases hdig : 48 ≤ c.toNat ∧ c.toNat ≤ 57
      · obtain ⟨hd0, hd1⟩ := hdig
        have hdo : digOf c = some (c.toNat - 48) := by simp [digOf, hd0, hd1]
        have HF := hide (valB_cons (base := 10) (acc := acc) (r := bs.drop (k + 1)) hdo (by omega))
        clear hdo
        by_cases hov : 16777215 < acc * 10 + (c.toNat - 48)
        · have iov : 16777215 < a * 10 + ((c.toNat : Int) - 48) := by omega
          have HFin := hide (show ∀ m, m ≤ 16777215 → valB 10 0 bs = some m → False by
            intro m hm hv
            have h1 := HDEC.out m hm hv
            rw [HD.out, HF.out] at h1
            have := valB_ge 10 (by decide) _ _ _ h1
            omega)
          clear hacc hov ha
          go_wp2
          go_ret2
          exact ⟨16777215, 1, rfl, by omega, by omega, fun m hm hv => (HFin.out m hm hv).elim, HBW.out⟩
        · have HN : Hid (a * 10 + ((c.toNat : Int) - 48) = ((acc * 10 + (c.toNat - 48) : Nat) : Int) ∧ acc * 10 + (c.toNat - 48) ≤ 16777215 ∧ ∀ m, m ≤ 16777215 → valB 10 0 bs = some m → valB 10 (acc * 10 + (c.toNat - 48)) (bs.drop (k + 1)) = some m) := ⟨by omega, by omega, fun m hm hv => by have h1 := HDEC.out m hm hv; rw [HD.out, HF.out] at h1; exact h1⟩
          have iov : a * 10 + ((c.toNat : Int) - 48) ≤ 16777215 := by omega
          clear hacc hov ha
          go_wp2
          refine ⟨⟨k + 1, acc * 10 + (c.toNat - 48), a * 10 + ((c.toNat : Int) - 48), rfl, (by first | rfl | (congr 1; omega)), (by first | rfl | (congr 1; omega)), by omega, HN⟩, by simp [intOf]; omega⟩
      · have HFin := hide (show ∀ m, m ≤ 16777215 → valB 10 0 bs = some m → False by
          intro m hm hv
          have h1 := HDEC.out m hm hv
          rw [HD.out, valB_none (fun d hd => by unfold digOf at hd; rw [if_neg hdig] at hd; split at hd <;> simp at hd; omega)] at h1
          cases h1)
        clear hacc ha
        have hv0 := bits_lo_u8 .or (c.toNat : Int) 32
        have hv1 := bits_hi_u8 .or (c.toNat : Int) 32
        have hu0 := bits_lo_u8 .or 95 32
        have hu1 := bits_hi_u8 .or 95 32
        go_wp2_with (go_at_call 85; refine (lower_any _ _).mono ?_; rintro e w' ⟨rfl, rfl⟩)
        all_goals go_ret2
        all_goals exact ⟨0, 2, rfl, by omega, by omega, fun m hm hv => (HFin.out m hm hv).elim, HBW.out⟩
    · have hkk : k = t.size := by omega
      subst hkk
      have HFin := hide (show ∀ m, m ≤ 16777215 → valB 10 0 bs = some m → acc = m by
        intro m hm hv
        have h1 := hdec m hm hv
        rw [List.drop_eq_nil_of_le (by have := HLn.out; omega), valB] at h1
        injection h1)
      have HA := hide hacc
      subst ha
      clear hacc a0 a1 hdec
      go_wp2
      go_ret2
      exact ⟨acc, 0, rfl, by omega, HA.out, fun m hm hv => ⟨rfl, HFin.out m hm hv⟩, HBW.out⟩

end Go.Proofs.YtnecjeambpikdaaGreatDoor
