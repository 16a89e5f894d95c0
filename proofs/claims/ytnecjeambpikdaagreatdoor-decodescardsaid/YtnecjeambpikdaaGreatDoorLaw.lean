/-
  The program's entry points, and the statement's own function: over every script it answers true. Own work.
-/
import Derived.Test.YtnecjeambpikdaaGreatDoorProg
import Derived.Test.YtnecjeambpikdaaGreatDoorMem
import Derived.Test.YtnecjeambpikdaaGreatDoorReadU
import Derived.Test.YtnecjeambpikdaaGreatDoorDecW
import Derived.Test.YtnecjeambpikdaaGreatDoorBrkA
import Derived.Test.YtnecjeambpikdaaGreatDoorBrkB
import Derived.Deep.LoopGhost
import Derived.Deep.RegionHeld3
namespace Go.Proofs.YtnecjeambpikdaaGreatDoor
open Go.RowKit

set_option maxHeartbeats 400000 in
theorem num_any (n : Int) (w : World) : Calls Tryz.prog 6 #[.int .i64 n] w fun e w' => e = .returned (.int .i64 n) ∧ w' = w := by
  go_enter Tryz.func6, Tryz.ntmps6
  go_wp2
  go_ret
  exact ⟨rfl, rfl⟩

set_option maxHeartbeats 400000 in
theorem same_ne (a1 a2 : Option Addr) (n m c1 c2 : Nat) (w : World) (h : n ≠ m) :
    Calls Tryz.prog 9 #[.slice a1 n c1, .slice a2 m c2] w fun e w' => e = .returned (.bool false) ∧ w' = w := by
  have hb : ((n : Int) != (m : Int)) = true := by rw [bne_iff_ne]; omega
  go_enter Tryz.func9, Tryz.ntmps9
  go_wp2
  go_ret
  exact ⟨rfl, rfl⟩

set_option maxHeartbeats 400000 in
theorem same_nil (a1 a2 : Option Addr) (c1 c2 : Nat) (w : World) :
    Calls Tryz.prog 9 #[.slice a1 0 c1, .slice a2 0 c2] w fun e w' => e = .returned (.bool true) ∧ w' = w := by
  go_enter Tryz.func9, Tryz.ntmps9
  go_wp2
  refine wp_loop_rounds 1 ?_
  rw [rounds_succ]
  go_wp2
  go_ret
  exact ⟨rfl, rfl⟩

set_option maxHeartbeats 400000 in
theorem same_eq (b1 b2 n c1 c2 : Nat) (l1 l2 : List Nat) (w : World) (h1 : l1.length = n) (h2 : l2.length = n) (hn : n ≤ 1000000)
    (hc1 : ∀ i (x : Nat), l1[i]? = some x → w.cell? ⟨b1, i, none⟩ = some (.int .i64 x)) (hc2 : ∀ i (x : Nat), l2[i]? = some x → w.cell? ⟨b2, i, none⟩ = some (.int .i64 x)) :
    Calls Tryz.prog 9 #[.slice (some ⟨b1, 0, none⟩) n c1, .slice (some ⟨b2, 0, none⟩) n c2] w fun e w' => e = .returned (.bool (l1 == l2)) ∧ ∃ k, w' = w.drewN k := by
  have hb : ((n : Int) != (n : Int)) = false := by simp
  have H1 : Hid (l1.length = n) := h1
  have H2 : Hid (l2.length = n) := h2
  have HC1 : Hid (∀ i (x : Nat), l1[i]? = some x → w.cell? ⟨b1, i, none⟩ = some (.int .i64 x)) := hc1
  have HC2 : Hid (∀ i (x : Nat), l2[i]? = some x → w.cell? ⟨b2, i, none⟩ = some (.int .i64 x)) := hc2
  clear h1 h2 hc1 hc2
  go_enter Tryz.func9, Tryz.ntmps9
  go_wp2
  go_loopw [5] (fun i wr => ∃ k q : Nat, k ≤ n ∧ i = .int .i64 k ∧ l1.take k = l2.take k ∧ wr = w.drewN q) (fun i _ => n - (intOf i).toNat)
  case atStart => exact ⟨0, 0, Nat.zero_le _, rfl, by simp, rfl⟩
  case round =>
    obtain ⟨k, q, hk, rfl, htk, rfl⟩ := hrel
    have HT : Hid (l1.take k = l2.take k) := htk
    clear htk
    by_cases hlt : k < n
    · have e1 : l1[k]? = some (l1.getD k 0) := getD_some _ _ _ (by have := H1.out; omega)
      have e2 : l2[k]? = some (l2.getD k 0) := getD_some _ _ _ (by have := H2.out; omega)
      have g1 := HC1.out k _ e1
      have g2 := HC2.out k _ e2
      have E1 : Hid (l1[k]? = some (l1.getD k 0)) := e1
      have E2 : Hid (l2[k]? = some (l2.getD k 0)) := e2
      clear e1 e2
      generalize l1.getD k 0 = x1 at *
      generalize l2.getD k 0 = x2 at *
      go_wp2
      go_quiet (fail)
      go_wp2
      · have hx : ((x1 : Int) != (x2 : Int)) = true := by assumption
        go_ret
        refine ⟨ret_bool ?_, ⟨_, World.drewN_drewN _ _ _⟩⟩
        have hne : l1 ≠ l2 := fun h => by rw [h] at E1; have h3 := E1.out.symm.trans E2.out; simp at h3; simp [h3] at hx
        simp [hne]
      · have hx : ((x1 : Int) != (x2 : Int)) = false := by assumption
        have h3 : (x1 : Int) = x2 := by simpa using hx
        have hxx : x1 = x2 := by omega
        go_roundw
        case rel => exact ⟨k + 1, _, by omega, by go_num, by rw [List.take_add_one, List.take_add_one, HT.out, E1.out, E2.out, hxx], rfl⟩
        case measure => simp [intOf]; omega
    · go_wp2
      go_ret
      refine ⟨ret_bool ?_, _, rfl⟩
      have := HT.out
      rw [List.take_of_length_le (by have := H1.out; omega), List.take_of_length_le (by have := H2.out; omega)] at this
      simp [this]

/-- cleavelaw.same: of two rows of numbers: whether they are one. -/
theorem same_any {base1 base2 : Nat} {v1 v2 : Value} (l1 l2 : List Nat) (w : World) (h1 : w.ownsRow base1 3 1 v1 l1.length (ints l1)) (h2 : w.ownsRow base2 3 1 v2 l2.length (ints l2)) (hn : l1.length ≤ 1000000) :
    Calls Tryz.prog 9 #[v1, v2] w fun e w' => e = .returned (.bool (l1 == l2)) ∧ Below w.heap.size w w' := by
  by_cases hne : l1.length = l2.length
  · by_cases h0 : l1.length = 0
    · obtain ⟨a1, c1, rfl, _⟩ := own_shape h1
      obtain ⟨a2, c2, rfl, _⟩ := own_shape h2
      have e1 : l1 = [] := List.length_eq_zero_iff.1 h0
      have e2 : l2 = [] := List.length_eq_zero_iff.1 (by omega)
      subst e1 e2
      exact (same_nil a1 a2 c1 c2 w).mono fun e w' h => ⟨h.1, h.2 ▸ Below.refl _ _⟩
    · obtain ⟨g1, c1, rfl, _, _, _, _, f1, _⟩ := own_head h1 (by omega)
      obtain ⟨g2, c2, rfl, _, _, _, _, f2, _⟩ := own_head h2 (by omega)
      rw [← hne]
      refine (same_eq g1 g2 l1.length c1 c2 l1 l2 w rfl hne.symm hn (fun i x hx => f1 i _ (ints_get _ _ _ hx)) (fun i x hx => f2 i _ (ints_get _ _ _ hx))).mono fun e w' h => ⟨h.1, ?_⟩
      obtain ⟨k, rfl⟩ := h.2
      exact below_drewN (Below.refl _ _) k
  · obtain ⟨a1, c1, rfl, _⟩ := own_shape h1
    obtain ⟨a2, c2, rfl, _⟩ := own_shape h2
    refine (same_ne a1 a2 _ _ c1 c2 w hne).mono fun e w' h => ⟨?_, h.2 ▸ Below.refl _ _⟩
    have hl : l1 ≠ l2 := fun h => hne (by rw [h])
    rw [h.1]; simp [hl]

end Go.Proofs.YtnecjeambpikdaaGreatDoor
namespace Go.Proofs.YtnecjeambpikdaaGreatDoor
open Go.RowKit

/-- What Decode comes to. -/
def Dec4 (s : ByteArray) (w : World) (e : Ending) (w' : World) : Prop := Below w.heap.size w w' ∧
  ((20000 < s.size ∧ e = .returned (.tuple #[.pointer none, .int .i64 1])) ∨ (s.size ≤ 20000 ∧ (∀ T, Valid T → s.data.toList ≠ enc T) ∧ e = .returned (.tuple #[.pointer none, .int .i64 8])) ∨
  (s.size ≤ 20000 ∧ ∃ tb T, e = .returned (.tuple #[.pointer (some ⟨tb, 0, none⟩), .int .i64 0]) ∧ Valid T ∧ s.data.toList = enc T ∧ TabAt w' w.heap.size tb T))

set_option maxHeartbeats 2000000 in
theorem decodeA_walk (s : ByteArray) (w : World) (hE : Env w) : Calls Tryz.prog 4 #[.string s] w fun e w' => Dec4 s w e w' := by
  by_cases hs : 20000 < s.size
  · go_enter Tryz.func4, Tryz.ntmps4
    go_wp2
    go_ret2
    exact ⟨Below.refl _ _, .inl ⟨hs, rfl⟩⟩
  · have hs' : s.size ≤ 20000 := by omega
    go_enter Tryz.func4, Tryz.ntmps4
    go_wp2_with fail
    refine (read_walk s hs' w hE).mono ?_
    rintro e w1 ⟨hb, h⟩
    rcases h with ⟨rfl, hno⟩ | ⟨tb, T, rfl, hv, he, ht⟩
    · have HNo := hide hno
      have HB := hide hb
      clear hno hb
      go_wp2
      go_ret2
      exact ⟨HB.out, .inr (.inl ⟨hs', HNo.out, rfl⟩)⟩
    · have HX := hide (And.intro hv (And.intro he ht))
      have HB := hide hb
      clear hv he ht hb
      go_wp2
      go_ret2
      exact ⟨HB.out, .inr (.inr ⟨hs', tb, T, rfl, HX.out.1, HX.out.2.1, HX.out.2.2⟩)⟩

set_option maxHeartbeats 2000000 in
theorem encodeA_walk (T : Tbl) (hT : Bd T) (base tb : Nat) (w : World) (hE : Env w) (hA : TabAt w base tb T) :
    Calls Tryz.prog 10 #[.pointer (some ⟨tb, 0, none⟩)] w fun e w' => e = .returned (.string ⟨(enc T).toArray⟩) ∧ Below w.heap.size w w' := by
  have H := hide (written_walk T hT base tb w hE hA)
  clear hE hA
  go_enter Tryz.func10, Tryz.ntmps10
  go_wp2_with fail
  refine H.out.mono ?_
  rintro e w1 ⟨rfl, hb⟩
  have HB := hide hb
  clear hb
  go_wp2
  go_ret
  exact ⟨rfl, HB.out⟩

set_option maxHeartbeats 2000000 in
theorem statesA_walk (T : Tbl) (base tb : Nat) (w : World) (hA : TabAt w base tb T) :
    Calls Tryz.prog 11 #[.pointer (some ⟨tb, 0, none⟩)] w fun e w' => e = .returned (.int .i64 (T.states.length : Int)) ∧ w' = w := by
  obtain ⟨vc, vs, h1, h2, h3⟩ := hA
  obtain ⟨ao, cap, rfl, _, _⟩ := h3.shape
  have q1 := row_cell h1 (j := 1) rfl
  clear h1 h2 h3
  go_enter Tryz.func11, Tryz.ntmps11
  go_wp2
  go_ret
  exact ⟨rfl, rfl⟩

end Go.Proofs.YtnecjeambpikdaaGreatDoor
namespace Go.Proofs.YtnecjeambpikdaaGreatDoor
open Go.RowKit

/-- What the last test of a round reads and calls on. -/
def SL (w : World) (baseA tbA baseB tbB : Nat) (T : Tbl) (w' : World) : Prop :=
  Env w' ∧ Below w.heap.size w w' ∧ TabAt w' baseA tbA T ∧ RTab w' baseB tbB T.classes T.states
theorem SL.below {w : World} {baseA tbA baseB tbB : Nat} {T : Tbl} {w' w'' : World} (h : SL w baseA tbA baseB tbB T w') (hb : Below w'.heap.size w' w'') : SL w baseA tbA baseB tbB T w'' :=
  ⟨h.1.below hb, below_trans' h.2.1 hb h.2.1.size, h.2.2.1.below hb, h.2.2.2.below hb⟩

set_option maxHeartbeats 8000000 in
set_option maxRecDepth 100000 in
theorem law_none (ao : Option Addr) (cap : Nat) (w : World) : Calls Tryz.prog 3 #[.slice ao 0 cap] w fun e w' => e = .returned (.bool true) ∧ Below w.heap.size w w' := by
  go_enter Tryz.func3, Tryz.ntmps3
  go_wp2_with fail
  go_loopg [3] 0 (fun _ iv wr => iv = .int .i64 0 ∧ wr = w)
  case atStart => exact ⟨rfl, rfl⟩
  case round =>
    obtain ⟨rfl, rfl⟩ := hrel
    go_wp2
    go_ret
    exact ⟨rfl, Below.refl _ _⟩

set_option maxHeartbeats 16000000 in
set_option maxRecDepth 100000 in
theorem law_walk (b o len cap : Nat) (S T : Nat → ByteArray) (w : World) (hE : Env w) (hc : ∀ i, i < len → w.cell? ⟨b, o + i * 2, none⟩ = some (.string (S i)) ∧ w.cell? ⟨b, o + i * 2 + 1, none⟩ = some (.string (T i))) :
    Calls Tryz.prog 3 #[.slice (some ⟨b, o, none⟩) len cap] w fun e w' => e = .returned (.bool true) ∧ Below w.heap.size w w' := by
  have HEnv := hide hE
  have HC := hide hc
  clear hE hc
  go_enter Tryz.func3, Tryz.ntmps3
  go_wp2_with fail
  go_loopg [3] len (fun g iv wr => ∃ i : Nat, iv = .int .i64 (i : Int) ∧ g = len - i ∧ i ≤ len ∧ Below w.heap.size w wr)
  case atStart => exact ⟨0, rfl, rfl, Nat.zero_le _, Below.refl _ _⟩
  case round =>
    obtain ⟨i, rfl, rfl, hil, hb⟩ := hrel
    obtain ⟨w0, rfl⟩ : ∃ x, x = wr := ⟨_, rfl⟩
    have HB := hide hb
    clear hb
    by_cases hlt : i < len
    case neg =>
      go_wp2
      go_ret
      exact ⟨rfl, HB.out⟩
    by_cases h60 : i < 1152921504606846976
    case neg =>
      have d60 : decide ((i : Int) < 1152921504606846976) = false := decide_eq_false (by omega)
      clear h60
      go_wp2
      go_ret
      exact ⟨rfl, HB.out⟩
    have d60 : decide ((i : Int) < 1152921504606846976) = true := decide_eq_true (by omega)
    have hw1 : IntKind.i64.wrap ((i : Int) + 1) = (i : Int) + 1 := by rw [IntKind.wrap_i64]; omega
    clear h60
    obtain ⟨hS0, hT0⟩ := HC.out i hlt
    have HS0 := hide hS0
    have HT0 := hide hT0
    have c0 := cell_later HB.out hT0
    clear hS0 hT0
    generalize S i = s at *
    generalize T i = t at *
    go_wp2_with fail
    refine (decodeA_walk t w0 (HEnv.out.below HB.out)).mono ?_
    rintro e w1 ⟨hb1, hA⟩
    have HB1 := hide (below_trans' HB.out hb1 HB.out.size)
    have HBx := hide hb1
    have HA := hide hA
    clear hb1 hA c0
    have c1 := cell_later HB1.out HT0.out
    have HEnd := hide (show ∀ w', Below w.heap.size w w' → ∃ j : Nat, Value.int .i64 ((i : Int) + 1) = .int .i64 (j : Int) ∧ len - (i + 1) = len - j ∧ j ≤ len ∧ Below w.heap.size w w' from fun w' h => ⟨i + 1, by push_cast; rfl, rfl, by omega, h⟩)
    obtain ⟨ea, hea⟩ : ∃ x, x = e := ⟨_, rfl⟩
    subst hea
    rcases HA.out with ⟨hz, rfl⟩ | ⟨hz, hno, rfl⟩ | ⟨hz, tbA, TA, rfl, hVA, hEA, hTA⟩
    · clear HA
      go_wp2_with fail
      refine (decodeB_walk t w1 (HEnv.out.below HB1.out)).mono ?_
      rintro e w2 ⟨hb2, hB⟩
      have HB2 := hide (below_trans' HB1.out hb2 HB1.out.size)
      rcases hB with ⟨_, rfl⟩ | ⟨hz2, _⟩ | ⟨hz2, _⟩
      · clear hb2
        go_wp2_with fail
        refine (num_any _ _).mono ?_
        rintro e w2' ⟨rfl, hw2⟩
        subst hw2
        go_wp2_with fail
        go_roundg (len - (i + 1))
        case measure => omega
        case rel => exact HEnd.out _ HB2.out
      · omega
      · omega
    · have HNo := hide hno
      clear HA hno
      go_wp2_with fail
      refine (decodeB_walk t w1 (HEnv.out.below HB1.out)).mono ?_
      rintro e w2 ⟨hb2, hB⟩
      have HB2 := hide (below_trans' HB1.out hb2 HB1.out.size)
      rcases hB with ⟨hz2, _⟩ | ⟨_, _, rfl⟩ | ⟨_, tb2, T2, _, hV2, hE2, _⟩
      · omega
      · clear hb2
        go_wp2_with fail
        refine (num_any _ _).mono ?_
        rintro e w2' ⟨rfl, hw2⟩
        subst hw2
        go_wp2_with fail
        go_roundg (len - (i + 1))
        case measure => omega
        case rel => exact HEnd.out _ HB2.out
      · exact (HNo.out T2 hV2 hE2).elim
    · have HVA := hide hVA
      have HEA := hide hEA
      have HTA := hide hTA
      clear HA hVA hEA hTA
      go_wp2_with fail
      refine (decodeB_walk t w1 (HEnv.out.below HB1.out)).mono ?_
      rintro e w2 ⟨hb2, hB⟩
      have HB2 := hide (below_trans' HB1.out hb2 HB1.out.size)
      rcases hB with ⟨hz2, _⟩ | ⟨_, hno2, _⟩ | ⟨_, tbB, T2, rfl, hV2, hE2, hT2⟩
      · omega
      · exact (hno2 TA HVA.out HEA.out).elim
      obtain rfl : T2 = TA := enc_inj hV2.1 HVA.out.1 (by rw [← hE2, HEA.out])
      have HSL := hide (show SL w w0.heap.size tbA w1.heap.size tbB T2 w2 from ⟨HEnv.out.below HB2.out, HB2.out, HTA.out.below hb2, hT2⟩)
      clear hb2 hV2 hE2 hT2 HBx HTA
      have c2 := cell_later HB2.out HS0.out
      go_wp2_with fail
      refine (num_any _ _).mono ?_
      rintro e w2' ⟨rfl, hw2⟩
      subst hw2
      go_wp2_with fail
      refine (breaksA_walk T2 HVA.out.1 w0.heap.size tbA s w2' HSL.out.2.2.1).mono ?_
      rintro e w3 ⟨v1, F, rfl, hF, hFl, hown1, hb3⟩
      have HSL3 := hide (HSL.out.below hb3)
      have c3 := cell_later HSL3.out.2.1 HS0.out
      have HO1 := hide hown1
      have HF := hide hF
      clear hown1 hb3 hF c2 HSL
      obtain ⟨ge, hge⟩ : ∃ g : Int, g = (if 200 < s.size then 1 else 0) := ⟨_, rfl⟩
      rw [← hge]
      have HGe := hide hge
      clear hge
      go_wp2_with fail
      refine (breaksB_walk T2 HVA.out.1 w1.heap.size tbB s w3 HSL3.out.2.2.2).mono ?_
      rintro e w4 ⟨v2, F2, rfl, hF2, hFl2, hown2, hb4⟩
      obtain rfl : F2 = F := by rw [hF2, HF.out]
      rw [← HGe.out]
      have HSL4 := hide (HSL3.out.below hb4)
      have HO1' := hide (own_below HO1.out hb4 (Nat.le_refl _))
      have HO2 := hide hown2
      clear hown2 hb4 hF2 c3 HSL3 HO1 HF hFl2
      go_wp2_with fail
      refine (same_any F2 F2 w4 HO1'.out HO2.out (by omega)).mono ?_
      rintro e w5 ⟨rfl, hb5⟩
      have HSL5 := hide (HSL4.out.below hb5)
      rw [show (F2 == F2) = true by simp]
      clear hb5 HSL4 HO1' HO2 hFl
      have u0 := cell_later HSL5.out.2.1 HT0.out
      obtain ⟨vc, gt, gx, capt, capx, _, y1, _, _⟩ := HSL5.out.2.2.2.open_ HVA.out.1.pos
      have HEn := hide (show t = ⟨(enc T2).toArray⟩ from ByteArray.ext (by rw [← Array.toList_inj, HEA.out]))
      go_wp2_with fail
      have HKeep := hide (show ∀ w', SL w w0.heap.size tbA w1.heap.size tbB T2 w' → Below w5.heap.size w5 w' → w'.cell? ⟨b, o + i * 2 + 1, none⟩ = some (.string t) ∧ w'.cell? ⟨tbB, 1, none⟩ = some (.slice (some ⟨gt, 0, none⟩) T2.states.length capt) ∧ SL w w0.heap.size tbA w1.heap.size tbB T2 w' ∧ Below w5.heap.size w5 w' from fun w' h hb => ⟨cell_later h.2.1 HT0.out, cell_later hb y1, h, hb⟩)
      obtain ⟨N, hN⟩ : ∃ N, N = T2.states.length := ⟨_, rfl⟩
      rw [← hN] at HKeep y1
      have HN := hide hN
      clear hN
      have hN2 : N ≤ 256 := by have := HVA.out.1.sts; rw [HN.out]; exact this
      have C6 := hide (show ∀ w', (w'.cell? ⟨b, o + i * 2 + 1, none⟩ = some (.string t) ∧ w'.cell? ⟨tbB, 1, none⟩ = some (.slice (some ⟨gt, 0, none⟩) N capt) ∧ SL w w0.heap.size tbA w1.heap.size tbB T2 w' ∧ Below w5.heap.size w5 w') → Calls Tryz.prog 6 #[.int .i64 ge] w' fun e w'' => e = .returned (.int .i64 ge) ∧ (w''.cell? ⟨b, o + i * 2 + 1, none⟩ = some (.string t) ∧ w''.cell? ⟨tbB, 1, none⟩ = some (.slice (some ⟨gt, 0, none⟩) N capt) ∧ SL w w0.heap.size tbA w1.heap.size tbB T2 w'' ∧ Below w5.heap.size w5 w'') by
        intro w' h
        refine (num_any ge w').mono ?_
        rintro e w'' ⟨rfl, rfl⟩
        exact ⟨rfl, h⟩)
      have C10 := hide (show ∀ w', (w'.cell? ⟨b, o + i * 2 + 1, none⟩ = some (.string t) ∧ w'.cell? ⟨tbB, 1, none⟩ = some (.slice (some ⟨gt, 0, none⟩) N capt) ∧ SL w w0.heap.size tbA w1.heap.size tbB T2 w' ∧ Below w5.heap.size w5 w') → Calls Tryz.prog 10 #[.pointer (some ⟨tbA, 0, none⟩)] w' fun e w'' => e = .returned (.string t) ∧ (w''.cell? ⟨b, o + i * 2 + 1, none⟩ = some (.string t) ∧ w''.cell? ⟨tbB, 1, none⟩ = some (.slice (some ⟨gt, 0, none⟩) N capt) ∧ SL w w0.heap.size tbA w1.heap.size tbB T2 w'' ∧ Below w5.heap.size w5 w'') by
        intro w' h
        refine (encodeA_walk T2 HVA.out.1 w0.heap.size tbA w' h.2.2.1.1 h.2.2.1.2.2.1).mono ?_
        rintro e w'' ⟨rfl, hb⟩
        exact ⟨by rw [← HEn.out], HKeep.out w'' (h.2.2.1.below hb) (below_trans' h.2.2.2 hb h.2.2.2.size)⟩)
      have C11 := hide (show ∀ w', (w'.cell? ⟨b, o + i * 2 + 1, none⟩ = some (.string t) ∧ w'.cell? ⟨tbB, 1, none⟩ = some (.slice (some ⟨gt, 0, none⟩) N capt) ∧ SL w w0.heap.size tbA w1.heap.size tbB T2 w' ∧ Below w5.heap.size w5 w') → Calls Tryz.prog 11 #[.pointer (some ⟨tbA, 0, none⟩)] w' fun e w'' => e = .returned (.int .i64 (N : Int)) ∧ (w''.cell? ⟨b, o + i * 2 + 1, none⟩ = some (.string t) ∧ w''.cell? ⟨tbB, 1, none⟩ = some (.slice (some ⟨gt, 0, none⟩) N capt) ∧ SL w w0.heap.size tbA w1.heap.size tbB T2 w'' ∧ Below w5.heap.size w5 w'') by
        intro w' h
        refine (statesA_walk T2 w0.heap.size tbA w' h.2.2.1.2.2.1).mono ?_
        rintro e w'' ⟨rfl, rfl⟩
        exact ⟨by rw [HN.out], h⟩)
      have K0 := hide (HKeep.out w5.drew (HSL5.out.below (Below.refl _ _).drew) (Below.refl _ _).drew)
      clear HKeep
      go_region_held3 (fun w' => w'.cell? ⟨b, o + i * 2 + 1, none⟩ = some (.string t) ∧ w'.cell? ⟨tbB, 1, none⟩ = some (.slice (some ⟨gt, 0, none⟩) N capt) ∧ SL w w0.heap.size tbA w1.heap.size tbB T2 w' ∧ Below w5.heap.size w5 w') (first | exact K0.out | assumption)
        ((first
          | (go_at_call 6; refine (C6.out _ (by assumption)).mono ?_; rintro e w' ⟨rfl, hS⟩)
          | (go_at_call 10; refine (C10.out _ (by assumption)).mono ?_; rintro e w' ⟨rfl, hS⟩)
          | (go_at_call 11; refine (C11.out _ (by assumption)).mono ?_; rintro e w' ⟨rfl, hS⟩)))
      have HBw := hide (show Below w.heap.size w w' from hS.2.2.1.2.1)
      clear hS C6 C10 C11 K0
      go_wp2
      go_roundg (len - (i + 1))
      case measure => omega
      case rel => exact HEnd.out _ HBw.out

end Go.Proofs.YtnecjeambpikdaaGreatDoor
