import Derived.Test.YtnecjeambpikdaaGreatDoorRead
import Derived.Test.YtnecjeambpikdaaGreatDoorPu16
import Derived.Test.YtnecjeambpikdaaGreatDoorLines
import Derived.Test.YtnecjeambpikdaaGreatDoorCanon
namespace Go.Proofs.YtnecjeambpikdaaGreatDoor
open Go.RowKit

theorem pu10 : PuSaid 10 := fun t w h1 h2 => pu10_walk t h1 h2 w
theorem pu16 : PuSaid 16 := fun t w h1 h2 => pu16_walk t h1 h2 w

theorem splitB_le (sep : ByteArray) (save : Nat) : ∀ (k : Nat) (s : ByteArray), ∀ p ∈ Lib.splitB sep save k s, p.size ≤ s.size
  | 0, s, p, h => by simp [Lib.splitB] at h; rw [h]; exact Nat.le_refl _
  | k + 1, s, p, h => by
    rw [Lib.splitB] at h
    split at h
    · simp at h; rw [h]; exact Nat.le_refl _
    · rw [List.mem_cons] at h
      rcases h with h | h
      · rw [h, ByteArray.size_extract]; omega
      · have := splitB_le sep save k _ p h
        rw [ByteArray.size_extract] at this
        omega

/-- strings.Split at a byte. -/
theorem split_any (c : UInt8) (s : ByteArray) (hs : s.size ≤ 1000000) (w : World) (hE : Env w) :
    Calls Tryz.prog 20 #[.string s, .string ⟨#[c]⟩] w fun e w' => ∃ (n : Nat) (parts : List ByteArray), e = .returned (.slice (some ⟨w.heap.size, 0, none⟩) n n) ∧ w' = w.alloc (.cells (parts.map Value.string).toArray 9) ∧
      parts.length = n ∧ 1 ≤ n ∧ n ≤ s.size + 1 ∧ (∀ p ∈ parts, p.size ≤ s.size) ∧ (∀ ls, ls ≠ [] → (∀ l ∈ ls, c ∉ l) → s.data.toList = joinC c ls → parts.map (·.data.toList) = ls) := by
  obtain ⟨m, hm⟩ := hE.mx
  refine (Tryz.strings_Split s ⟨#[c]⟩ m w (by omega) hm (Nat.le_refl 1)).mono ?_
  rintro e w' ⟨rfl, rfl⟩
  have hl := Lib.splitB_all ⟨#[c]⟩ (Nat.le_refl 1) 0 _ s rfl
  have hle := Lib.countB_le ⟨#[c]⟩ (Nat.le_refl 1) s.size s (Nat.le_refl _)
  refine ⟨_, Lib.splitB ⟨#[c]⟩ 0 (Lib.countB s ⟨#[c]⟩) s, rfl, rfl, hl, by omega, by omega, splitB_le _ _ _ _, fun ls h1 h2 h3 => ?_⟩
  rw [Lib.splitB_data, h3]
  refine split_join c ls _ h1 h2 ?_
  have hc : Lib.countB s ⟨#[c]⟩ = s.data.toList.count c := Lib.count_one c _
  rw [hc, h3]
  have := count_join c ls h1 h2
  omega

theorem part_cell (w : World) (parts : List ByteArray) (k : Nat) (p : ByteArray) (h : parts[k]? = some p) : (w.alloc (.cells (parts.map Value.string).toArray 9)).cell? ⟨w.heap.size, k, none⟩ = some (.string p) :=
  row_cell (heap_push_new w _) (by simp [h])

set_option maxHeartbeats 1000000 in
set_option maxRecDepth 100000 in
theorem mayBe_walk (r lo : Nat) (w : World) :
    Calls Tryz.prog 57 #[.int .i32 (r : Int), .int .i32 (lo : Int)] w fun e w' => e = .returned (.bool (decide (lo ≤ r) && Lib.validRune (r : Int))) ∧ w' = w := by
  by_cases h : lo ≤ r
  · have h' : (lo : Int) ≤ (r : Int) := by omega
    go_enter Tryz.func57, Tryz.ntmps57
    go_wp2_with (go_at_call 72; refine (Tryz.utf8_ValidRune _ _).mono ?_; rintro e w' ⟨rfl, rfl⟩)
    go_ret
    exact ⟨ret_bool (by simp [h]), rfl⟩
  · have h' : ¬ (lo : Int) ≤ (r : Int) := by omega
    have hd : decide ((lo : Int) ≤ (r : Int)) = false := by simpa using h'
    go_enter Tryz.func57, Tryz.ntmps57
    go_wp2_with (go_at_call 72; refine (Tryz.utf8_ValidRune _ _).mono ?_; rintro e w' ⟨rfl, rfl⟩)
    go_ret
    exact ⟨ret_bool (by simp), rfl⟩

/-- What a table's first line is. -/
def headLine (c n : Nat) : List UInt8 := joinC 32 [[99, 108, 101, 97, 118, 101], Lib.decDigits c, Lib.decDigits n]

theorem dig32 : digOf 32 = none := by decide
theorem dig10 : digOf 10 = none := by decide
theorem dig45 : digOf 45 = none := by decide
theorem dig47 : digOf 47 = none := by decide
theorem dig126 : digOf 126 = none := by decide

theorem head_parts (c n : Nat) (hc : c ≤ 6) (hn : n ≤ 256) : ∀ l ∈ [[99, 108, 101, 97, 118, 101], Lib.decDigits c, Lib.decDigits n], (32 : UInt8) ∉ l := by
  intro l hl
  simp only [List.mem_cons, List.mem_nil_iff, or_false] at hl
  rcases hl with rfl | rfl | rfl
  · decide
  · exact (dec_canon c (by omega)).no dig32
  · exact (dec_canon n (by omega)).no dig32

theorem size_ne {s : ByteArray} {l : List UInt8} (h : s.data.toList = l) (h0 : 0 < l.length) : s.size ≠ 0 := by
  rw [← h] at h0
  simp only [Array.length_toList] at h0
  show s.data.size ≠ 0
  omega

set_option maxHeartbeats 4000000 in
set_option maxRecDepth 100000 in
theorem head_walk (s : ByteArray) (hs : s.size ≤ 100000) (w : World) (hE : Env w) :
    Calls Tryz.prog 21 #[.string s] w fun e w' => ∃ (c n : Nat) (ok : Bool), e = .returned (.tuple #[.int .i64 (c : Int), .int .i64 (n : Int), .bool ok]) ∧ (ok = true → c ≤ 6 ∧ 1 ≤ n ∧ n ≤ 256) ∧
      (∀ c' n', c' ≤ 6 → 1 ≤ n' → n' ≤ 256 → s.data.toList = headLine c' n' → ok = true ∧ c = c' ∧ n = n') ∧ Below w.heap.size w w' := by
  have HS := hide (split_any 32 s (by omega) w hE)
  go_enter Tryz.func21, Tryz.ntmps21
  go_wp2_with fail
  refine HS.out.mono ?_
  rintro e w1 ⟨N, parts, rfl, rfl, hN, hN1, hN2, hps, hpl⟩
  have HN := hide hN
  have HPS := hide hps
  have HPL := hide hpl
  clear hN hps hpl HS
  by_cases h3 : N = 3
  · subst h3
    have e1 : parts[1]? = some (parts.getD 1 ByteArray.empty) := getD_some _ _ _ (by have := HN.out; omega)
    have e2 : parts[2]? = some (parts.getD 2 ByteArray.empty) := getD_some _ _ _ (by have := HN.out; omega)
    have hp1 := HPS.out _ (List.mem_of_getElem? e1)
    have hp2 := HPS.out _ (List.mem_of_getElem? e2)
    have q1 := part_cell w parts 1 _ e1
    have q2 := part_cell w parts 2 _ e2
    have HE1 := hide e1
    have HE2 := hide e2
    clear e1 e2
    generalize parts.getD 1 ByteArray.empty = p1 at *
    generalize parts.getD 2 ByteArray.empty = p2 at *
    have HB0 := hide (show Below w.heap.size w (w.alloc (.cells (parts.map Value.string).toArray 9)) from (Below.refl _ _).alloc (Nat.le_refl _) _)
    generalize w.alloc (.cells (parts.map Value.string).toArray 9) = w1 at *
    have HQ2 := hide q2
    clear q2
    go_wp2_with fail
    refine (number_walk 10 pu10 p1 (by omega) w1 (hE.below HB0.out)).mono ?_
    rintro e w2 ⟨c, ok1, rfl, hc, hv1, hb2⟩
    have hq2 : w2.cell? ⟨w.heap.size, 2, none⟩ = some (.string p2) := cell_later hb2 HQ2.out
    have HB2 := hide hb2
    have HV1 := hide hv1
    clear hb2 hv1
    go_wp2_with fail
    refine (number_walk 10 pu10 p2 (by omega) w2 ((hE.below HB0.out).below HB2.out)).mono ?_
    rintro e w3 ⟨n, ok2, rfl, hn, hv2, hb3⟩
    have HB := hide (below2 (below2 HB0.out HB2.out) hb3)
    have HV := hide (show ∀ c' n', c' ≤ 6 → 1 ≤ n' → n' ≤ 256 → s.data.toList = headLine c' n' → (ok1 = true ∧ c = c') ∧ (ok2 = true ∧ n = n') by
      intro c' n' h1 h2 h3 h4
      have hp := HPL.out _ (by simp) (head_parts c' n' h1 h3) h4
      have g1 : p1.data.toList = Lib.decDigits c' := by
        have := congrArg (·[1]?) hp
        simp only [List.getElem?_map, HE1.out] at this
        simpa using this
      have g2 : p2.data.toList = Lib.decDigits n' := by
        have := congrArg (·[2]?) hp
        simp only [List.getElem?_map, HE2.out] at this
        simpa using this
      have k1 := dec_canon c' (by omega)
      have k2 := dec_canon n' (by omega)
      exact ⟨HV1.out c' (by omega) (size_ne g1 k1.pos) (by rw [g1]; exact k1.val), hv2 n' (by omega) (size_ne g2 k2.pos) (by rw [g2]; exact k2.val)⟩)
    clear hb3 hv2 HV1 HB2 HQ2 HE1 HE2 HPL HPS HN HB0 hE hq2
    by_cases hin : c ≤ 6 ∧ 1 ≤ n ∧ n ≤ 256
    · obtain ⟨i1, i2, i3⟩ := hin
      have d1 : decide ((c : Int) ≤ 6) = true := by simp; omega
      have d2 : decide ((1 : Int) ≤ (n : Int)) = true := by simp; omega
      have d3 : decide ((n : Int) ≤ 256) = true := by simp; omega
      cases ok1
      all_goals (cases ok2)
      all_goals (
        go_wp2
        go_ret3
        refine ⟨c, n, _, rfl, fun _ => ⟨i1, i2, i3⟩, fun c' n' h1 h2 h3 h4 => ?_, HB.out⟩
        obtain ⟨⟨a1, a2⟩, b1, b2⟩ := HV.out c' n' h1 h2 h3 h4
        first | exact ⟨rfl, a2, b2⟩ | exact Bool.noConfusion a1 | exact Bool.noConfusion b1)
    · have HIN := hide hin
      have HNo := hide (show ∀ c' n', c' ≤ 6 → 1 ≤ n' → n' ≤ 256 → s.data.toList = headLine c' n' → False by
        intro c' n' h1 h2 h3 h4
        obtain ⟨⟨_, a2⟩, _, b2⟩ := HV.out c' n' h1 h2 h3 h4
        exact HIN.out ⟨by omega, by omega, by omega⟩)
      clear HV
      by_cases i1 : c ≤ 6
      · have d1 : decide ((c : Int) ≤ 6) = true := by simp; omega
        by_cases i2 : 1 ≤ n
        · have d2 : decide ((1 : Int) ≤ (n : Int)) = true := by simp; omega
          have i3 : ¬ n ≤ 256 := fun h => hin ⟨i1, i2, h⟩
          have d3 : decide ((n : Int) ≤ 256) = false := by simp; omega
          clear hin
          cases ok1
          all_goals (cases ok2)
          all_goals (
            go_wp2
            go_ret3
            exact ⟨c, n, false, rfl, by simp, fun c' n' h1 h2 h3 h4 => (HNo.out c' n' h1 h2 h3 h4).elim, HB.out⟩)
        · have d2 : decide ((1 : Int) ≤ (n : Int)) = false := by simp; omega
          clear hin
          cases ok1
          all_goals (cases ok2)
          all_goals (
            go_wp2
            go_ret3
            exact ⟨c, n, false, rfl, by simp, fun c' n' h1 h2 h3 h4 => (HNo.out c' n' h1 h2 h3 h4).elim, HB.out⟩)
      · have d1 : decide ((c : Int) ≤ 6) = false := by simp; omega
        clear hin
        cases ok1
        all_goals (cases ok2)
        all_goals (
          go_wp2
          go_ret3
          exact ⟨c, n, false, rfl, by simp, fun c' n' h1 h2 h3 h4 => (HNo.out c' n' h1 h2 h3 h4).elim, HB.out⟩)
  · have hb3 : ((N : Int) != 3) = true := by rw [bne_iff_ne]; omega
    go_wp2
    go_ret3
    refine ⟨0, 0, false, rfl, by simp, fun c' n' h1 h2 h3' h4 => ?_, (Below.refl _ _).alloc (Nat.le_refl _) _⟩
    have hp := HPL.out _ (by simp) (head_parts c' n' h1 h3') h4
    have := congrArg List.length hp
    rw [List.length_map, HN.out] at this
    exact absurd this h3

end Go.Proofs.YtnecjeambpikdaaGreatDoor
