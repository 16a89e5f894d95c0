import Derived.Test.YtnecjeambpikdaaGreatDoorFeed
namespace Go.Proofs.YtnecjeambpikdaaGreatDoor
open Go.RowKit

/-- What number leaves. -/
def Numbered (base most fb : Nat) (s : ByteArray) (ok : Bool) (w : World) (n' : Nat) (w' : World) : Prop := ∃ (s' : ByteArray) (ok' : Bool), FeedAt w' fb s' ok' ∧ s'.size ≤ s.size ∧ n' ≤ most ∧
      (ok' = true → ok = true ∧ s.data.toList = digs base n' ++ s'.data.toList) ∧
      (∀ m r, ok = true → m ≤ most → s.data.toList = digs base m ++ r → (∀ c r', r = c :: r' → digOf c = none) → ok' = true ∧ n' = m ∧ s'.data.toList = r) ∧ w.grownBy w' (some fb)

theorem numbered_bad {base most fb : Nat} (hb : base = 10 ∨ base = 16) (hm : most ≤ 16777215) {s : ByteArray} {ok : Bool} {w : World} (hf : FeedAt w fb s ok) (h : goodB most s.data.toList (runB base 9 0 s.data.toList) = false) :
    Numbered base most fb s ok w 0 (w.setCell ⟨fb, 1, none⟩ (.bool false)) := by
  refine ⟨s, false, heap_setCell_same w fb 1 _ _ _ hf, Nat.le_refl _, Nat.zero_le _, by simp, fun m r h1 h2 h3 h4 => ?_, ⟨rfl, rfl, rfl, by simp, fun k _ hk => heap_setCell_other w ⟨fb, 1, none⟩ k _ (fun e => hk (by simp [e]))⟩⟩
  obtain ⟨g1, g2⟩ := runB_complete base most m hb hm h2 r h4
  rw [h3, g1, g2] at h
  cases h
theorem numbered_good {base most fb : Nat} (hb : base = 10 ∨ base = 16) (hm : most ≤ 16777215) {s : ByteArray} {ok : Bool} {w : World} (hf : FeedAt w fb s ok) {n k : Nat} (hr : runB base 9 0 s.data.toList = (n, k)) (h : goodB most s.data.toList (runB base 9 0 s.data.toList) = true) :
    Numbered base most fb s ok w n (w.setCell ⟨fb, 0, none⟩ (.string (s.extract k s.size))) := by
  obtain ⟨g1, g2⟩ := runB_sound base most hb hm _ h
  rw [hr] at g1 g2
  refine ⟨s.extract k s.size, ok, heap_setCell_same w fb 0 _ _ _ hf, by rw [ByteArray.size_extract]; omega, g2, fun h0 => ⟨h0, ?_⟩, fun m r h1 h2 h3 h4 => ?_, ⟨rfl, rfl, rfl, by simp, fun k _ hk => heap_setCell_other w ⟨fb, 0, none⟩ k _ (fun e => hk (by simp [e]))⟩⟩
  · rw [extract_tail, ← g1, List.take_append_drop]
  · obtain ⟨f1, f2⟩ := runB_complete base most m hb hm h2 r h4
    rw [h3, f1] at hr
    injection hr with e1 e2
    refine ⟨h1, e1.symm, ?_⟩
    rw [extract_tail, ← e2, h3, List.drop_left]

theorem runB_go {base f acc d : Nat} {c : UInt8} {l : List UInt8} (hd : digOf c = some d) (h : d < base) : runB base (f + 1) acc (c :: l) = ((runB base f (base * acc + d) l).1, (runB base f (base * acc + d) l).2 + 1) := by
  rw [runB, hd]; simp [h]
theorem runB_stop {base f acc : Nat} {c : UInt8} {l : List UInt8} (h : ∀ d, digOf c = some d → ¬ d < base) : runB base f acc (c :: l) = (acc, 0) := by
  cases f with
  | zero => rfl
  | succ f =>
    rw [runB]
    cases hd : digOf c with
    | none => rfl
    | some d => simp [h d hd]
theorem runB_end (base f acc : Nat) : runB base f acc [] = (acc, 0) := by cases f <;> rfl
theorem runB_none (base acc : Nat) (l : List UInt8) : runB base 0 acc l = (acc, 0) := rfl

theorem byte_at (s : ByteArray) (k : Nat) (h : k < s.size) : s[k] = s.data.toList.getD k 0 := by
  have h' : k < s.data.size := h
  have e : s[k] = s.data[k] := rfl
  rw [e, List.getD_eq_getElem?_getD, Array.getElem?_toList, Array.getElem?_eq_getElem h']
  rfl
theorem not48 {c : UInt8} (h : ¬ c = 48) : ((c.toNat : Int) == 48) = false := by
  rw [beq_eq_false_iff_ne]
  intro e
  exact h (UInt8.toNat_inj.1 (by show c.toNat = 48; omega))
theorem head_byte {s : ByteArray} (h : 0 < s.size) : s.data.toList.head? = some s[0] := by
  rw [byte_at s 0 h]
  have hl : 0 < s.data.toList.length := by rw [← Lib.size_eq]; exact h
  cases hs : s.data.toList with
  | nil => rw [hs] at hl; simp at hl
  | cons a r => rfl
theorem good_zero {most m k : Nat} {l : List UInt8} (h : k = 0) : goodB most l (m, k) = false := by simp [goodB, h]
theorem good_big {most m k : Nat} {l : List UInt8} (h : most < m) : goodB most l (m, k) = false := by simp [goodB, h]
theorem good_nought {most m k : Nat} {s : ByteArray} (h : 1 < k) (hs : 0 < s.size) (h48 : s[0] = 48) : goodB most s.data.toList (m, k) = false := by
  simp [goodB, head_byte hs, h48, h]
theorem good_yes {most m k : Nat} {s : ByteArray} (h : ¬ k = 0) (h1 : ¬ most < m) (h2 : ¬ 1 < k ∨ ∃ hs : 0 < s.size, ¬ s[0] = 48) : goodB most s.data.toList (m, k) = true := by
  rcases h2 with h2 | ⟨hs, h48⟩
  · simp [goodB, h, h1, h2]
  · simp [goodB, h, h1, head_byte hs, h48]

set_option maxHeartbeats 4000000 in
set_option maxRecDepth 100000 in
theorem numB_walk (base most fb : Nat) (hb : base = 10 ∨ base = 16) (hm : most ≤ 16777215) (s : ByteArray) (ok : Bool) (w : World) (hs : s.size ≤ 1000000) (hf : FeedAt w fb s ok) :
    Calls Tryz.prog 14 #[.pointer (some ⟨fb, 0, none⟩), .int .i64 (base : Int), .int .i64 (most : Int)] w fun e w' => ∃ n' : Nat, e = .returned (.int .i64 (n' : Int)) ∧ Numbered base most fb s ok w n' w' := by
  have hc0 : w.cell? ⟨fb, 0, none⟩ = some (.string s) := row_cell hf rfl
  have hc1 : w.cell? ⟨fb, 1, none⟩ = some (.bool ok) := row_cell hf rfl
  have hz0 : w.frozen? ⟨fb, 0, none⟩ = false := row_free hf 0
  have hz1 : w.frozen? ⟨fb, 1, none⟩ = false := row_free hf 1
  have HBad := hide (fun h => numbered_bad hb hm hf h)
  have HGood := hide (fun n k hr h => numbered_good (n := n) (k := k) hb hm hf hr h)
  have HF := hide hf
  clear hf
  obtain ⟨P, hP⟩ : ∃ P, P = Numbered base most fb s ok w := ⟨_, rfl⟩
  rw [← hP] at HBad HGood ⊢
  clear hP
  obtain ⟨l, hl⟩ : ∃ l, l = s.data.toList := ⟨_, rfl⟩
  have hlen : s.size = l.length := by rw [hl]; exact Lib.size_eq s
  have HLen := hide hlen
  rw [← hl] at HBad HGood
  have HL := hide hl
  clear hl hlen
  have hb2 : base ≤ 16 := by omega
  have HB := hide hb
  clear hb
  go_enter Tryz.func14, Tryz.ntmps14
  go_wp2_with fail
  go_loopw [7, 8] (fun i n wr => ∃ k m : Nat, i = .int .i64 (k : Int) ∧ n = .int .i64 (m : Int) ∧ k ≤ 9 ∧ k ≤ s.size ∧ m < 16 ^ k ∧ runB base 9 0 l = ((runB base (9 - k) m (l.drop k)).1, (runB base (9 - k) m (l.drop k)).2 + k) ∧ wr = w) (fun i _ _ => 9 - (intOf i).toNat)
  case atStart => exact ⟨0, 0, rfl, rfl, by omega, by omega, by simp, by simp, rfl⟩
  case round =>
    obtain ⟨k, m, rfl, rfl, hk9, hks, hm16, hrun, rfl⟩ := hrel
    have HR := hide hrun
    clear hrun
    have hmb : m < 68719476736 := Nat.lt_of_lt_of_le hm16 (by
      calc 16 ^ k ≤ 16 ^ 9 := Nat.pow_le_pow_right (by omega) hk9
        _ = _ := by decide)
    by_cases hk : k < s.size
    · have c0 : decide ((k : Int) < (s.size : Int)) = true := by simp; omega
      by_cases hk2 : k < 9
      · have c1 : decide ((k : Int) < 9) = true := by simp; omega
        have hx : l[k]? = some (s[k]) := by rw [byte_at s k hk, HL.out]; exact getD_some _ _ _ (by rw [← Lib.size_eq]; exact hk)
        have HD := hide (drop_cons hx)
        clear hx
        have C1 := hide (hexDigit_any s[k] wr)
        by_cases hdig : ∃ d, digOf s[k] = some d ∧ d < base
        · obtain ⟨d, hd, hdb⟩ := hdig
          have HRn := hide (show runB base 9 0 l = ((runB base (9 - (k + 1)) (base * m + d) (l.drop (k + 1))).1, (runB base (9 - (k + 1)) (base * m + d) (l.drop (k + 1))).2 + (k + 1)) by
            have h9 : 9 - k = (9 - (k + 1)) + 1 := by omega
            rw [HR.out, HD.out, h9, runB_go hd hdb]
            simp only
            rw [show (runB base (9 - (k + 1)) (base * m + d) (l.drop (k + 1))).2 + 1 + k = (runB base (9 - (k + 1)) (base * m + d) (l.drop (k + 1))).2 + (k + 1) by omega])
          have hans : hexAns s[k] = (d : Int) := by simp [hexAns, hd]
          rw [hans] at C1
          have hm2 : base * m + d < 16 ^ (k + 1) := by
            rw [Nat.pow_succ]
            have h1 : base * m ≤ 16 * m := Nat.mul_le_mul_right _ hb2
            have h2 : d < 16 := by omega
            omega
          have hbm : base * m ≤ 16 * m := Nat.mul_le_mul_right _ hb2
          have hbI : (base : Int) * (m : Int) = ((base * m : Nat) : Int) := by push_cast; rfl
          have hd1 : decide ((d : Int) < 0) = false := by simp
          have hd2 : decide ((base : Int) ≤ (d : Int)) = false := by simp; omega
          have hd3 : ¬ base ≤ d := by omega
          clear hd hans HR HD
          generalize base * m = bm at *
          go_wp2_with fail
          refine C1.out.mono ?_
          rintro e w' ⟨rfl, rfl⟩
          go_wp2
          go_roundw
          case rel => exact ⟨k + 1, bm + d, by go_num, by go_num, by omega, by omega, hm2, HRn.out, by first | rfl | trivial⟩
          case measure => simp [intOf]; omega
        · have HRX := hide (show runB base 9 0 l = (m, k) by
            rw [HR.out, HD.out, runB_stop (fun d hd hlt => hdig ⟨d, hd, hlt⟩)]; simp)
          clear HR HD
          have hne : digOf s[k] = none ∨ ∃ d, digOf s[k] = some d ∧ base ≤ d := by
            cases hd : digOf s[k] with
            | none => exact .inl rfl
            | some d => exact .inr ⟨d, rfl, by
                rcases Nat.lt_or_ge d base with h | h
                · exact absurd ⟨d, hd, h⟩ hdig
                · exact h⟩
          clear hdig
          rcases hne with hne | ⟨d, hd, hdb⟩
          · have hans : hexAns s[k] = -1 := by simp [hexAns, hne]
            rw [hans] at C1
            clear hne hans
            go_wp2_with fail
            refine C1.out.mono ?_
            rintro e w' ⟨rfl, rfl⟩
            by_cases hk0 : k = 0
            · have b0 : ((k : Int) == 0) = true := by simp; omega
              have HBd := hide (HBad.out (by rw [HRX.out]; exact good_zero hk0))
              clear hk0 HGood HBad HRX
              go_wp2
              go_ret
              exact ⟨0, rfl, HBd.out⟩
            · have b0 : ((k : Int) == 0) = false := by simp; omega
              by_cases hnm : most < m
              · have b1 : decide ((most : Int) < (m : Int)) = true := by simp; omega
                have HBd := hide (HBad.out (by rw [HRX.out]; exact good_big hnm))
                clear hk0 HGood HBad HRX
                go_wp2
                go_ret
                exact ⟨0, rfl, HBd.out⟩
              · have b1 : decide ((most : Int) < (m : Int)) = false := by simp; omega
                by_cases hk1 : 1 < k
                · have b2 : decide ((1 : Int) < (k : Int)) = true := by simp; omega
                  have hs0 : 0 < s.size := by omega
                  by_cases h48 : s[0] = 48
                  · have b3 : ((s[0].toNat : Int) == 48) = true := by rw [h48]; rfl
                    have HBd := hide (HBad.out (by rw [HRX.out, HL.out]; exact good_nought hk1 hs0 h48))
                    clear hk0 HGood HBad HRX h48
                    go_wp2
                    go_ret
                    exact ⟨0, rfl, HBd.out⟩
                  · have b3 : ((s[0].toNat : Int) == 48) = false := not48 h48
                    have HGd := hide (HGood.out m k HRX.out (by rw [HRX.out, HL.out]; exact good_yes hk0 hnm (.inr ⟨hs0, h48⟩)))
                    clear hk0 HGood HBad HRX h48
                    go_wp2
                    go_ret
                    exact ⟨m, rfl, HGd.out⟩
                · have b2 : decide ((1 : Int) < (k : Int)) = false := by simp; omega
                  have HGd := hide (HGood.out m k HRX.out (by rw [HRX.out, HL.out]; exact good_yes hk0 hnm (.inl hk1)))
                  clear hk0 HGood HBad HRX
                  go_wp2
                  go_ret
                  exact ⟨m, rfl, HGd.out⟩
          · have hans : hexAns s[k] = (d : Int) := by simp [hexAns, hd]
            rw [hans] at C1
            have hd1 : decide ((d : Int) < 0) = false := by simp
            have hd2 : decide ((base : Int) ≤ (d : Int)) = true := by simp; omega
            clear hd hans
            go_wp2_with fail
            refine C1.out.mono ?_
            rintro e w' ⟨rfl, rfl⟩
            by_cases hk0 : k = 0
            · have b0 : ((k : Int) == 0) = true := by simp; omega
              have HBd := hide (HBad.out (by rw [HRX.out]; exact good_zero hk0))
              clear hk0 HGood HBad HRX
              go_wp2
              go_ret
              exact ⟨0, rfl, HBd.out⟩
            · have b0 : ((k : Int) == 0) = false := by simp; omega
              by_cases hnm : most < m
              · have b1 : decide ((most : Int) < (m : Int)) = true := by simp; omega
                have HBd := hide (HBad.out (by rw [HRX.out]; exact good_big hnm))
                clear hk0 HGood HBad HRX
                go_wp2
                go_ret
                exact ⟨0, rfl, HBd.out⟩
              · have b1 : decide ((most : Int) < (m : Int)) = false := by simp; omega
                by_cases hk1 : 1 < k
                · have b2 : decide ((1 : Int) < (k : Int)) = true := by simp; omega
                  have hs0 : 0 < s.size := by omega
                  by_cases h48 : s[0] = 48
                  · have b3 : ((s[0].toNat : Int) == 48) = true := by rw [h48]; rfl
                    have HBd := hide (HBad.out (by rw [HRX.out, HL.out]; exact good_nought hk1 hs0 h48))
                    clear hk0 HGood HBad HRX h48
                    go_wp2
                    go_ret
                    exact ⟨0, rfl, HBd.out⟩
                  · have b3 : ((s[0].toNat : Int) == 48) = false := not48 h48
                    have HGd := hide (HGood.out m k HRX.out (by rw [HRX.out, HL.out]; exact good_yes hk0 hnm (.inr ⟨hs0, h48⟩)))
                    clear hk0 HGood HBad HRX h48
                    go_wp2
                    go_ret
                    exact ⟨m, rfl, HGd.out⟩
                · have b2 : decide ((1 : Int) < (k : Int)) = false := by simp; omega
                  have HGd := hide (HGood.out m k HRX.out (by rw [HRX.out, HL.out]; exact good_yes hk0 hnm (.inl hk1)))
                  clear hk0 HGood HBad HRX
                  go_wp2
                  go_ret
                  exact ⟨m, rfl, HGd.out⟩
      · have c1 : decide ((k : Int) < 9) = false := by simp; omega
        have HRX := hide (show runB base 9 0 l = (m, k) by
          have h9 : 9 - k = 0 := by omega
          rw [HR.out, h9, runB_none]; simp)
        clear HR
        by_cases hk0 : k = 0
        · have b0 : ((k : Int) == 0) = true := by simp; omega
          have HBd := hide (HBad.out (by rw [HRX.out]; exact good_zero hk0))
          clear hk0 HGood HBad HRX
          go_wp2
          go_ret
          exact ⟨0, rfl, HBd.out⟩
        · have b0 : ((k : Int) == 0) = false := by simp; omega
          by_cases hnm : most < m
          · have b1 : decide ((most : Int) < (m : Int)) = true := by simp; omega
            have HBd := hide (HBad.out (by rw [HRX.out]; exact good_big hnm))
            clear hk0 HGood HBad HRX
            go_wp2
            go_ret
            exact ⟨0, rfl, HBd.out⟩
          · have b1 : decide ((most : Int) < (m : Int)) = false := by simp; omega
            by_cases hk1 : 1 < k
            · have b2 : decide ((1 : Int) < (k : Int)) = true := by simp; omega
              have hs0 : 0 < s.size := by omega
              by_cases h48 : s[0] = 48
              · have b3 : ((s[0].toNat : Int) == 48) = true := by rw [h48]; rfl
                have HBd := hide (HBad.out (by rw [HRX.out, HL.out]; exact good_nought hk1 hs0 h48))
                clear hk0 HGood HBad HRX h48
                go_wp2
                go_ret
                exact ⟨0, rfl, HBd.out⟩
              · have b3 : ((s[0].toNat : Int) == 48) = false := not48 h48
                have HGd := hide (HGood.out m k HRX.out (by rw [HRX.out, HL.out]; exact good_yes hk0 hnm (.inr ⟨hs0, h48⟩)))
                clear hk0 HGood HBad HRX h48
                go_wp2
                go_ret
                exact ⟨m, rfl, HGd.out⟩
            · omega
    · have c0 : decide ((k : Int) < (s.size : Int)) = false := by simp; omega
      have HRX := hide (show runB base 9 0 l = (m, k) by
        rw [HR.out, List.drop_eq_nil_of_le (by have := HLen.out; omega), runB_end]; simp)
      clear HR
      by_cases hk0 : k = 0
      · have b0 : ((k : Int) == 0) = true := by simp; omega
        have HBd := hide (HBad.out (by rw [HRX.out]; exact good_zero hk0))
        clear hk0 HGood HBad HRX
        go_wp2
        go_ret
        exact ⟨0, rfl, HBd.out⟩
      · have b0 : ((k : Int) == 0) = false := by simp; omega
        by_cases hnm : most < m
        · have b1 : decide ((most : Int) < (m : Int)) = true := by simp; omega
          have HBd := hide (HBad.out (by rw [HRX.out]; exact good_big hnm))
          clear hk0 HGood HBad HRX
          go_wp2
          go_ret
          exact ⟨0, rfl, HBd.out⟩
        · have b1 : decide ((most : Int) < (m : Int)) = false := by simp; omega
          by_cases hk1 : 1 < k
          · have b2 : decide ((1 : Int) < (k : Int)) = true := by simp; omega
            have hs0 : 0 < s.size := by omega
            by_cases h48 : s[0] = 48
            · have b3 : ((s[0].toNat : Int) == 48) = true := by rw [h48]; rfl
              have HBd := hide (HBad.out (by rw [HRX.out, HL.out]; exact good_nought hk1 hs0 h48))
              clear hk0 HGood HBad HRX h48
              go_wp2
              go_ret
              exact ⟨0, rfl, HBd.out⟩
            · have b3 : ((s[0].toNat : Int) == 48) = false := not48 h48
              have HGd := hide (HGood.out m k HRX.out (by rw [HRX.out, HL.out]; exact good_yes hk0 hnm (.inr ⟨hs0, h48⟩)))
              clear hk0 HGood HBad HRX h48
              go_wp2
              go_ret
              exact ⟨m, rfl, HGd.out⟩
          · have b2 : decide ((1 : Int) < (k : Int)) = false := by simp; omega
            have HGd := hide (HGood.out m k HRX.out (by rw [HRX.out, HL.out]; exact good_yes hk0 hnm (.inl hk1)))
            clear hk0 HGood HBad HRX
            go_wp2
            go_ret
            exact ⟨m, rfl, HGd.out⟩

end Go.Proofs.YtnecjeambpikdaaGreatDoor
