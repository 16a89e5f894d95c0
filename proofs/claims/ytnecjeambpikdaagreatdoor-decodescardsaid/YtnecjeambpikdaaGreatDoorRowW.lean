import Derived.Test.YtnecjeambpikdaaGreatDoorBuild
import Derived.Test.YtnecjeambpikdaaGreatDoorTwo
import Derived.Lib.BufferKept
namespace Go.Proofs.YtnecjeambpikdaaGreatDoor
open Go.RowKit

/-- What writing keeps: what lies below B, and every other block that is none of bytes. -/
def Wrote (B b : Nat) (w w' : World) : Prop := Below B w w' ∧ Lib.OthersKept 5 (some b) w w'
theorem Wrote.trans {B b : Nat} {w w1 w2 : World} (h : Wrote B b w w1) (k : Wrote B b w1 w2) : Wrote B b w w2 := ⟨h.1.trans k.1, h.2.trans k.2⟩
theorem Wrote.refl (B b : Nat) (w : World) : Wrote B b w w := ⟨Below.refl _ _, Lib.OthersKept.refl _ _ _⟩
theorem Wrote.later {B b : Nat} {w w1 w2 : World} (h : Wrote B b w w1) (hB : B ≤ w1.heap.size) (k : Below w1.heap.size w1 w2) : Wrote B b w w2 := ⟨h.1.trans (k.mono hB), h.2.below k⟩
theorem build_later {B b : Nat} {bs : List Value} {w w' : World} (h : Lib.IsBuilder 90 5 B b bs w) (hb : Below w.heap.size w w') : Lib.IsBuilder 90 5 B b bs w' := by
  rcases h with ⟨h1, v, h2, h3, h4⟩ | ⟨h1, v, h2, h3, h4⟩
  · exact .inl ⟨h1, v, by rw [hb.block b (lt_of_block h2)]; exact h2, own_below h3 hb (Nat.le_refl _), h4⟩
  · exact .inr ⟨h1, v, by rw [hb.block b (lt_of_block h2)]; exact h2, own_below h3 hb (Nat.le_refl _), h4⟩
theorem byteCells_snoc (l : List UInt8) (c : UInt8) : Lib.byteCells l ++ [.int .u8 ((c.toNat : Nat) : Int)] = Lib.byteCells (l ++ [c]) := by simp [Lib.byteCells]
theorem byteCells_more (l m : List UInt8) : Lib.byteCells l ++ Lib.strCells ⟨m.toArray⟩ = Lib.byteCells (l ++ m) := by simp [Lib.byteCells, Lib.strCells]
theorem asizeR (l : List UInt8) : (⟨l.toArray⟩ : ByteArray).size = l.length := by show l.toArray.size = _; simp
theorem byteCells_length (l : List UInt8) : (Lib.byteCells l).length = l.length := by simp [Lib.byteCells]

theorem joinC_snoc (c : UInt8) : ∀ (ls : List (List UInt8)) (l : List UInt8), ls ≠ [] → joinC c (ls ++ [l]) = joinC c ls ++ c :: l
  | [], _, h => absurd rfl h
  | [m], l, _ => rfl
  | m :: k :: r, l, _ => by
    have := joinC_snoc c (k :: r) l (by simp)
    rw [List.cons_append, List.cons_append, joinC, ← List.cons_append, this, joinC]
    simp

set_option maxHeartbeats 4000000 in
set_option maxRecDepth 100000 in
theorem row_walk (f : Nat) (hf : f = 34 ∨ f = 35 ∨ f = 37) (p : Addr) (B b : Nat) (I : World → Prop) (ts : List (List UInt8)) (l : List UInt8) (w : World) (hl : l.length ≤ 200000) (ht : ∀ t ∈ ts, t.length ≤ 100) (htn : ts.length ≤ 300)
    (hI : I w) (hkeep : ∀ w' w'', I w' → Wrote B b w' w'' → I w'')
    (hcall : ∀ (w' : World) (n : Nat) (t : List UInt8), I w' → ts[n]? = some t → Calls Tryz.prog f #[.int .i64 (n : Int), .pointer (some p)] w' fun e w'' => e = .returned (.string ⟨t.toArray⟩) ∧ Below w'.heap.size w' w'')
    (hb : Lib.IsBuilder 90 5 B b (Lib.byteCells l) w) (hB : B ≤ w.heap.size) :
    Calls Tryz.prog 33 #[.pointer (some ⟨b, 0, none⟩), .int .i64 (ts.length : Int), .func (.func f) #[] #[.pointer (some p)]] w fun e w' => e = .returned (.tuple #[]) ∧
      Lib.IsBuilder 90 5 B b (Lib.byteCells (l ++ (joinC 32 ts ++ [10]))) w' ∧ Wrote B b w w' ∧ I w' := by
  rcases hf with rfl | rfl | rfl
  all_goals (
    have HT := hide ht
    have HI := hide hI
    have HK := hide hkeep
    have HC := hide hcall
    have HB := hide hb
    clear ht hI hkeep hcall hb
    generalize hN : ts.length = N at *
    have HN := hide hN
    clear hN
    go_enter Tryz.func33, Tryz.ntmps33
    go_wp2
    go_loopw [8] (fun i wr => ∃ k : Nat, k ≤ N ∧ i = .int .i64 (k : Int) ∧ Lib.IsBuilder 90 5 B b (Lib.byteCells (l ++ joinC 32 (ts.take k))) wr ∧ (joinC 32 (ts.take k)).length ≤ k * 101 ∧ Wrote B b w wr ∧ I wr) (fun i _ => N - (intOf i).toNat)
    case atStart => exact ⟨0, Nat.zero_le _, rfl, by simpa [joinC] using HB.out, by simp [joinC], Wrote.refl _ _ _, HI.out⟩
    case round =>
      obtain ⟨k, hk, rfl, h1, h2, h3, h4⟩ := hrel
      have H1 := hide h1
      have H3 := hide h3
      have H4 := hide h4
      have hBr : B ≤ wr.heap.size := Nat.le_trans hB h3.1.size
      clear h1 h3 h4
      by_cases hlt : k < N
      · have hx : ts[k]? = some (ts.getD k []) := getD_some _ _ _ (by have := HN.out; omega)
        have hxl := HT.out _ (List.mem_of_getElem? hx)
        have HX := hide hx
        clear hx
        generalize ts.getD k [] = t at *
        have HTake := hide (take_step HX.out)
        by_cases hk0 : k = 0
        · subst hk0
          go_wp2_with fail
          refine (HC.out wr 0 t H4.out HX.out).mono ?_
          rintro e w1 ⟨rfl, hb1⟩
          have HB1 := hide hb1
          have hB1 : B ≤ w1.heap.size := Nat.le_trans hBr hb1.size
          clear hb1
          go_wp2_with fail
          refine (writeString_any B b _ ⟨t.toArray⟩ w1 (build_later H1.out HB1.out) (by rw [byteCells_length, asizeR, List.length_append]; omega) hB1).mono ?_
          rintro e w2 ⟨rfl, hb2, hbl2, hok2⟩
          have H2 := hide (show Wrote B b w1 w2 from ⟨hbl2, hok2⟩)
          have HB2 := hide hb2
          clear hb2 hbl2 hok2
          go_wp2
          go_roundw
          case rel =>
            refine ⟨1, by omega, rfl, ?_, ?_, ?_, ?_⟩
            · have := HB2.out
              rw [byteCells_more] at this
              rw [HTake.out]
              simpa [joinC] using this
            · rw [HTake.out]
              simp [joinC]
              omega
            · exact ((H3.out.later hBr HB1.out)).trans H2.out
            · exact HK.out _ _ (HK.out _ _ H4.out ((Wrote.refl B b wr).later hBr HB1.out)) H2.out
          case measure => simp [intOf]; omega
        · go_wp2_with fail
          refine (writeByte_any B b _ 32 wr H1.out (by rw [byteCells_length, List.length_append]; omega) hBr).mono ?_
          rintro e w0 ⟨rfl, hb0, hbl0, hok0⟩
          have H0 := hide (show Wrote B b wr w0 from ⟨hbl0, hok0⟩)
          have HB0 := hide hb0
          have hB0 : B ≤ w0.heap.size := Nat.le_trans hBr hbl0.size
          clear hb0 hbl0 hok0
          go_wp2_with fail
          refine (HC.out w0 k t (HK.out _ _ H4.out H0.out) HX.out).mono ?_
          rintro e w1 ⟨rfl, hb1⟩
          have HB1 := hide hb1
          have hB1 : B ≤ w1.heap.size := Nat.le_trans hB0 hb1.size
          clear hb1
          go_wp2_with fail
          refine (writeString_any B b _ ⟨t.toArray⟩ w1 (build_later HB0.out HB1.out) (by rw [List.length_append, byteCells_length, asizeR, List.length_append, List.length_singleton]; omega) hB1).mono ?_
          rintro e w2 ⟨rfl, hb2, hbl2, hok2⟩
          have H2 := hide (show Wrote B b w1 w2 from ⟨hbl2, hok2⟩)
          have HB2 := hide hb2
          clear hb2 hbl2 hok2
          have HJ := hide (show joinC 32 (ts.take (k + 1)) = joinC 32 (ts.take k) ++ 32 :: t by
            rw [HTake.out]
            refine joinC_snoc 32 _ _ (fun e => ?_)
            have := congrArg List.length e
            rw [List.length_take, HN.out] at this
            simp at this
            omega)
          go_wp2
          go_roundw
          case rel =>
            refine ⟨k + 1, by omega, by go_num, ?_, ?_, ?_, ?_⟩
            · have := HB2.out
              rw [show (32 : Int) = (((32 : UInt8).toNat : Nat) : Int) from rfl, byteCells_snoc, byteCells_more] at this
              rw [HJ.out]
              simpa using this
            · rw [HJ.out]
              simp
              omega
            · exact (((H3.out.trans H0.out).later hB0 HB1.out)).trans H2.out
            · exact HK.out _ _ (HK.out _ _ (HK.out _ _ H4.out H0.out) ((Wrote.refl B b w0).later hB0 HB1.out)) H2.out
          case measure => simp [intOf]; omega
      · have htk := hide (show ts.take k = ts from List.take_of_length_le (by rw [HN.out]; omega))
        go_wp2_with fail
        refine (writeByte_any B b _ 10 wr H1.out (by rw [byteCells_length, List.length_append]; omega) hBr).mono ?_
        rintro e w0 ⟨rfl, hb0, hbl0, hok0⟩
        have H0 := hide (show Wrote B b wr w0 from ⟨hbl0, hok0⟩)
        have HB0 := hide hb0
        clear hb0 hbl0 hok0
        go_wp2
        go_end0
        refine ⟨rfl, ?_, H3.out.trans H0.out, HK.out _ _ H4.out H0.out⟩
        have := HB0.out
        rw [show (10 : Int) = (((10 : UInt8).toNat : Nat) : Int) from rfl, byteCells_snoc, htk.out] at this
        simpa using this)

end Go.Proofs.YtnecjeambpikdaaGreatDoor
