import Derived.Test.YtnecjeambpikdaaGreatDoorBrkB
import Derived.Deep.RegionHeld3
namespace Go.Proofs.YtnecjeambpikdaaGreatDoor
open Go.RowKit

theorem cat_list (a b : ByteArray) : (a ++ b).data.toList = a.data.toList ++ b.data.toList := by
  rw [ByteArray.data_append, Array.toList_append]
theorem add_ok (a b : ByteArray) (h : a.size + b.size ≤ 9000000) (w' : World) : (Op.stringOp .add a b).run Tryz.prog w' = .ok (.string (a ++ b)) w' := run_string_add_sum w' a b (by omega)
/-- What is held while numbers are written. -/
def HeldE (w0 w' : World) : Prop := Env w' ∧ Below w0.heap.size w0 w'

set_option maxHeartbeats 8000000 in
set_option maxRecDepth 100000 in
theorem encB_walk (T : Tbl) (hT : Bd T) (base tb : Nat) (w : World) (hE : Env w) (hA : RTab w base tb T.classes T.states) :
    Calls Tryz.prog 16 #[.pointer (some ⟨tb, 0, none⟩)] w fun e w' => ∃ X : ByteArray, e = .returned (.string X) ∧ X.data.toList = enc T ∧ Below w.heap.size w w' := by
  obtain ⟨vc, gt, gx, capt, capx, t0, t1, t2, hcls, hrow⟩ := hA.open_ hT.pos
  obtain ⟨aoc, capc, rfl⟩ := hcls.shape
  have HCls := hide hcls
  have HRow := hide hrow
  have HT := hide hT
  have HE := hide hE
  have hCC := hT.cls
  have hNN := hT.sts
  have hNP := hT.pos
  clear hcls hrow hT hE hA
  generalize hC : T.classes.length = C at *
  generalize hN : T.states.length = N at *
  have HC := hide hC
  have HN := hide hN
  clear hC hN
  obtain ⟨SA, hSA⟩ : ∃ A : ByteArray, A = ⟨(Lib.itoa (C : Int)).toArray⟩ := ⟨_, rfl⟩
  obtain ⟨SN, hSN⟩ : ∃ A : ByteArray, A = ⟨(Lib.itoa (N : Int)).toArray⟩ := ⟨_, rfl⟩
  have sA : SA.size ≤ 8 := by rw [hSA, itoa_nat, asizeR]; exact (dec_canon C (by omega)).len
  have sN : SN.size ≤ 8 := by rw [hSN, itoa_nat, asizeR]; exact (dec_canon N (by omega)).len
  have C1 := hide (show ∀ w', (w'.cell? ⟨tb, 0, none⟩ = some (.slice aoc C capc) ∧ w'.cell? ⟨tb, 1, none⟩ = some (.slice (some ⟨gt, 0, none⟩) N capt) ∧ HeldE w w') →
      Calls Tryz.prog 29 #[.int .i64 (C : Int)] w' fun e w'' => e = .returned (.string SA) ∧ (w''.cell? ⟨tb, 0, none⟩ = some (.slice aoc C capc) ∧ w''.cell? ⟨tb, 1, none⟩ = some (.slice (some ⟨gt, 0, none⟩) N capt) ∧ HeldE w w'') by
    rintro w' ⟨a1, a2, a3, a4⟩
    refine (itoa_any C (by omega) w' a3).mono ?_
    rintro e w'' ⟨rfl, hb⟩
    exact ⟨by rw [hSA], cell_later hb a1, cell_later hb a2, a3.below hb, below2 a4 hb⟩)
  have C2 := hide (show ∀ w', (w'.cell? ⟨tb, 0, none⟩ = some (.slice aoc C capc) ∧ w'.cell? ⟨tb, 1, none⟩ = some (.slice (some ⟨gt, 0, none⟩) N capt) ∧ HeldE w w') →
      Calls Tryz.prog 29 #[.int .i64 (N : Int)] w' fun e w'' => e = .returned (.string SN) ∧ (w''.cell? ⟨tb, 0, none⟩ = some (.slice aoc C capc) ∧ w''.cell? ⟨tb, 1, none⟩ = some (.slice (some ⟨gt, 0, none⟩) N capt) ∧ HeldE w w'') by
    rintro w' ⟨a1, a2, a3, a4⟩
    refine (itoa_any N (by omega) w' a3).mono ?_
    rintro e w'' ⟨rfl, hb⟩
    exact ⟨by rw [hSN], cell_later hb a1, cell_later hb a2, a3.below hb, below2 a4 hb⟩)
  have K0 := hide (show w.drew.cell? ⟨tb, 0, none⟩ = some (.slice aoc C capc) ∧ w.drew.cell? ⟨tb, 1, none⟩ = some (.slice (some ⟨gt, 0, none⟩) N capt) ∧ HeldE w w.drew from ⟨t0, t1, HE.out.below (Below.refl _ _).drew, (Below.refl _ _).drew⟩)
  have h1 := add_ok ⟨#[99, 108, 101, 97, 118, 101, 32]⟩ SA (by show 7 + SA.size ≤ _; omega)
  have h2 := add_ok (⟨#[99, 108, 101, 97, 118, 101, 32]⟩ ++ SA) ⟨#[32]⟩ (by rw [ByteArray.size_append]; show 7 + SA.size + 1 ≤ _; omega)
  have h3 := add_ok (⟨#[99, 108, 101, 97, 118, 101, 32]⟩ ++ SA ++ ⟨#[32]⟩) SN (by rw [ByteArray.size_append, ByteArray.size_append]; show 7 + SA.size + 1 + SN.size ≤ _; omega)
  have h4 := add_ok (⟨#[99, 108, 101, 97, 118, 101, 32]⟩ ++ SA ++ ⟨#[32]⟩ ++ SN) ⟨#[10]⟩ (by rw [ByteArray.size_append, ByteArray.size_append, ByteArray.size_append]; show 7 + SA.size + 1 + SN.size + 1 ≤ _; omega)
  have HHead := hide (show (⟨#[99, 108, 101, 97, 118, 101, 32]⟩ ++ SA ++ ⟨#[32]⟩ ++ SN ++ ⟨#[10]⟩ : ByteArray).data.toList = headLine C N ++ [10] ∧ (⟨#[99, 108, 101, 97, 118, 101, 32]⟩ ++ SA ++ ⟨#[32]⟩ ++ SN ++ ⟨#[10]⟩ : ByteArray).size ≤ 30 by
    refine ⟨?_, ?_⟩
    · rw [cat_list, cat_list, cat_list, cat_list, hSA, hSN, itoa_nat, itoa_nat]
      simp [headLine, joinC]
    · rw [ByteArray.size_append, ByteArray.size_append, ByteArray.size_append, ByteArray.size_append]
      show 7 + SA.size + 1 + SN.size + 1 ≤ 30
      omega)
  clear hSA hSN
  go_enter Tryz.func16, Tryz.ntmps16
  go_wp2_with fail
  go_region_held3 (fun w' => w'.cell? ⟨tb, 0, none⟩ = some (.slice aoc C capc) ∧ w'.cell? ⟨tb, 1, none⟩ = some (.slice (some ⟨gt, 0, none⟩) N capt) ∧ HeldE w w') (first | exact K0.out | assumption)
    ((first
      | (go_at_call_of 29 (Value.int .i64 (C : Int)); refine (C1.out _ (by assumption)).mono ?_; rintro e w' ⟨rfl, hS⟩)
      | (go_at_call_of 29 (Value.int .i64 (N : Int)); refine (C2.out _ (by assumption)).mono ?_; rintro e w' ⟨rfl, hS⟩)))
  have HBs := hide (show Below w.heap.size w w' from hS.2.2.2)
  generalize (⟨#[99, 108, 101, 97, 118, 101, 32]⟩ ++ SA ++ ⟨#[32]⟩ ++ SN ++ ⟨#[10]⟩ : ByteArray) = S0 at *
  clear C1 C2 K0 h1 h2 h3 h4 hS
  obtain ⟨wa, rfl⟩ : ∃ x, x = w' := ⟨_, rfl⟩
  go_wp2_with fail
  go_loopw [3, 4] (fun sv iv wr => ∃ (S : ByteArray) (k : Nat), k ≤ C ∧ iv = .int .i64 (k : Int) ∧ sv = .string S ∧ S.data.toList = headLine C N ++ [10] ++ ((T.classes.take k).flatMap fun c => classLine c ++ [10]) ∧ S.size ≤ 30 + k * 200 ∧ Below w.heap.size w wr) (fun _ i _ => C - (intOf i).toNat)
  case atStart => exact ⟨S0, 0, Nat.zero_le _, rfl, rfl, by simpa using HHead.out.1, by have := HHead.out.2; omega, HBs.out⟩
  case round =>
    obtain ⟨S, k, hk, rfl, rfl, hS, hSz, hb⟩ := hrel
    obtain ⟨wo, rfl⟩ : ∃ x, x = wr := ⟨_, rfl⟩
    have HS := hide hS
    have HB := hide hb
    have q0 := cell_later hb t0
    have q1 := cell_later hb t1
    clear hS hb HHead HBs
    by_cases hlt : k < C
    · have hx : T.classes[k]? = some (T.classes.getD k []) := getD_some _ _ _ (by have := HC.out; omega)
      have hok := HT.out.each _ (List.mem_of_getElem? hx)
      obtain ⟨g1, cap1, hv1, hcl⟩ := HCls.out.head (by have := HC.out; omega)
      obtain ⟨g2, c2, hcell, hcc⟩ := hcl k _ hx hok.1
      have HTake := hide (take_step hx)
      clear hx hcl
      generalize T.classes.getD k [] = c at *
      injection hv1 with hao hlen hcap
      clear hlen
      subst hao
      subst hcap
      have HCell := hide hcell
      have HCC := hide hcc
      have HOK := hide hok
      have hL6 := hok.2.1
      have hL1 := hok.1
      clear hcell hcc hok
      generalize hL : c.length = L at *
      have HL := hide hL
      clear hL
      go_wp2_with fail
      go_loopw [3, 5] (fun sv iv wr => ∃ (S2 : ByteArray) (j : Nat), j ≤ L ∧ iv = .int .i64 (j : Int) ∧ sv = .string S2 ∧ S2.data.toList = S.data.toList ++ joinC 32 ((c.map spanText).take j) ∧ S2.size ≤ S.size + j * 30 ∧ Below w.heap.size w wr) (fun _ i _ => L - (intOf i).toNat)
      case atStart => exact ⟨S, 0, Nat.zero_le _, rfl, rfl, by simp [joinC], by omega, HB.out⟩
      case round =>
        obtain ⟨S2, j, hj, rfl, rfl, hS2, hSz2, hb2⟩ := hrel
        obtain ⟨wi, rfl⟩ : ∃ x, x = wr := ⟨_, rfl⟩
        have HS2 := hide hS2
        have HB2 := hide hb2
        have u0 := cell_later hb2 t0
        have u1 := cell_later hb2 HCell.out
        have hwi := hb2.size
        clear hS2 hb2
        by_cases hlt2 : j < L
        · have hx : c[j]? = some (c.getD j (0, 0)) := getD_some _ _ _ (by have := HL.out; omega)
          have s1 := cell_later HB2.out (HCC.out _ _ (rngs_get .i64 c j _ hx).1)
          have s2 := cell_later HB2.out (HCC.out _ _ (rngs_get .i64 c j _ hx).2)
          have hle := spanOk_le (HOK.out.2.2 _ (List.mem_of_getElem? hx))
          have HTk2 := hide (show (c.map spanText).take (j + 1) = (c.map spanText).take j ++ [spanText (c.getD j (0, 0))] from take_step (by rw [List.getElem?_map, hx]; rfl))
          clear hx
          generalize c.getD j (0, 0) = x at *
          obtain ⟨lo, hi⟩ := x
          simp only at s1 s2 hle
          obtain ⟨A, hA⟩ : ∃ A : ByteArray, A = ⟨(hexOf lo).toArray⟩ := ⟨_, rfl⟩
          obtain ⟨D, hD⟩ : ∃ D : ByteArray, D = ⟨(hexOf hi).toArray⟩ := ⟨_, rfl⟩
          have sA' : A.size ≤ 8 := by rw [hA, asizeR]; exact (hex_canon lo (by omega)).len
          have sD : D.size ≤ 8 := by rw [hD, asizeR]; exact (hex_canon hi (by omega)).len
          obtain ⟨W1, hW1⟩ : ∃ W1, W1 = wi.alloc (.cells #[.int .i64 (lo : Int), .int .i64 (hi : Int)] 57) := ⟨_, rfl⟩
          have HBW := hide (show Below w.heap.size w W1 by rw [hW1]; exact HB2.out.alloc hwi _)
          have x0 : W1.cell? ⟨wi.heap.size, 0, none⟩ = some (.int .i64 (lo : Int)) := by rw [hW1]; exact row_cell (heap_push_new wi _) rfl
          have x1 : W1.cell? ⟨wi.heap.size, 1, none⟩ = some (.int .i64 (hi : Int)) := by rw [hW1]; exact row_cell (heap_push_new wi _) rfl
          have D1 := hide (show ∀ w', (w'.cell? ⟨wi.heap.size, 0, none⟩ = some (.int .i64 (lo : Int)) ∧ w'.cell? ⟨wi.heap.size, 1, none⟩ = some (.int .i64 (hi : Int)) ∧ HeldE W1 w') →
              Calls Tryz.prog 30 #[.int .i64 (lo : Int)] w' fun e w'' => e = .returned (.string A) ∧ (w''.cell? ⟨wi.heap.size, 0, none⟩ = some (.int .i64 (lo : Int)) ∧ w''.cell? ⟨wi.heap.size, 1, none⟩ = some (.int .i64 (hi : Int)) ∧ HeldE W1 w'') by
            rintro w' ⟨a1, a2, a3, a4⟩
            refine (hex_walk lo (by omega) w' a3.tz).mono ?_
            rintro e w'' ⟨rfl, hb⟩
            exact ⟨by rw [hA], cell_later hb a1, cell_later hb a2, a3.below hb, below2 a4 hb⟩)
          have D2 := hide (show ∀ w', (w'.cell? ⟨wi.heap.size, 0, none⟩ = some (.int .i64 (lo : Int)) ∧ w'.cell? ⟨wi.heap.size, 1, none⟩ = some (.int .i64 (hi : Int)) ∧ HeldE W1 w') →
              Calls Tryz.prog 30 #[.int .i64 (hi : Int)] w' fun e w'' => e = .returned (.string D) ∧ (w''.cell? ⟨wi.heap.size, 0, none⟩ = some (.int .i64 (lo : Int)) ∧ w''.cell? ⟨wi.heap.size, 1, none⟩ = some (.int .i64 (hi : Int)) ∧ HeldE W1 w'') by
            rintro w' ⟨a1, a2, a3, a4⟩
            refine (hex_walk hi (by omega) w' a3.tz).mono ?_
            rintro e w'' ⟨rfl, hb⟩
            exact ⟨by rw [hD], cell_later hb a1, cell_later hb a2, a3.below hb, below2 a4 hb⟩)
          have K1 := hide (show W1.drew.cell? ⟨wi.heap.size, 0, none⟩ = some (.int .i64 (lo : Int)) ∧ W1.drew.cell? ⟨wi.heap.size, 1, none⟩ = some (.int .i64 (hi : Int)) ∧ HeldE W1 W1.drew from ⟨x0, x1, HE.out.below (HBW.out.drew), (Below.refl _ _).drew⟩)
          have HSp := hide (show A.data.toList ++ 45 :: D.data.toList = spanText (lo, hi) by rw [hA, hD]; rfl)
          clear hA hD
          by_cases hj0 : j = 0
          · have HS3 := hide (show S2.data.toList ++ spanText (lo, hi) = S.data.toList ++ joinC 32 ((c.map spanText).take (j + 1)) by
              rw [HS2.out, HTk2.out, hj0]; simp [joinC])
            have hz3 : S2.size ≤ S.size + j * 30 + 1 := by omega
            have hjn : ¬ 0 < j := by omega
            have d0 : decide ((0 : Int) < (j : Int)) = false := by simp; omega
            clear hj0
            go_wp2_with fail
            rw [← hW1]
            clear hW1
            obtain ⟨S3, rfl⟩ : ∃ x, x = S2 := ⟨_, rfl⟩
            have e1 := add_ok S3 A (by omega)
            have e2 := add_ok (S3 ++ A) ⟨#[45]⟩ (by rw [ByteArray.size_append]; show S3.size + A.size + 1 ≤ _; omega)
            have e3 := add_ok (S3 ++ A ++ ⟨#[45]⟩) D (by rw [ByteArray.size_append, ByteArray.size_append]; show S3.size + A.size + 1 + D.size ≤ _; omega)
            have HNew := hide (show (S3 ++ A ++ ⟨#[45]⟩ ++ D).data.toList = S.data.toList ++ joinC 32 ((c.map spanText).take (j + 1)) ∧ (S3 ++ A ++ ⟨#[45]⟩ ++ D).size ≤ S.size + (j + 1) * 30 by
              refine ⟨?_, ?_⟩
              · rw [cat_list, cat_list, cat_list, ← HS3.out, ← HSp.out]
                simp
              · rw [ByteArray.size_append, ByteArray.size_append, ByteArray.size_append]
                show S3.size + A.size + 1 + D.size ≤ _
                omega)
            go_region_held3 (fun w' => w'.cell? ⟨wi.heap.size, 0, none⟩ = some (.int .i64 (lo : Int)) ∧ w'.cell? ⟨wi.heap.size, 1, none⟩ = some (.int .i64 (hi : Int)) ∧ HeldE W1 w') (first | exact K1.out | assumption)
              ((first
                | (go_at_call_of 30 (Value.int .i64 (lo : Int)); refine (D1.out _ (by assumption)).mono ?_; rintro e w' ⟨rfl, hS⟩)
                | (go_at_call_of 30 (Value.int .i64 (hi : Int)); refine (D2.out _ (by assumption)).mono ?_; rintro e w' ⟨rfl, hS⟩)))
            have HBf := hide (below2 HBW.out hS.2.2.2)
            generalize S3 ++ A ++ ⟨#[45]⟩ ++ D = S4 at *
            clear D1 D2 K1 e1 e2 e3 hS
            go_wp2
            go_roundw
            case rel => exact ⟨S4, j + 1, by omega, by go_num, rfl, HNew.out.1, HNew.out.2, HBf.out⟩
            case measure => simp [intOf]; omega
          · have HS3' := hide (show (S2 ++ ⟨#[32]⟩).data.toList ++ spanText (lo, hi) = S.data.toList ++ joinC 32 ((c.map spanText).take (j + 1)) by
              rw [cat_list, HS2.out, HTk2.out, joinC_snoc 32 _ _ (fun e => ?_)]
              · simp
              · have := congrArg List.length e
                rw [List.length_take, List.length_map, HL.out] at this
                simp at this
                omega)
            have hz3' : (S2 ++ ⟨#[32]⟩).size ≤ S.size + j * 30 + 1 := by rw [ByteArray.size_append]; show S2.size + 1 ≤ _; omega
            have e0 := add_ok S2 ⟨#[32]⟩ (by show S2.size + 1 ≤ _; omega)
            go_wp2_with fail
            rw [← hW1]
            clear hW1 e0
            generalize S2 ++ ⟨#[32]⟩ = S3 at *
            have HS3 := hide HS3'.out
            have hz3 := hz3'
            have e1 := add_ok S3 A (by omega)
            have e2 := add_ok (S3 ++ A) ⟨#[45]⟩ (by rw [ByteArray.size_append]; show S3.size + A.size + 1 ≤ _; omega)
            have e3 := add_ok (S3 ++ A ++ ⟨#[45]⟩) D (by rw [ByteArray.size_append, ByteArray.size_append]; show S3.size + A.size + 1 + D.size ≤ _; omega)
            have HNew := hide (show (S3 ++ A ++ ⟨#[45]⟩ ++ D).data.toList = S.data.toList ++ joinC 32 ((c.map spanText).take (j + 1)) ∧ (S3 ++ A ++ ⟨#[45]⟩ ++ D).size ≤ S.size + (j + 1) * 30 by
              refine ⟨?_, ?_⟩
              · rw [cat_list, cat_list, cat_list, ← HS3.out, ← HSp.out]
                simp
              · rw [ByteArray.size_append, ByteArray.size_append, ByteArray.size_append]
                show S3.size + A.size + 1 + D.size ≤ _
                omega)
            go_region_held3 (fun w' => w'.cell? ⟨wi.heap.size, 0, none⟩ = some (.int .i64 (lo : Int)) ∧ w'.cell? ⟨wi.heap.size, 1, none⟩ = some (.int .i64 (hi : Int)) ∧ HeldE W1 w') (first | exact K1.out | assumption)
              ((first
                | (go_at_call_of 30 (Value.int .i64 (lo : Int)); refine (D1.out _ (by assumption)).mono ?_; rintro e w' ⟨rfl, hS⟩)
                | (go_at_call_of 30 (Value.int .i64 (hi : Int)); refine (D2.out _ (by assumption)).mono ?_; rintro e w' ⟨rfl, hS⟩)))
            have HBf := hide (below2 HBW.out hS.2.2.2)
            generalize S3 ++ A ++ ⟨#[45]⟩ ++ D = S4 at *
            clear D1 D2 K1 e1 e2 e3 hS
            go_wp2
            go_roundw
            case rel => exact ⟨S4, j + 1, by omega, by go_num, rfl, HNew.out.1, HNew.out.2, HBf.out⟩
            case measure => simp [intOf]; omega
        · have hjL : j = L := by omega
          have e0 := add_ok S2 ⟨#[10]⟩ (by show S2.size + 1 ≤ _; omega)
          have HNew := hide (show (S2 ++ ⟨#[10]⟩).data.toList = headLine C N ++ [10] ++ ((T.classes.take (k + 1)).flatMap fun c => classLine c ++ [10]) ∧ (S2 ++ ⟨#[10]⟩).size ≤ 30 + (k + 1) * 200 by
            refine ⟨?_, ?_⟩
            · rw [cat_list, HS2.out, HS.out, HTake.out, List.flatMap_append, show (c.map spanText).take j = c.map spanText from List.take_of_length_le (by rw [List.length_map, HL.out]; omega)]
              simp [classLine]
            · rw [ByteArray.size_append]
              show S2.size + 1 ≤ _
              omega)
          go_wp2
          go_roundw
          case rel => exact ⟨S2 ++ ⟨#[10]⟩, k + 1, by omega, by go_num, rfl, HNew.out.1, HNew.out.2, HB2.out⟩
          case measure => simp [intOf]; omega
    · have hkC : k = C := by omega
      subst hkC
      have HTk := hide (show T.classes.take k = T.classes from List.take_of_length_le (by rw [HC.out]; exact Nat.le_refl _))
      rw [HTk.out] at HS
      go_wp2_with fail
      go_loopw [3, 7] (fun sv iv wr => ∃ (S3 : ByteArray) (m : Nat), m ≤ N ∧ iv = .int .i64 (m : Int) ∧ sv = .string S3 ∧ S3.data.toList = S.data.toList ++ ((T.states.take m).flatMap fun r => stateLine r ++ [10]) ∧ S3.size ≤ 1230 + m * 200 ∧ Below w.heap.size w wr) (fun _ i _ => N - (intOf i).toNat)
      case atStart => exact ⟨S, 0, Nat.zero_le _, rfl, rfl, by simp, by omega, HB.out⟩
      case round =>
        obtain ⟨S3, m, hm, rfl, rfl, hS3, hSz3, hb3⟩ := hrel
        obtain ⟨wp, rfl⟩ : ∃ x, x = wr := ⟨_, rfl⟩
        have HS3 := hide hS3
        have HB3 := hide hb3
        have y0 := cell_later hb3 t0
        have y1 := cell_later hb3 t1
        clear hS3 hb3
        by_cases hlm : m < N
        · have hx : T.states[m]? = some (T.states.getD m []) := getD_some _ _ _ (by have := HN.out; omega)
          obtain ⟨hrl, hra⟩ := HT.out.row _ (List.mem_of_getElem? hx)
          obtain ⟨g1, g2, c1, c2, RR⟩ := HRow.out m _ hx (by omega)
          have HTake := hide (take_step hx)
          clear hx
          generalize T.states.getD m [] = r at *
          rw [HC.out] at hrl
          have HRR := hide RR
          have HRA := hide hra
          have HRL := hide hrl
          have rto := RR.to
          have rcu := RR.cut
          rw [hrl] at rto rcu
          clear RR hra hrl
          have CW := hide (show ∀ w', w'.cell? ⟨tb, 0, none⟩ = some (.slice aoc k capc) → Calls Tryz.prog 28 #[.pointer (some ⟨tb, 0, none⟩)] w' fun e w'' => e = .returned (.int .i64 ((k + 1 : Nat) : Int)) ∧ w'' = w' from fun w' h => width_any tb k capc aoc w' (by omega) h)
          obtain ⟨Wd, hWd⟩ : ∃ Wd, Wd = k + 1 := ⟨_, rfl⟩
          have hW7 : Wd ≤ 7 := by omega
          rw [← hWd] at CW rto rcu
          have HWd := hide hWd
          clear hWd
          go_wp2_with fail
          go_loopw [3, 8] (fun sv iv wr => ∃ (S4 : ByteArray) (j : Nat), j ≤ Wd ∧ iv = .int .i64 (j : Int) ∧ sv = .string S4 ∧ S4.data.toList = S3.data.toList ++ joinC 32 ((r.map arrowText).take j) ∧ S4.size ≤ S3.size + j * 20 ∧ Below w.heap.size w wr) (fun _ i _ => Wd - (intOf i).toNat)
          case atStart => exact ⟨S3, 0, Nat.zero_le _, rfl, rfl, by simp [joinC], by omega, HB3.out⟩
          case round =>
            obtain ⟨S4, j, hj, rfl, rfl, hS4, hSz4, hb4⟩ := hrel
            obtain ⟨wi, rfl⟩ : ∃ x, x = wr := ⟨_, rfl⟩
            have HS4 := hide hS4
            have HB4 := hide hb4
            have v0 := cell_later hb4 t0
            have v1 := cell_later hb4 t1
            have v3 := cell_later hb4 rto
            clear hS4 hb4
            go_wp2_with fail
            refine (CW.out wi v0).mono ?_
            rintro e w' ⟨rfl, rfl⟩
            obtain ⟨wi, rfl⟩ : ∃ x, x = w' := ⟨_, rfl⟩
            by_cases hlj : j < Wd
            · have hx : r[j]? = some (r.getD j (0, false)) := getD_some _ _ _ (by have := HRL.out; have := HWd.out; omega)
              have hxa := HRA.out _ (List.mem_of_getElem? hx)
              have v4 := cell_later HB4.out (HRR.out.toAt j _ hx)
              have HV5 := hide (show ∀ w', Below wi.heap.size wi w' → w'.cell? ⟨tb, 2, none⟩ = some (.slice (some ⟨gx, 0, none⟩) N capx) ∧ w'.cell? ⟨gx, m, none⟩ = some (.slice (some ⟨g2, 0, none⟩) Wd c2) ∧ w'.cell? ⟨g2, j, none⟩ = some (.bool (r.getD j (0, false)).2) from fun w' h =>
                ⟨cell_later (below2 HB4.out h) t2, cell_later (below2 HB4.out h) rcu, cell_later (below2 HB4.out h) (HRR.out.cutAt j _ hx)⟩)
              have HTk4 := hide (show (r.map arrowText).take (j + 1) = (r.map arrowText).take j ++ [arrowText (r.getD j (0, false))] from take_step (by rw [List.getElem?_map, hx]; rfl))
              clear hx
              generalize r.getD j (0, false) = x at *
              obtain ⟨tgt, cu⟩ := x
              simp only at v4 hxa HV5
              rw [HN.out] at hxa
              obtain ⟨A, hA⟩ : ∃ A : ByteArray, A = ⟨(Lib.itoa (tgt : Int)).toArray⟩ := ⟨_, rfl⟩
              have sA' : A.size ≤ 8 := by rw [hA, itoa_nat, asizeR]; exact (dec_canon tgt (by omega)).len
              have CI := hide (show Calls Tryz.prog 29 #[.int .i64 (tgt : Int)] wi fun e w'' => e = .returned (.string A) ∧ Below wi.heap.size wi w'' by
                refine (itoa_any tgt (by omega) wi (HE.out.below HB4.out)).mono ?_
                rintro e w'' ⟨rfl, hb⟩
                exact ⟨by rw [hA], hb⟩)
              have HAr := hide (show A.data.toList ++ [if cu then 47 else 126] = arrowText (tgt, cu) by rw [hA, itoa_nat]; rfl)
              clear hA
              by_cases hj0 : j = 0
              · have hjn : ¬ 0 < j := by omega
                have d0 : decide ((0 : Int) < (j : Int)) = false := by simp; omega
                have HS5 := hide (show S4.data.toList ++ arrowText (tgt, cu) = S3.data.toList ++ joinC 32 ((r.map arrowText).take (j + 1)) by
                  rw [HS4.out, HTk4.out, hj0]; simp [joinC])
                have hz5 : S4.size ≤ S3.size + j * 20 + 1 := by omega
                clear hj0
                go_wp2_with fail
                obtain ⟨S5, rfl⟩ : ∃ x, x = S4 := ⟨_, rfl⟩
                refine CI.out.mono ?_
                rintro e w5 ⟨rfl, hb5⟩
                obtain ⟨v5, v6, v7⟩ := HV5.out w5 hb5
                have HBf := hide (below2 HB4.out hb5)
                have e1 := add_ok S5 A (by omega)
                clear hb5 CI HV5
                have sS : (S5 ++ A).size ≤ S3.size + j * 20 + 9 := by rw [ByteArray.size_append]; omega
                have HA5 := hide (cat_list S5 A)
                cases cu
                · have e2 := add_ok (S5 ++ A) ⟨#[126]⟩ (by show (S5 ++ A).size + 1 ≤ _; omega)
                  have HNew := hide (show ((S5 ++ A) ++ ⟨#[126]⟩).data.toList = S3.data.toList ++ joinC 32 ((r.map arrowText).take (j + 1)) ∧ ((S5 ++ A) ++ ⟨#[126]⟩).size ≤ S3.size + (j + 1) * 20 by
                    refine ⟨?_, ?_⟩
                    · rw [cat_list, HA5.out, ← HS5.out, ← HAr.out]
                      simp
                    · rw [ByteArray.size_append]
                      show (S5 ++ A).size + 1 ≤ _
                      omega)
                  go_wp2
                  go_roundw
                  case rel => exact ⟨_, j + 1, by omega, by go_num, rfl, HNew.out.1, HNew.out.2, HBf.out⟩
                  case measure => simp [intOf]; omega
                · have e2 := add_ok (S5 ++ A) ⟨#[47]⟩ (by show (S5 ++ A).size + 1 ≤ _; omega)
                  have HNew := hide (show ((S5 ++ A) ++ ⟨#[47]⟩).data.toList = S3.data.toList ++ joinC 32 ((r.map arrowText).take (j + 1)) ∧ ((S5 ++ A) ++ ⟨#[47]⟩).size ≤ S3.size + (j + 1) * 20 by
                    refine ⟨?_, ?_⟩
                    · rw [cat_list, HA5.out, ← HS5.out, ← HAr.out]
                      simp
                    · rw [ByteArray.size_append]
                      show (S5 ++ A).size + 1 ≤ _
                      omega)
                  go_wp2
                  go_roundw
                  case rel => exact ⟨_, j + 1, by omega, by go_num, rfl, HNew.out.1, HNew.out.2, HBf.out⟩
                  case measure => simp [intOf]; omega
              · have hjn : 0 < j := by omega
                have d0 : decide ((0 : Int) < (j : Int)) = true := by simp; omega
                have HS5' := hide (show (S4 ++ ⟨#[32]⟩).data.toList ++ arrowText (tgt, cu) = S3.data.toList ++ joinC 32 ((r.map arrowText).take (j + 1)) by
                  rw [cat_list, HS4.out, HTk4.out, joinC_snoc 32 _ _ (fun e => ?_)]
                  · simp
                  · have := congrArg List.length e
                    rw [List.length_take, List.length_map, HRL.out, ← HWd.out] at this
                    simp at this
                    omega)
                have hz5' : (S4 ++ ⟨#[32]⟩).size ≤ S3.size + j * 20 + 1 := by rw [ByteArray.size_append]; show S4.size + 1 ≤ _; omega
                have e0 := add_ok S4 ⟨#[32]⟩ (by show S4.size + 1 ≤ _; omega)
                clear hj0
                go_wp2_with fail
                clear e0
                generalize S4 ++ ⟨#[32]⟩ = S5 at *
                have HS5 := hide HS5'.out
                have hz5 := hz5'
                refine CI.out.mono ?_
                rintro e w5 ⟨rfl, hb5⟩
                obtain ⟨v5, v6, v7⟩ := HV5.out w5 hb5
                have HBf := hide (below2 HB4.out hb5)
                have e1 := add_ok S5 A (by omega)
                clear hb5 CI HV5
                have sS : (S5 ++ A).size ≤ S3.size + j * 20 + 9 := by rw [ByteArray.size_append]; omega
                have HA5 := hide (cat_list S5 A)
                cases cu
                · have e2 := add_ok (S5 ++ A) ⟨#[126]⟩ (by show (S5 ++ A).size + 1 ≤ _; omega)
                  have HNew := hide (show ((S5 ++ A) ++ ⟨#[126]⟩).data.toList = S3.data.toList ++ joinC 32 ((r.map arrowText).take (j + 1)) ∧ ((S5 ++ A) ++ ⟨#[126]⟩).size ≤ S3.size + (j + 1) * 20 by
                    refine ⟨?_, ?_⟩
                    · rw [cat_list, HA5.out, ← HS5.out, ← HAr.out]
                      simp
                    · rw [ByteArray.size_append]
                      show (S5 ++ A).size + 1 ≤ _
                      omega)
                  go_wp2
                  go_roundw
                  case rel => exact ⟨_, j + 1, by omega, by go_num, rfl, HNew.out.1, HNew.out.2, HBf.out⟩
                  case measure => simp [intOf]; omega
                · have e2 := add_ok (S5 ++ A) ⟨#[47]⟩ (by show (S5 ++ A).size + 1 ≤ _; omega)
                  have HNew := hide (show ((S5 ++ A) ++ ⟨#[47]⟩).data.toList = S3.data.toList ++ joinC 32 ((r.map arrowText).take (j + 1)) ∧ ((S5 ++ A) ++ ⟨#[47]⟩).size ≤ S3.size + (j + 1) * 20 by
                    refine ⟨?_, ?_⟩
                    · rw [cat_list, HA5.out, ← HS5.out, ← HAr.out]
                      simp
                    · rw [ByteArray.size_append]
                      show (S5 ++ A).size + 1 ≤ _
                      omega)
                  go_wp2
                  go_roundw
                  case rel => exact ⟨_, j + 1, by omega, by go_num, rfl, HNew.out.1, HNew.out.2, HBf.out⟩
                  case measure => simp [intOf]; omega
            · have hjW : j = Wd := by omega
              have e0 := add_ok S4 ⟨#[10]⟩ (by show S4.size + 1 ≤ _; omega)
              have HNew := hide (show (S4 ++ ⟨#[10]⟩).data.toList = S.data.toList ++ ((T.states.take (m + 1)).flatMap fun r => stateLine r ++ [10]) ∧ (S4 ++ ⟨#[10]⟩).size ≤ 1230 + (m + 1) * 200 by
                refine ⟨?_, ?_⟩
                · rw [cat_list, HS4.out, HS3.out, HTake.out, List.flatMap_append, show (r.map arrowText).take j = r.map arrowText from List.take_of_length_le (by rw [List.length_map, HRL.out, ← HWd.out]; omega)]
                  simp [stateLine]
                · rw [ByteArray.size_append]
                  show S4.size + 1 ≤ _
                  omega)
              go_wp2
              go_roundw
              case rel => exact ⟨S4 ++ ⟨#[10]⟩, m + 1, by omega, by go_num, rfl, HNew.out.1, HNew.out.2, HB4.out⟩
              case measure => simp [intOf]; omega
        · have HTm := hide (show T.states.take m = T.states from List.take_of_length_le (by rw [HN.out]; omega))
          have HRes := hide (show S3.data.toList = enc T by
            rw [HS3.out, HS.out, HTm.out, enc, Tbl.lines, HC.out, HN.out, List.flatMap_append, List.flatMap_map, List.flatMap_map]
            simp)
          go_wp2
          go_ret
          exact ⟨S3, rfl, HRes.out, HB3.out⟩

end Go.Proofs.YtnecjeambpikdaaGreatDoor
