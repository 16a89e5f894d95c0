/-
  The second half of the document's Decode: the states, and the test of its own text. Own work.
-/
import Derived.Test.YtnecjeambpikdaaGreatDoorDecS
import Derived.Deep.LoopGhost
import Derived.Deep.CutBlock
import Derived.Deep.DeepCutAuto
namespace Go.Proofs.YtnecjeambpikdaaGreatDoor
open Go.RowKit

/-- Does a piece of code begin with this region? -/
def beginsAt (id : Nat) : Code → Bool
  | .region i _ _ => i == id
  | .seq a _ => beginsAt id a
  | .block _ c => beginsAt id c
  | _ => false
/-- The rest of a row of statements, from the one that begins with this region. -/
def tailFrom (id : Nat) : Code → Option Code
  | .seq a b => match beginsAt id a with
    | true => some (.seq a b)
    | false => match tailFrom id b with
      | some c => some c
      | none => tailFrom id a
  | .block _ c => tailFrom id c
  | _ => none

set_option maxHeartbeats 32000000 in
set_option maxRecDepth 1000000 in
theorem states_walk (s : ByteArray) (w wc : World) (fb tb k n : Nat) (hs' : s.size ≤ 20000) (HEnv : Hid (Env w)) (hfb' : w.heap.size ≤ fb) (htb : w.heap.size ≤ tb) (hk6 : k ≤ 6) (hn : n ≤ 256) (hn0 : ¬ n = 0) (cls : List (List (Nat × Nat))) (v : Value) (S : ByteArray) (ok : Bool) (hI : IC w fb tb s k n cls v S ok wc) (hok : ok = true → cls.length = k)
    {sl1 sl8 sl9 sl10 sl11 sl12 sl13 sl14 sl15 sl16 sl17 sl18 sl19 sl20 sl21 sl22 sl23 sl24 sl25 sl26 sl27 sl28 sl29 sl30 sl31 sl32 sl33 sl34 sl35 sl36 sl37 sl38 sl39 sl40 sl41 sl42 sl43 sl44 sl45 sl46 sl47 sl48 sl49 sl50 sl51 sl52 sl53 sl54 sl55 sl56 sl57 sl58 sl59 sl60 sl61 sl62 sl63 sl64 sl65 sl66 sl67 sl68 sl69 sl70 sl71 sl72 sl73 sl74 sl75 sl76 sl77 sl78 sl79 sl80 sl81 sl82 sl83 sl84 sl85 sl86 sl87 sl88 sl89 sl90 sl91 sl92 sl93 sl94 sl95 sl96 sl97 sl98 sl99 sl100 sl101 sl102 sl103 sl104 sl105 sl106 sl107 sl108 sl109 sl110 sl111 sl112 sl113 sl114 sl115 sl116 sl117 sl118 sl119 sl120 sl121 sl122 sl123 sl124 sl125 sl126 sl127 sl128 sl129 sl130 sl131 sl132 sl133 sl134 sl135 sl136 sl137 sl138 sl139 sl140 sl141 sl142 sl143 sl144 sl145 sl146 sl147 sl148 sl149 sl150 sl151 sl152 sl153 sl154 sl155 sl156 sl157 sl158 sl159 sl160 sl161 sl162 sl163 sl164 sl165 sl166 sl167 sl168 sl169 sl170 sl171 sl172 sl173 sl174 sl175 sl176 sl177 sl178 sl179 sl180 sl181 sl182 sl183 sl184 sl185 sl186 sl187 sl188 sl189 sl190 sl191 sl192 sl193 sl194 sl195 sl196 sl197 sl198 sl199 sl200 sl201 sl202 sl203 sl204 sl205 sl206 sl207 sl208 sl209 sl210 sl211 sl212 sl213 sl214 sl215 sl216 sl217 sl218 sl219 sl220 sl221 sl222 sl223 sl224 sl225 sl226 sl227 sl228 sl229 sl230 sl231 sl232 sl233 sl234 sl235 sl236 sl237 sl238 sl239 sl240 sl241 sl242 sl243 sl244 sl245 sl246 sl247 sl248 sl249 sl250 sl251 sl252 sl253 sl254 sl255 : Value} :
    Code.wp Tryz.prog ((Tryz.f5.body.bind (tailFrom 31)).getD .skip) (bodyPost Tryz.prog Tryz.f5 fun e w' => Dec5 s w e w') ⟨#[.string s, sl1, .pointer none, .int .i64 0, .pointer (some ⟨fb, 0, none⟩), .int .i64 (k : Int), .int .i64 (n : Int), .pointer (some ⟨tb, 0, none⟩), sl8, sl9, sl10, sl11, sl12, sl13, sl14, sl15, sl16, sl17, sl18, sl19, sl20, sl21, sl22, sl23, sl24, sl25, sl26, sl27, sl28, sl29, sl30, sl31, sl32, sl33, sl34, sl35, sl36, sl37, sl38, sl39, sl40, sl41, sl42, sl43, sl44, sl45, sl46, sl47, sl48, sl49, sl50, sl51, sl52, sl53, sl54, sl55, sl56, sl57, sl58, sl59, sl60, sl61, sl62, sl63, sl64, sl65, sl66, sl67, sl68, sl69, sl70, sl71, sl72, sl73, sl74, sl75, sl76, sl77, sl78, sl79, sl80, sl81, sl82, sl83, sl84, sl85, sl86, sl87, sl88, sl89, sl90, sl91, sl92, sl93, sl94, sl95, sl96, sl97, sl98, sl99, sl100, sl101, sl102, sl103, sl104, sl105, sl106, sl107, sl108, sl109, sl110, sl111, sl112, sl113, sl114, sl115, sl116, sl117, sl118, sl119, sl120, sl121, sl122, sl123, sl124, sl125, sl126, sl127, sl128, sl129, sl130, sl131, sl132, sl133, sl134, sl135, sl136, sl137, sl138, sl139, sl140, sl141, sl142, sl143, sl144, sl145, sl146, sl147, sl148, sl149, sl150, sl151, sl152, sl153, sl154, sl155, sl156, sl157, sl158, sl159, sl160, sl161, sl162, sl163, sl164, sl165, sl166, sl167, sl168, sl169, sl170, sl171, sl172, sl173, sl174, sl175, sl176, sl177, sl178, sl179, sl180, sl181, sl182, sl183, sl184, sl185, sl186, sl187, sl188, sl189, sl190, sl191, sl192, sl193, sl194, sl195, sl196, sl197, sl198, sl199, sl200, sl201, sl202, sl203, sl204, sl205, sl206, sl207, sl208, sl209, sl210, sl211, sl212, sl213, sl214, sl215, sl216, sl217, sl218, sl219, sl220, sl221, sl222, sl223, sl224, sl225, sl226, sl227, sl228, sl229, sl230, sl231, sl232, sl233, sl234, sl235, sl236, sl237, sl238, sl239, sl240, sl241, sl242, sl243, sl244, sl245, sl246, sl247, sl248, sl249, sl250, sl251, sl252, sl253, sl254, sl255], []⟩ wc := by
  have HID0 := hide (hI.states hok)
  clear hI hok
  conv => arg 2; whnf
  let Q' : Exit → Act → World → Prop := bodyPost Tryz.prog Tryz.f5 fun e w' => Dec5 s w e w'
  show Code.wp Tryz.prog _ Q' _ _
  obtain ⟨wS, rfl⟩ : ∃ x, x = wc := ⟨_, rfl⟩
  obtain ⟨i3, hi3, hz0, hz1, hz2⟩ := info_parts info3
  obtain ⟨i4, hi4, ha0, ha1, ha2⟩ := info_parts info4
  obtain ⟨i33, hi33, hb0, hb1, hb2⟩ := info_parts info33
  obtain ⟨i58, hi58, hc0, hc1, hc2⟩ := info_parts info58
  have hn1 : (n : Int) - 1 = ((n - 1 : Nat) : Int) := by omega
  go_upto_block 4 with fail
  go_cut [11] (fun _ wx => ∃ rows vt vx S ok, ID w fb tb s cls v (.slice none 0 0) (.slice none 0 0) vt vx [] [] (rows.map (·.map Prod.fst)) (rows.map (·.map Prod.snd)) S ok (KS s.data.toList k n cls rows) wx ∧ (ok = true → rows.length = n))
  case first =>
    go_wp2_with fail
    go_loopg [11] n (fun g iv wr => ∃ rows vt vx S ok, iv = .int .i64 (rows.length : Int) ∧ g = n - rows.length ∧ rows.length ≤ n ∧ ID w fb tb s cls v (.slice none 0 0) (.slice none 0 0) vt vx [] [] (rows.map (·.map Prod.fst)) (rows.map (·.map Prod.snd)) S ok (KS s.data.toList k n cls rows) wr)
    case atStart => exact ⟨[], .slice none 0 0, .slice none 0 0, S, ok, rfl, rfl, Nat.zero_le _, HID0.out⟩
    case round =>
      clear HID0
      obtain ⟨rows, vt, vx, S1, ok1, rfl, rfl, hrn, hI⟩ := hrel
      obtain ⟨wo, rfl⟩ : ∃ x, x = wr := ⟨_, rfl⟩
      have HI := hide hI
      have c1 : wo.cell? ⟨fb, 1, none⟩ = some (.bool ok1) := row_cell hI.f rfl
      clear hI
      by_cases hin : rows.length < n
      case neg =>
        go_wp2
        go_meet
        exact ⟨rows, vt, vx, S1, ok1, HI.out, fun _ => by omega⟩
      cases ok1
      case false =>
        go_wp2
        go_meet
        exact ⟨rows, vt, vx, S1, false, HI.out, by simp⟩
      obtain ⟨oT, hoT⟩ : ∃ x, x = rows.map (·.map Prod.fst) := ⟨_, rfl⟩
      obtain ⟨oX, hoX⟩ : ∃ x, x = rows.map (·.map Prod.snd) := ⟨_, rfl⟩
      have HI1 := hide (show ID w fb tb s cls v (.slice none 0 0) (.slice none 0 0) vt vx [] [] oT oX S1 true (KA s.data.toList k n cls rows []) wo by rw [hoT, hoX]; exact HI.out.know (HI.out.k.begin_ hin))
      have hTl : oT.length ≤ 256 := by rw [hoT, List.length_map]; omega
      have hXl : oX.length ≤ 256 := by rw [hoX, List.length_map]; omega
      have HoT := hide hoT
      have HoX := hide hoX
      clear HI hoT hoX
      go_upto_block 6 with fail
      go_cut [12, 13, 14] (fun tv xv _ wx => ∃ row S ok, ID w fb tb s cls v tv xv vt vx (row.map Prod.fst) (row.map Prod.snd) oT oX S ok (KA s.data.toList k n cls rows row) wx ∧ (ok = true → row.length = k + 1) ∧ row.length ≤ k + 1)
      case first =>
        clear c1
        go_wp2_with fail
        go_loopg [12, 13, 14] (k + 1) (fun g tv xv cv wr => ∃ row S ok, cv = .int .i64 (row.length : Int) ∧ g = k + 1 - row.length ∧ row.length ≤ k + 1 ∧ ID w fb tb s cls v tv xv vt vx (row.map Prod.fst) (row.map Prod.snd) oT oX S ok (KA s.data.toList k n cls rows row) wr)
        case atStart => exact ⟨[], S1, true, rfl, rfl, Nat.zero_le _, HI1.out⟩
        case round =>
          clear HI1
          obtain ⟨row, S2, ok2, rfl, rfl, hrk, hI⟩ := hrel
          obtain ⟨wi, rfl⟩ : ∃ x, x = wr := ⟨_, rfl⟩
          have HI := hide hI
          have c1 : wi.cell? ⟨fb, 1, none⟩ = some (.bool ok2) := row_cell hI.f rfl
          clear hI
          by_cases hck : row.length ≤ k
          case neg =>
            go_wp2
            go_meet
            exact ⟨row, S2, ok2, HI.out, fun _ => by omega, hrk⟩
          cases ok2
          case false =>
            go_wp2
            go_meet
            exact ⟨row, S2, false, HI.out, by simp, hrk⟩
          obtain ⟨tl', htl⟩ : ∃ l, l = row.map Prod.fst := ⟨_, rfl⟩
          obtain ⟨xl, hxl⟩ : ∃ l, l = row.map Prod.snd := ⟨_, rfl⟩
          have hI2 := HI.out
          rw [← htl, ← hxl] at hI2
          have hTle : tl'.length ≤ 7 := by rw [htl, List.length_map]; omega
          have hXle : xl.length ≤ 7 := by rw [hxl, List.length_map]; omega
          have HTl := hide htl
          have HXl := hide hxl
          obtain ⟨at', ct, htv, _, _⟩ := own_shape hI2.d.ls.o2
          obtain ⟨ax, cx, hxv, _, _⟩ := own_shape hI2.d.ls.o3
          subst htv
          subst hxv
          have HI2 := hide hI2
          clear HI htl hxl hI2
          go_upto_if 182 with fail
          go_cut [] (fun wx => ∃ S ok, ID w fb tb s cls v (.slice at' tl'.length ct) (.slice ax xl.length cx) vt vx tl' xl oT oX S ok (KA0 s.data.toList k n cls rows row) wx)
          case first =>
            by_cases h0 : row.length = 0
            · have e0 : decide (0 < (row.length : Int)) = false := decide_eq_false (by omega)
              have HK0 := hide (show KA0 s.data.toList k n cls rows row S2 true by
                have h1 := List.eq_nil_of_length_eq_zero h0
                subst h1
                exact HI2.out.k.first)
              go_wp2
              go_meet
              exact ⟨S2, true, HI2.out.know HK0.out⟩
            · have e0 : decide (0 < (row.length : Int)) = true := decide_eq_true (by omega)
              have HNe := hide (show row ≠ [] from fun e => h0 (by rw [e]; rfl))
              go_wp2_with fail
              refine (skip_walk fb S2 ⟨#[32]⟩ true wi HI2.out.f).mono ?_
              rintro e w3 ⟨rfl, hk⟩
              obtain ⟨S3, o3, f3, z3, _, g3, k3⟩ := HI2.out.k.later (by omega) HNe.out rfl hk
              have HI3 := hide (HI2.out.move hfb' f3 z3 g3 k3)
              clear hk f3 z3 g3 k3 HI2
              go_wp2
              go_meet
              exact ⟨S3, o3, HI3.out⟩
          case rest =>
            obtain ⟨S3, o3, hI3⟩ := hcut
            have HI3 := hide hI3
            clear hI3 HI2 c1
            go_wp2_with fail
            refine (numB_walk 10 (n - 1) fb (.inl rfl) (by omega) S3 o3 _ (by have := HI3.out.z; omega) HI3.out.f).mono ?_
            rintro e w4 ⟨m, rfl, hk⟩
            obtain ⟨hm, S4, o4, f4, z4, _, g4, k4⟩ := Kn.num HI3.out.k hk (fun _ _ T r hT h => ra1 n (by omega) cls rows row T r hT h)
            have HI4 := hide (HI3.out.move (K' := KA1 s.data.toList k n cls rows row m) hfb' f4 z4 g4 k4)
            have hsz4 := HI4.out.d.ls.sz
            clear hk f4 z4 g4 k4 HI3
            go_upto_region 42 with (at_builtin; refine wpList_append_lies _ rfl (.tmp 185) (.tmp 190) 33 rfl w.heap.size 3 i3 (.int .i64 0) 1 8 Tryz.underlying33 hi3 hz0 hz1 hz2 rfl (by decide) _ tl'.length (ints tl') rfl (HI4.out.d.ls.o2.alloc _) ⟨w4.heap.size, 0, none⟩ 1 1 [.int .i64 (m : Int)] rfl rfl (one_news w4 _ 3) (one_int _) (by omega) (by unfold maxLen; omega) (by omega) (by simp; omega) (w4.heap.size + 1) (by simp) ?_; intro g5 cap5 w5 hown5 hgrow5 hat5 hlt5; have HI5 := hide (HI4.out.app_t hown5 hgrow5 hat5 (by omega)); clear hown5 hgrow5 hat5)
            have f50 : w5.cell? ⟨fb, 0, none⟩ = some (.string S4) := row_cell HI5.out.f rfl
            clear HI4 hsz4
            go_cut [15] (fun bv wx => ∃ b, bv = .bool b ∧ (b = true ↔ S4.data.toList.head? = some 47) ∧ wx = w5)
            case first =>
              by_cases hz : 0 < S4.size
              · have e1 : decide (0 < (S4.size : Int)) = true := decide_eq_true (by omega)
                by_cases h47 : S4[0] = 47
                · have b3 : ((S4[0].toNat : Int) == 47) = true := by rw [h47]; rfl
                  have HH := hide (show S4.data.toList.head? = some 47 by rw [head_byte hz, h47])
                  clear h47
                  go_wp2
                  go_meet
                  exact ⟨true, rfl, by simp [HH.out], rfl⟩
                · have b3 : ((S4[0].toNat : Int) == 47) = false := by
                    rw [beq_eq_false_iff_ne]
                    intro e
                    apply h47
                    apply UInt8.toNat_inj.1
                    have : (47 : UInt8).toNat = 47 := rfl
                    omega
                  have HH := hide (show S4.data.toList.head? ≠ some 47 by rw [head_byte hz]; intro e; injection e with e; exact h47 e)
                  clear h47
                  go_wp2
                  go_meet
                  exact ⟨false, rfl, by simp [HH.out], rfl⟩
              · have e1 : decide (0 < (S4.size : Int)) = false := decide_eq_false (by omega)
                have HH := hide (show S4.data.toList.head? ≠ some 47 by rw [List.eq_nil_of_length_eq_zero (show S4.data.toList.length = 0 by rw [← Lib.size_eq]; omega)]; simp)
                go_wp2
                go_meet
                exact ⟨false, rfl, by simp [HH.out], rfl⟩
            case rest =>
              obtain ⟨b, rfl, hb, hwx⟩ := hcut
              subst hwx
              have HB := hide hb
              clear hb f50
              go_upto_if 206 with fail
              go_cut [] (fun wx => ∃ S ok, ID w fb tb s cls v (.slice (some ⟨g5, 0, none⟩) (tl'.length + 1) cap5) (.slice ax xl.length cx) vt vx (tl' ++ [m]) xl oT oX S ok (KA s.data.toList k n cls rows (row ++ [(m, b)])) wx)
              case first =>
                cases b
                · go_wp2_with fail
                  refine (skip_walk fb S4 ⟨#[126]⟩ o4 _ HI5.out.f).mono ?_
                  rintro e w6 ⟨rfl, hk⟩
                  obtain ⟨S6, o6, f6, z6, _, g6, k6⟩ := HI5.out.k.mark hm (by omega) HB.out rfl hk
                  have HI6 := hide (HI5.out.move hfb' f6 z6 g6 k6)
                  clear hk f6 z6 g6 k6 HI5
                  go_wp2
                  go_meet
                  exact ⟨S6, o6, HI6.out⟩
                · go_wp2_with fail
                  refine (skip_walk fb S4 ⟨#[47]⟩ o4 _ HI5.out.f).mono ?_
                  rintro e w6 ⟨rfl, hk⟩
                  obtain ⟨S6, o6, f6, z6, _, g6, k6⟩ := KA1.mark (b := true) HI5.out.k hm (by omega) (by simpa using HB.out) rfl hk
                  have HI6 := hide (HI5.out.move hfb' f6 z6 g6 k6)
                  clear hk f6 z6 g6 k6 HI5
                  go_wp2
                  go_meet
                  exact ⟨S6, o6, HI6.out⟩
              case rest =>
                obtain ⟨S6, o6, hI6⟩ := hcut
                obtain ⟨w6, rfl⟩ : ∃ x, x = wc := ⟨_, rfl⟩
                have HI6 := hide hI6
                have hsz6 := hI6.d.ls.sz
                clear hI6 HI5 HB
                go_wp2_with (at_builtin; refine wpList_append_lies _ rfl (.tmp 211) (.tmp 213) 58 rfl w.heap.size 4 i4 (.bool false) 1 1 Tryz.underlying58 hi4 ha0 ha1 ha2 rfl (by decide) _ xl.length (bools xl) rfl (HI6.out.d.ls.o3.alloc _) ⟨w6.heap.size, 0, none⟩ 1 1 [.bool b] rfl rfl (one_news w6 _ 4) (one_bool _) (by omega) (by unfold maxLen; omega) (by omega) (by simp; omega) (w6.heap.size + 1) (by simp) ?_; intro g7 cap7 w7 hown7 hgrow7 hat7 hlt7; have HI7 := hide (HI6.out.app_x hown7 hgrow7 hat7 (by omega)); clear hown7 hgrow7 hat7)
                have HI8 := hide (show ID w fb tb s cls v (.slice (some ⟨g5, 0, none⟩) (tl'.length + 1) cap5) (.slice (some ⟨g7, 0, none⟩) (xl.length + 1) cap7) vt vx ((row ++ [(m, b)]).map Prod.fst) ((row ++ [(m, b)]).map Prod.snd) oT oX S6 o6 (KA s.data.toList k n cls rows (row ++ [(m, b)])) w7 by
                  have h := HI7.out
                  rw [List.map_append, List.map_append, ← HTl.out, ← HXl.out]
                  exact h)
                clear HI7 HI6
                go_roundg (k + 1 - (row.length + 1))
                case measure => omega
                case rel => exact ⟨row ++ [(m, b)], S6, o6, by rw [List.length_append, List.length_singleton]; go_num, by rw [List.length_append, List.length_singleton], by rw [List.length_append, List.length_singleton]; omega, HI8.out⟩
      case rest =>
        obtain ⟨row, S2, ok2, hI2, hrl, hrk⟩ := hcut
        obtain ⟨w2', rfl⟩ : ∃ x, x = wc := ⟨_, rfl⟩
        obtain ⟨at', ct, htv, _, _⟩ := own_shape hI2.d.ls.o2
        obtain ⟨ax, cx, hxv, _, _⟩ := own_shape hI2.d.ls.o3
        subst htv
        subst hxv
        have HI2 := hide hI2
        have HRL := hide hrl
        clear hI2 hrl HI1 c1
        go_wp2_with fail
        refine (skip_walk fb S2 ⟨#[10]⟩ ok2 _ HI2.out.f).mono ?_
        rintro e w3 ⟨rfl, hk⟩
        obtain ⟨S3, o3, f3, z3, _, g3, k3⟩ := HI2.out.k.done HRL.out rfl hk
        have HI3 := hide (HI2.out.move hfb' f3 z3 g3 k3)
        clear hk f3 z3 g3 k3 HI2 HRL
        obtain ⟨tl', htl⟩ : ∃ l, l = row.map Prod.fst := ⟨_, rfl⟩
        obtain ⟨xl, hxl⟩ : ∃ l, l = row.map Prod.snd := ⟨_, rfl⟩
        rw [← htl, ← hxl] at HI3
        rw [← htl, ← hxl]
        have HTl := hide htl
        have HXl := hide hxl
        obtain ⟨vs1, hv1, hu1⟩ := HI3.out.d.ls.r1
        obtain ⟨vs2', hv2', _⟩ := HI3.out.d.ls.r2
        obtain ⟨avt, cvt, hvt, _, _⟩ := own_shape hv1
        obtain ⟨avx, cvx, hvx, _, _⟩ := own_shape hv2'
        subst hvt
        subst hvx
        have HV1 := hide hv1
        have HU1 := hide hu1
        have z1 := row_cell HI3.out.d.ls.hp (j := 1) rfl
        have z2 := row_cell HI3.out.d.ls.hp (j := 2) rfl
        have hos := HI3.out.d.ls.sz
        clear hv1 hu1 hv2' htl hxl
        go_wp2_with (first
          | (at_builtin; refine wpList_append_lies _ rfl (.tmp 221) (.tmp 223) 42 rfl w.heap.size 33 i33 (.slice none 0 0) 1 24 Tryz.underlying42 hi33 hb0 hb1 hb2 rfl (by decide) _ oT.length vs1 rfl (HV1.out.alloc _) ⟨w3.heap.size, 0, none⟩ 1 1 [.slice at' tl'.length ct] rfl rfl (one_news w3 _ 33) (one_slice _ _ _) (by omega) (by unfold maxLen; omega) (by omega) (by simp; omega) (w3.heap.size + 1) (by simp) ?_; intro g5 cap5 w5 hown5 hgrow5 hat5 hlt5; have hp5 := HI3.out.d.ls.pgrow HV1.out hgrow5 (by decide); have y1 := row_cell hp5 (j := 1) rfl; have y1f := row_free hp5 1; have y2 := row_cell hp5 (j := 2) rfl; have hb5 := lt_of_block hp5; have HLT := hide (HI3.out.pushT HV1.out HU1.out hown5 hgrow5 htb); obtain ⟨vs2, hv2, hu2⟩ := HLT.out.d.ls.r2; have HV2 := hide hv2; have HU2 := hide hu2; clear hown5 hgrow5 hat5 hv2 hu2 hp5)
          | (at_builtin; refine wpList_append_lies _ rfl (.tmp 231) (.tmp 233) 43 rfl w.heap.size 58 i58 (.slice none 0 0) 1 24 Tryz.underlying43 hi58 hc0 hc1 hc2 rfl (by decide) _ oX.length vs2 rfl (HV2.out.alloc _) ⟨w5.heap.size, 0, none⟩ 1 1 [.slice ax xl.length cx] rfl rfl (by exact one_news_set w5 _ _ _ 58) (one_slice _ _ _) (by omega) (by unfold maxLen; omega) (by omega) (by have := HLT.out.d.ls.sz; simp at this ⊢; omega) (w5.heap.size + 1) (by simp) ?_; intro g6 cap6 w6 hown6 hgrow6 hat6 hlt6; have hp6 := HLT.out.d.ls.pgrow HV2.out hgrow6 (by decide); have y3 := row_cell hp6 (j := 2) rfl; have y3f := row_free hp6 2; have HLX := hide (HLT.out.pushX HV2.out HU2.out hown6 hgrow6 htb); clear hown6 hgrow6 hat6 hp6))
        have HI9 := hide (show ID w fb tb s cls v (.slice none 0 0) (.slice none 0 0) (.slice (some ⟨g5, 0, none⟩) (oT.length + 1) cap5) (.slice (some ⟨g6, 0, none⟩) (oX.length + 1) cap6) [] [] ((rows ++ [row]).map (·.map Prod.fst)) ((rows ++ [row]).map (·.map Prod.snd)) S3 o3 (KS s.data.toList k n cls (rows ++ [row])) (w6.setCell ⟨tb, 2, none⟩ (.slice (some ⟨g6, 0, none⟩) (oX.length + 1) cap6)) by
          have h := HLX.out
          simp only [List.map_append, List.map_cons, List.map_nil]
          rw [← HTl.out, ← HXl.out, ← HoT.out, ← HoX.out]
          exact h)
        clear HLX HLT HV2 HU2
        go_roundg (n - (rows.length + 1))
        case measure => omega
        case rel => exact ⟨rows ++ [row], _, _, S3, o3, by rw [List.length_append, List.length_singleton]; go_num, by rw [List.length_append, List.length_singleton], by rw [List.length_append, List.length_singleton]; omega, HI9.out⟩
  case rest =>
    obtain ⟨rows, vt, vx, S9, ok9, hI, hl⟩ := hcut
    obtain ⟨w9, rfl⟩ : ∃ x, x = wc := ⟨_, rfl⟩
    have HI := hide hI
    have HL := hide hl
    have c0 : w9.cell? ⟨fb, 0, none⟩ = some (.string S9) := row_cell hI.f rfl
    have c1 : w9.cell? ⟨fb, 1, none⟩ = some (.bool ok9) := row_cell hI.f rfl
    clear hI hl HID0
    cases ok9
    case false =>
      have HNo := hide (show ∀ T, Valid T → s.data.toList ≠ enc T from fun T hT => HI.out.k.no HL.out (by simp) T hT.1)
      go_wp2
      go_ret2
      exact ⟨HI.out.d.ls.bl, .inr (.inl ⟨hs', HNo.out, rfl⟩)⟩
    cases hE : S9.toList.isEmpty
    case false =>
      have HNo := hide (show ∀ T, Valid T → s.data.toList ≠ enc T from fun T hT => HI.out.k.no HL.out (fun _ e => by rw [ByteArray.toList_eq, e] at hE; cases hE) T hT.1)
      go_wp2
      go_ret2
      exact ⟨HI.out.d.ls.bl, .inr (.inl ⟨hs', HNo.out, rfl⟩)⟩
    obtain ⟨hBd, hEnc⟩ := HI.out.k.yes rfl (by rw [← ByteArray.toList_eq]; exact List.isEmpty_iff.1 hE) (HL.out rfl)
    have HBd := hide hBd
    have HEnc := hide hEnc
    have HTab := hide (show RTab w9 w.heap.size tb cls rows from HI.out.d.tab)
    have HBl := hide HI.out.d.ls.bl
    have hsz9 := HI.out.d.ls.sz
    clear hBd hEnc HI HL
    go_wp2_with fail
    refine (least_walk cls rows w.heap.size tb (cls.length + 1) w9 HTab.out hsz9 HBd.out.pos HBd.out.sts rfl HBd.out.cls (fun r hr => HBd.out.row r hr)).mono ?_
    rintro e w10 ⟨tb', kk, i, rfl, hfin, hcame, hlen, htab, hb10⟩
    have HV := hide (decode_valid HBd.out hfin hcame hlen)
    have HT2 := hide htab
    have HB10 := hide hb10
    obtain ⟨L, hL⟩ : ∃ L, L = (leastSt (groupsN rows (kk + 1)) rows i).2 := ⟨_, rfl⟩
    rw [← hL] at HV HT2
    clear hfin hcame hlen htab hb10 hL
    go_wp2_with fail
    refine (encB_walk ⟨cls, L⟩ HV.out.1 w.heap.size tb' w10 ((HEnv.out.below HBl.out).below HB10.out) HT2.out).mono ?_
    rintro e w11 ⟨X, rfl, hX, hb11⟩
    have HX := hide hX
    have HB11 := hide hb11
    have HBW := hide (show Below w.heap.size w w11 from below_trans' (below_trans' HBl.out HB10.out hsz9) HB11.out (Nat.le_trans hsz9 HB10.out.size))
    clear hX hb11
    cases hcmp : (X.toList == s.toList)
    · have HNo := hide (show ∀ T, Valid T → s.data.toList ≠ enc T by
        intro T hT e
        have hTT : T = ⟨cls, rows⟩ := enc_inj hT.1 HBd.out (by rw [← e, HEnc.out])
        subst hTT
        have h1 := HV.out.2.2 hT
        rw [← HX.out, ← HEnc.out] at h1
        rw [ByteArray.toList_eq, ByteArray.toList_eq, h1] at hcmp
        simp at hcmp)
      go_wp2
      go_ret2
      exact ⟨HBW.out, .inr (.inl ⟨hs', HNo.out, rfl⟩)⟩
    · have HVal := hide (show Valid ⟨cls, rows⟩ by
        refine HV.out.2.1 ?_
        rw [← HX.out, ← HEnc.out]
        rw [ByteArray.toList_eq, ByteArray.toList_eq, beq_iff_eq] at hcmp
        exact hcmp)
      go_wp2
      go_ret2
      exact ⟨HBW.out, .inr (.inr ⟨hs', tb, ⟨cls, rows⟩, rfl, HVal.out, HEnc.out, (HTab.out.below HB10.out).below HB11.out⟩)⟩

end Go.Proofs.YtnecjeambpikdaaGreatDoor
