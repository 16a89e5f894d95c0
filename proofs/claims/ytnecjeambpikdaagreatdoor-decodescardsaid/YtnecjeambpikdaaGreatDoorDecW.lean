import Derived.Test.YtnecjeambpikdaaGreatDoorDecT
import Derived.Deep.LoopGhost
import Derived.Deep.CutBlock
import Derived.Deep.DeepCutAuto
namespace Go.Proofs.YtnecjeambpikdaaGreatDoor
open Go.RowKit

set_option maxHeartbeats 32000000 in
set_option maxRecDepth 100000 in
theorem decodeB_walk (s : ByteArray) (w : World) (hE : Env w) : Calls Tryz.prog 5 #[.string s] w fun e w' => Dec5 s w e w' := by
  by_cases hs : 20000 < s.size
  · go_enter Tryz.func5, Tryz.ntmps5
    go_wp2
    go_ret2
    exact ⟨Below.refl _ _, .inl ⟨hs, rfl⟩⟩
  · have hs' : s.size ≤ 20000 := by omega
    obtain ⟨fb, hfb⟩ : ∃ b, b = w.heap.size := ⟨_, rfl⟩
    have HFB := hide hfb
    obtain ⟨w1, hw1⟩ : ∃ x, x = w.alloc (.cells #[.string s, .bool true] 50) := ⟨_, rfl⟩
    have H1 := hide (show HF w fb s s true w1 by rw [hw1, hfb]; exact ⟨heap_push_new w _, Nat.le_refl _, (Below.refl _ _).alloc (Nat.le_refl _) _⟩)
    have HEnv := hide hE
    clear hE
    go_enter Tryz.func5, Tryz.ntmps5
    go_wp2_with fail
    rw [← hw1, ← hfb]
    clear hw1 hfb
    refine (skip_walk fb s ⟨#[99, 108, 101, 97, 118, 101, 32]⟩ true w1 H1.out.f).mono ?_
    rintro e w2 ⟨rfl, hk⟩
    obtain ⟨S2, o2, f2, z2, _, g2, k2⟩ := (kn_start s).skip hk (fun _ _ T r _ h => rh1 T r h)
    have H2 := hide (H1.out.next HFB.out f2 z2 g2)
    have K2 := hide k2
    clear hk f2 z2 g2 k2 H1
    go_wp2_with fail
    refine (numB_walk 10 6 fb (.inl rfl) (by omega) S2 o2 w2 (by have := H2.out.z; omega) H2.out.f).mono ?_
    rintro e w3 ⟨k, rfl, hk⟩
    obtain ⟨hk6, S3, o3, f3, z3, _, g3, k3⟩ := K2.out.num hk (fun _ _ T r hT h => rh2 T r hT h)
    have H3 := hide (H2.out.next HFB.out f3 z3 g3)
    have K3 := hide k3
    clear hk f3 z3 g3 k3 H2 K2
    go_wp2_with fail
    refine (skip_walk fb S3 ⟨#[32]⟩ o3 w3 H3.out.f).mono ?_
    rintro e w4 ⟨rfl, hk⟩
    obtain ⟨S4, o4, f4, z4, _, g4, k4⟩ := K3.out.skip hk (fun _ _ T r _ h => rh3 k T r h)
    have H4 := hide (H3.out.next HFB.out f4 z4 g4)
    have K4 := hide k4
    clear hk f4 z4 g4 k4 H3 K3
    go_wp2_with fail
    refine (numB_walk 10 256 fb (.inl rfl) (by omega) S4 o4 w4 (by have := H4.out.z; omega) H4.out.f).mono ?_
    rintro e w5 ⟨n, rfl, hk⟩
    obtain ⟨hn, S5, o5, f5, z5, _, g5, k5⟩ := K4.out.num hk (fun _ _ T r hT h => rh4 k T r hT h)
    have H5 := hide (H4.out.next HFB.out f5 z5 g5)
    have K5 := hide k5
    clear hk f5 z5 g5 k5 H4 K4
    go_wp2_with fail
    refine (skip_walk fb S5 ⟨#[10]⟩ o5 w5 H5.out.f).mono ?_
    rintro e w6 ⟨rfl, hk⟩
    obtain ⟨S6, o6, f6, z6, _, g6, k6⟩ := K5.out.skip hk (fun _ _ T r _ h => rh5 k n T r h)
    have H6 := hide (H5.out.next HFB.out f6 z6 g6)
    have K6 := hide k6
    clear hk f6 z6 g6 k6 H5 K5
    have hc1 := row_cell H6.out.f (j := 1) rfl
    cases o6
    · have HNo := hide (show ∀ T, Valid T → s.data.toList ≠ enc T from fun T hV e => by have := (K6.out.cmp T hV.1 e).1; cases this)
      clear K6
      go_wp2
      go_ret2
      exact ⟨H6.out.b, .inr (.inl ⟨hs', HNo.out, rfl⟩)⟩
    by_cases hn0 : n = 0
    · subst hn0
      have HNo := hide (show ∀ T, Valid T → s.data.toList ≠ enc T from fun T hV e => by
        have h1 := (K6.out.cmp T hV.1 e).2.2.1
        have := hV.1.pos
        omega)
      clear K6
      go_wp2
      go_ret2
      exact ⟨H6.out.b, .inr (.inl ⟨hs', HNo.out, rfl⟩)⟩
    have bn : ((n : Int) == 0) = false := by rw [beq_eq_false_iff_ne]; omega
    have HK6 := hide (kc_start hk6 hn hn0 K6.out)
    clear K6
    obtain ⟨i55, hi55, ha0, ha1, ha2⟩ := info_parts info55
    obtain ⟨i57, hi57, hb0, hb1, hb2⟩ := info_parts info57
    have HI0 := hide (H6.out.start HK6.out)
    have hfb' : w.heap.size ≤ fb := by have := HFB.out; omega
    have htb : w.heap.size ≤ w6.heap.size := H6.out.b.size
    clear H6 HK6
    go_upto_block 0 with fail
    obtain ⟨w7, hw7⟩ : ∃ x, x = w6.alloc (.cells #[.slice none 0 0, .slice none 0 0, .slice none 0 0] 45) := ⟨_, rfl⟩
    rw [← hw7] at HI0 ⊢
    clear hw7 hc1
    generalize w6.heap.size = tb at *
    go_cut [8] (fun _ wx => ∃ cls v S ok, IC w fb tb s k n cls v S ok wx ∧ (ok = true → cls.length = k))
    case first =>
      go_wp2_with fail
      go_loopg [8] k (fun g iv wr => ∃ cls v S ok, iv = .int .i64 (cls.length : Int) ∧ g = k - cls.length ∧ cls.length ≤ k ∧ IC w fb tb s k n cls v S ok wr)
      case atStart => exact ⟨[], .slice none 0 0, S6, true, rfl, rfl, Nat.zero_le _, HI0.out⟩
      case round =>
        clear HI0
        obtain ⟨cls, v, S, ok, rfl, rfl, hck, hI⟩ := hrel
        obtain ⟨wo, rfl⟩ : ∃ x, x = wr := ⟨_, rfl⟩
        have HI := hide hI
        have c1 : wo.cell? ⟨fb, 1, none⟩ = some (.bool ok) := row_cell hI.f rfl
        clear hI
        by_cases hik : cls.length < k
        case neg =>
          go_wp2
          go_meet
          exact ⟨cls, v, S, ok, HI.out, fun _ => by omega⟩
        cases ok
        case false =>
          go_wp2
          go_meet
          exact ⟨cls, v, S, false, HI.out, by simp⟩
        obtain ⟨us, hul, hoc, hou⟩ := HI.out.c.oc
        obtain ⟨av, cv, hv, _, _⟩ := own_shape hoc
        subst hv
        have t0 : wo.cell? ⟨tb, 0, none⟩ = some (.slice av cls.length cv) := row_cell HI.out.c.hp rfl
        have hsz := HI.out.c.sz
        have HUL := hide hul
        have HOC := hide hoc
        have HOU := hide hou
        have HKR := hide (HI.out.k.begin_ hik)
        clear hul hoc hou
        go_upto_block 2 with (at_builtin; refine wpList_append_lies _ rfl (.tmp 59) (.tmp 61) 41 rfl w.heap.size 55 i55 (.agg #[.string ⟨#[]⟩, .slice none 0 0]) 2 40 Tryz.underlying41 hi55 ha0 ha1 ha2 rfl (by decide) _ cls.length (clc us) rfl (HOC.out.alloc _) ⟨wo.heap.size, 0, none⟩ 1 1 [.string ⟨#[]⟩, .slice none 0 0] rfl rfl (two_news wo _ _ 55) (two_cls _) (by omega) (by unfold maxLen; omega) (by omega) (by simp; omega) (wo.heap.size + 1) (by simp) ?_; intro g5 cap5 w5 hown5 hgrow5 hat5 hlt5; have hp5 := app_keep HOC.out hgrow5 HI.out.c.hp (fun c e1 => by injection e1 with _ e1; cases e1); have y0 : w5.cell? ⟨tb, 0, none⟩ = some (.slice av cls.length cv) := row_cell hp5 rfl; have y0f := row_free hp5 0; have HIR := hide (show IR w fb tb s k n cls [] us (.slice (some ⟨g5, 0, none⟩) (cls.length + 1) cap5) (.slice none 0 0) true S true (w5.setCell ⟨tb, 0, none⟩ (.slice (some ⟨g5, 0, none⟩) (cls.length + 1) cap5)) from ⟨feed_set (feed_app HI.out.f HOC.out hgrow5 (by decide)) hp5 (by decide), HI.out.z, HI.out.c.begin_ HUL.out HOC.out HOU.out hown5 hgrow5 htb, HKR.out⟩); clear hown5 hgrow5 hat5 hp5)
        clear HI HUL HOC HOU HKR y0 y0f c1 t0
        generalize w5.setCell ⟨tb, 0, none⟩ (.slice (some ⟨g5, 0, none⟩) (cls.length + 1) cap5) = w8 at *
        go_cut [9] (fun _ wx => ∃ more cur us lv v S ok, IR w fb tb s k n cls cur us v lv more S ok wx ∧ (ok = true → more = false))
        case first =>
          go_wp2_with fail
          go_loopg [9] 7 (fun g mv wr => ∃ more cur us lv gc cc S ok, mv = .bool more ∧ g = 7 - cur.length ∧ IR w fb tb s k n cls cur us (.slice (some ⟨gc, 0, none⟩) (cls.length + 1) cc) lv more S ok wr)
          case atStart => exact ⟨true, [], us, .slice none 0 0, g5, cap5, S, true, rfl, rfl, HIR.out⟩
          case round =>
            clear HIR
            obtain ⟨more, cur, us2, lv, gc, cc, S1, ok, rfl, rfl, hI⟩ := hrel
            obtain ⟨wi, rfl⟩ : ∃ x, x = wr := ⟨_, rfl⟩
            have HI := hide hI
            have c1 : wi.cell? ⟨fb, 1, none⟩ = some (.bool ok) := row_cell hI.f rfl
            clear hI
            cases more
            case false =>
              go_wp2
              go_meet
              exact ⟨false, cur, us2, lv, _, S1, ok, HI.out, fun _ => rfl⟩
            cases ok
            case false =>
              go_wp2
              go_meet
              exact ⟨true, cur, us2, lv, _, S1, false, HI.out, by simp⟩
            have hc6 : cur.length ≤ 6 := (HI.out.k.snd rfl).1.2.2.1
            obtain ⟨al, cl', hlv, _, _⟩ := own_shape HI.out.c.ol
            subst hlv
            have t0 : wi.cell? ⟨tb, 0, none⟩ = some (.slice (some ⟨gc, 0, none⟩) (cls.length + 1) cc) := row_cell HI.out.c.hp rfl
            have t1 := HI.out.c.cell.1
            have z1 : wi.frozen? ⟨fb, 1, none⟩ = false := row_free HI.out.f 1
            have hci : (cls.length : Int) < (cls.length : Int) + 1 := by omega
            go_upto_if 81 with fail
            go_cut [] (fun wx => ∃ okx, IM w fb tb s cls cur us2 (.slice (some ⟨gc, 0, none⟩) (cls.length + 1) cc) (.slice al cur.length cl') none 0 0 S1 okx (hd k n ++ restC cls ++ txt cur true) (AL k n cls cur) (RL0 k n cls cur) wx)
            case first =>
              by_cases h6 : cur.length < 6
              · go_wp2
                go_meet
                exact ⟨true, HI.out.mid.know (HI.out.k.more h6)⟩
              · go_wp2
                go_meet
                exact ⟨false, HI.out.mid.bad hfb' (HI.out.k.six (by omega))⟩
            case rest =>
              obtain ⟨ok1, hM⟩ := hcut
              clear HI c1 t0 t1 z1
              have HM2 := hide hM.make
              clear hM
              go_wp2_with fail
              obtain ⟨w2, hw2⟩ : ∃ x, x = wc.alloc (.cells #[.int .i64 0, .int .i64 0] 57) := ⟨_, rfl⟩
              rw [← hw2] at HM2 ⊢
              clear hw2
              generalize wc.heap.size = q at *
              refine (numB_walk 16 1114111 fb (.inr rfl) (by omega) S1 ok1 w2 (by have := HM2.out.z; omega) HM2.out.f).mono ?_
              rintro e w3 ⟨lo, rfl, hk⟩
              obtain ⟨hlo, S3, o3, hM3⟩ := HM2.out.num hfb' hk (fun _ _ T r hT h => rl1 k n cls cur T r hT h)
              have q0 : w3.cell? ⟨q, 0, none⟩ = some (.int .i64 0) := row_cell (hM3.x q rfl).2 rfl
              have q0f := row_free (hM3.x q rfl).2 0
              have HM3 := hide (hM3.setLo lo)
              clear hk hM3 HM2
              go_wp2_with fail
              clear q0 q0f
              generalize w3.setCell ⟨q, 0, none⟩ (.int .i64 (lo : Int)) = w4 at *
              refine (skip_walk fb S3 ⟨#[45]⟩ o3 w4 HM3.out.f).mono ?_
              rintro e w5 ⟨rfl, hk⟩
              obtain ⟨S5, o5, hM5⟩ := HM3.out.skip hfb' hk (fun _ _ T r _ h => rl2 k n cls cur lo T r h)
              have HM5 := hide hM5
              clear hk hM5 HM3
              go_wp2_with fail
              refine (numB_walk 16 1114111 fb (.inr rfl) (by omega) S5 o5 w5 (by have := HM5.out.z; omega) HM5.out.f).mono ?_
              rintro e w6 ⟨hi, rfl, hk⟩
              obtain ⟨hhi, S6, o6, hM6⟩ := HM5.out.num hfb' hk (fun _ _ T r hT h => rl3 k n cls cur lo T r hT h)
              have q1 : w6.cell? ⟨q, 1, none⟩ = some (.int .i64 0) := row_cell (hM6.x q rfl).2 rfl
              have q1f := row_free (hM6.x q rfl).2 1
              have HM6 := hide (hM6.setHi hi)
              clear hk hM6 HM5
              go_upto_region 24 with fail
              clear q1 q1f
              generalize w6.setCell ⟨q, 1, none⟩ (.int .i64 (hi : Int)) = w7 at *
              have q0 : w7.cell? ⟨q, 0, none⟩ = some (.int .i64 (lo : Int)) := row_cell (HM6.out.x q rfl).2 rfl
              have q1 : w7.cell? ⟨q, 1, none⟩ = some (.int .i64 (hi : Int)) := row_cell (HM6.out.x q rfl).2 rfl
              have z1 : w7.frozen? ⟨fb, 1, none⟩ = false := row_free HM6.out.f 1
              have c1 : w7.cell? ⟨fb, 1, none⟩ = some (.bool o6) := row_cell HM6.out.f rfl
              obtain ⟨sb, hsb⟩ : ∃ b, b = !spanOk lo hi := ⟨_, rfl⟩
              have HSB := hide hsb
              clear hsb
              go_cut [118] (fun c wx => c = .bool sb ∧ wx = w7)
              case first =>
                by_cases b1 : hi < lo
                · have e1 : decide ((hi : Int) < (lo : Int)) = true := by simp; omega
                  go_wp2
                  go_meet
                  exact ⟨by rw [HSB.out, span_not (.inl b1)]; rfl, rfl⟩
                have e1 : decide ((hi : Int) < (lo : Int)) = false := by simp; omega
                by_cases b2 : 55296 ≤ lo
                · have e2 : decide (55296 ≤ (lo : Int)) = true := by simp; omega
                  by_cases b3 : lo ≤ 57343
                  · have e3 : decide ((lo : Int) ≤ 57343) = true := by simp; omega
                    go_wp2
                    go_meet
                    exact ⟨by rw [HSB.out, span_not (.inr (.inl ⟨b2, b3⟩))]; rfl, rfl⟩
                  · have e3 : decide ((lo : Int) ≤ 57343) = false := by simp; omega
                    have e4 : decide (55296 ≤ (hi : Int)) = true := by simp; omega
                    have e5 : decide ((hi : Int) ≤ 57343) = false := by simp; omega
                    go_wp2
                    go_meet
                    exact ⟨by rw [HSB.out, span_yes b1 (by omega) (by omega) hlo hhi]; rfl, rfl⟩
                · have e2 : decide (55296 ≤ (lo : Int)) = false := by simp; omega
                  by_cases b4 : 55296 ≤ hi
                  · have e4 : decide (55296 ≤ (hi : Int)) = true := by simp; omega
                    by_cases b5 : hi ≤ 57343
                    · have e5 : decide ((hi : Int) ≤ 57343) = true := by simp; omega
                      go_wp2
                      go_meet
                      exact ⟨by rw [HSB.out, span_not (.inr (.inr ⟨b4, b5⟩))]; rfl, rfl⟩
                    · have e5 : decide ((hi : Int) ≤ 57343) = false := by simp; omega
                      go_wp2
                      go_meet
                      exact ⟨by rw [HSB.out, span_yes b1 (by omega) (by omega) hlo hhi]; rfl, rfl⟩
                  · have e4 : decide (55296 ≤ (hi : Int)) = false := by simp; omega
                    go_wp2
                    go_meet
                    exact ⟨by rw [HSB.out, span_yes b1 (by omega) (by omega) hlo hhi]; rfl, rfl⟩
              case rest =>
                obtain ⟨rfl, rfl⟩ := hcut
                go_upto_if 118 with fail
                go_cut [] (fun wx => ∃ okx, IM w fb tb s cls cur us2 (.slice (some ⟨gc, 0, none⟩) (cls.length + 1) cc) (.slice al cur.length cl') (some q) lo hi S6 okx (hd k n ++ restC cls ++ txt cur true ++ spanText (lo, hi)) (AL k n cls cur ∧ spanOk lo hi = true) (RL3 k n cls cur lo hi) wx)
                case first =>
                  cases sb
                  · have HP := hide (HM6.out.know (k3_good HM6.out.k (by have := HSB.out; revert this; cases spanOk lo hi <;> simp)))
                    go_wp2
                    go_meet
                    exact ⟨o6, HP.out⟩
                  · have HP := hide (HM6.out.bad hfb' (k3_bad HM6.out.k (by have := HSB.out; revert this; cases spanOk lo hi <;> simp)))
                    go_wp2
                    go_meet
                    exact ⟨false, HP.out⟩
                case rest =>
                  obtain ⟨ok8, hM8⟩ := hcut
                  clear HM6 q0 q1 z1 c1 HSB
                  have HM8 := hide hM8
                  have t0 : wc.cell? ⟨tb, 0, none⟩ = some (.slice (some ⟨gc, 0, none⟩) (cls.length + 1) cc) := row_cell hM8.c.hp rfl
                  have t1 := hM8.c.cell.1
                  have t1f := hM8.c.cell.2
                  have q0 : wc.cell? ⟨q, 0, none⟩ = some (.int .i64 (lo : Int)) := row_cell (hM8.x q rfl).2 rfl
                  have q1 : wc.cell? ⟨q, 1, none⟩ = some (.int .i64 (hi : Int)) := row_cell (hM8.x q rfl).2 rfl
                  have hsz8 := hM8.c.sz
                  have hne := hM8.ne
                  clear hM8
                  go_upto_region 26 with fail
                  go_cut [] (fun wx => ∃ g9 cap9, IM w fb tb s cls (cur ++ [(lo, hi)]) us2 (.slice (some ⟨gc, 0, none⟩) (cls.length + 1) cc) (.slice (some ⟨g9, 0, none⟩) (cur.length + 1) cap9) none 0 0 S6 ok8 (hd k n ++ restC cls ++ txt cur true ++ spanText (lo, hi)) (AL k n cls cur ∧ spanOk lo hi = true) (RL3 k n cls cur lo hi) wx)
                  case first =>
                    have q0b : (wc.alloc (.cells #[.int .i64 (lo : Int), .int .i64 (hi : Int)] 57)).cell? ⟨tb, 0, none⟩ = some (.slice (some ⟨gc, 0, none⟩) (cls.length + 1) cc) := by rw [World.cell?_alloc_lt _ _ _ (World.block_lt_of_cell? wc _ t0)]; exact t0
                    have q0c : (wc.alloc (.cells #[.int .i64 (lo : Int), .int .i64 (hi : Int)] 57)).cell? ⟨gc, cls.length * 2 + 1, none⟩ = some (.slice al cur.length cl') := by rw [World.cell?_alloc_lt _ _ _ (World.block_lt_of_cell? wc _ t1)]; exact t1
                    refine wp_region_held_drew (S := fun w' => w'.cell? ⟨tb, 0, none⟩ = some (.slice (some ⟨gc, 0, none⟩) (cls.length + 1) cc) ∧ w'.cell? ⟨q, 0, none⟩ = some (.int .i64 (lo : Int)) ∧ w'.cell? ⟨q, 1, none⟩ = some (.int .i64 (hi : Int))) (by kernel_rfl) ⟨t0, q0, q1⟩ (fun hHeld => ?_)
                    refine' wpAnyH_take (i := 0) (v := _) rfl (by kernel_rfl) (by kernel_rfl) (by kernel_rfl) (fun _ _ _ h => h) (Or.inl ⟨by rfl, ?hy0⟩) (by assumption) ?re0
                    case hy0 => (intro w hSw; (try dsimp only at hSw); go_simp; first | done | with_reducible rfl)
                    (try simp only [Act.put]); (try simp only [List.setIfInBounds_toArray]); (try simp only [List.set_cons_zero]); (try simp only [List.set_cons_succ])
                    refine' wpAnyH_take (i := 1) (v := _) rfl (by kernel_rfl) (by kernel_rfl) (by kernel_rfl) (fun _ _ _ h => h) (Or.inl ⟨by rfl, ?hy1⟩) (by assumption) ?re1
                    case hy1 => (intro w hSw; (try dsimp only at hSw); go_simp; first | done | with_reducible rfl)
                    (try simp only [Act.put]); (try simp only [List.setIfInBounds_toArray]); (try simp only [List.set_cons_zero]); (try simp only [List.set_cons_succ])
                    refine' wpAnyH_take (i := 2) (v := _) rfl (by kernel_rfl) (by kernel_rfl) (by kernel_rfl) (fun _ _ _ h => h) (Or.inl ⟨by rfl, ?hy2⟩) (by assumption) ?re2
                    case hy2 => (intro w hSw; (try dsimp only at hSw); go_simp; first | done | with_reducible rfl)
                    (try simp only [Act.put]); (try simp only [List.setIfInBounds_toArray]); (try simp only [List.set_cons_zero]); (try simp only [List.set_cons_succ])
                    refine' wpAnyH_take (i := 3) (v := _) rfl (by kernel_rfl) (by kernel_rfl) (by kernel_rfl) (fun _ _ _ h => h) (Or.inl ⟨by rfl, ?hy3⟩) (by assumption) ?re3
                    case hy3 => (intro w hSw; (try dsimp only at hSw); go_simp; first | done | with_reducible rfl)
                    (try simp only [Act.put]); (try simp only [List.setIfInBounds_toArray]); (try simp only [List.set_cons_zero]); (try simp only [List.set_cons_succ])
                    refine' wpAnyH_take (i := 4) (v := _) rfl (by kernel_rfl) (by kernel_rfl) (by kernel_rfl) (fun _ _ _ h => h) (Or.inl ⟨by rfl, ?hy4⟩) (by assumption) ?re4
                    case hy4 => (intro w hSw; (try dsimp only at hSw); go_simp; first | done | with_reducible rfl)
                    (try simp only [Act.put]); (try simp only [List.setIfInBounds_toArray]); (try simp only [List.set_cons_zero]); (try simp only [List.set_cons_succ])
                    refine' wpAnyH_take (i := 5) (v := _) rfl (by kernel_rfl) (by kernel_rfl) (by kernel_rfl) (fun _ _ _ h => h) (Or.inl ⟨by rfl, ?hy5⟩) (by assumption) ?re5
                    case hy5 => (intro w hSw; (try dsimp only at hSw); go_simp; first | done | with_reducible rfl)
                    (try simp only [Act.put]); (try simp only [List.setIfInBounds_toArray]); (try simp only [List.set_cons_zero]); (try simp only [List.set_cons_succ])
                    refine' wpAnyH_take (i := 6) (v := _) rfl (by kernel_rfl) (by kernel_rfl) (by kernel_rfl) (fun _ _ _ h => h) (Or.inl ⟨by rfl, ?hy6⟩) (by assumption) ?re6
                    case hy6 => (intro w hSw; (try dsimp only at hSw); go_simp; first | done | with_reducible rfl)
                    (try simp only [Act.put]); (try simp only [List.setIfInBounds_toArray]); (try simp only [List.set_cons_zero]); (try simp only [List.set_cons_succ])
                    refine' wpAnyH_take (i := 7) (v := _) rfl (by kernel_rfl) (by kernel_rfl) (by kernel_rfl) (fun _ _ _ h => h) (Or.inl ⟨by rfl, ?hy7⟩) (by assumption) ?re7
                    case hy7 => (intro w hSw; (try dsimp only at hSw); go_simp; first | done | with_reducible rfl)
                    (try simp only [Act.put]); (try simp only [List.setIfInBounds_toArray]); (try simp only [List.set_cons_zero]); (try simp only [List.set_cons_succ])
                    refine' wpAnyH_take (i := 8) (v := _) rfl (by kernel_rfl) (by kernel_rfl) (by kernel_rfl) (fun _ _ _ h => h) (Or.inl ⟨by rfl, ?hy8⟩) (by assumption) ?re8
                    case hy8 => (intro w hSw; (try dsimp only at hSw); go_simp; first | done | with_reducible rfl)
                    (try simp only [Act.put]); (try simp only [List.setIfInBounds_toArray]); (try simp only [List.set_cons_zero]); (try simp only [List.set_cons_succ])
                    refine' wpAnyH_take (i := 9) (v := _) rfl (by kernel_rfl) (by kernel_rfl) (by kernel_rfl) (fun _ _ _ h => h) (Or.inl ⟨by rfl, ?hy9⟩) (by assumption) ?re9
                    case hy9 => (intro w hSw; (try dsimp only at hSw); go_simp; first | done | with_reducible rfl)
                    (try simp only [Act.put]); (try simp only [List.setIfInBounds_toArray]); (try simp only [List.set_cons_zero]); (try simp only [List.set_cons_succ])
                    refine' wpAnyH_take (i := 10) (v := _) rfl (by kernel_rfl) (by kernel_rfl) (by kernel_rfl) (fun _ _ _ h => h) (Or.inl ⟨by rfl, ?hy10⟩) (by assumption) ?re10
                    case hy10 => (intro w hSw; (try dsimp only at hSw); go_simp; first | done | with_reducible rfl)
                    (try simp only [Act.put]); (try simp only [List.setIfInBounds_toArray]); (try simp only [List.set_cons_zero]); (try simp only [List.set_cons_succ])
                    refine' wpAnyH_take (i := 11) (v := _) rfl (by kernel_rfl) (by kernel_rfl) (by kernel_rfl) (fun _ _ _ h => h) (Or.inl ⟨by rfl, ?hy11⟩) (by assumption) ?re11
                    case hy11 => (intro w hSw; (try dsimp only at hSw); go_simp; first | done | with_reducible rfl)
                    (try simp only [Act.put]); (try simp only [List.setIfInBounds_toArray]); (try simp only [List.set_cons_zero]); (try simp only [List.set_cons_succ])
                    refine' wpAnyH_take (i := 13) (v := _) rfl (by kernel_rfl) (by kernel_rfl) (by kernel_rfl) (fun _ _ _ h => h) (Or.inl ⟨by rfl, ?hy13⟩) (by assumption) ?re13
                    case hy13 => (intro w hSw; (try dsimp only at hSw); go_simp; first | done | with_reducible rfl)
                    (try simp only [Act.put]); (try simp only [List.setIfInBounds_toArray]); (try simp only [List.set_cons_zero]); (try simp only [List.set_cons_succ])
                    refine wpAnyH_ready (rs := [12, 14]) (by kernel_rfl) (by simp) ?_
                    refine AllReadyH.cons rfl (fun K hK => ?_) (AllReadyH.cons rfl (fun K hK => ?_) AllReadyH.nil)
                    · go_simp
                      refine hK.out _ _ (by assumption) (fun hHeld => ?_)
                      clear hK K
                      (try simp only [Act.put]); (try simp only [List.setIfInBounds_toArray]); (try simp only [List.set_cons_zero]); (try simp only [List.set_cons_succ])
                      refine wpAnyH_ready (rs := [14]) (by kernel_rfl) (by simp) ?_
                      refine AllReadyH.cons rfl (fun K hK => ?_) AllReadyH.nil
                      go_simp
                      refine hK.out _ _ (by refine ⟨?_, ?_, ?_⟩ <;> first | assumption | (simp only [World.drew]; assumption) | (go_keep)) (fun hHeld => ?_)
                      clear hK K
                      (try simp only [Act.put]); (try simp only [List.setIfInBounds_toArray]); (try simp only [List.set_cons_zero]); (try simp only [List.set_cons_succ])
                      refine wpAnyH_ready (rs := [15]) (by kernel_rfl) (by simp) ?_
                      refine AllReadyH.cons rfl (fun K hK => ?_) AllReadyH.nil
                      refine step_append_lies _ (by rfl) _ _ _ (by rfl) w.heap.size 57 i57 (.agg #[.int .i64 0, .int .i64 0]) 2 16 Tryz.underlying53 hi57 hb0 hb1 hb2 (by rfl) (by decide) _ cur.length (rngs .i64 cur) (by rfl) (by exact HM8.out.c.ol.alloc _) ⟨wc.heap.size, 0, none⟩ 1 1 [.int .i64 (lo : Int), .int .i64 (hi : Int)] (by rfl) (by rfl) (by exact two_news wc _ _ 57) (two_rng _ _) (by decide) (by unfold maxLen; omega) (by omega) (by simp; omega) (wc.heap.size + 1) (by simp) ?_
                      intro g9 cap9 w9 hown9 hgrow9 hat9 hlt9
                      obtain ⟨s9a, s9b, s9f, s9c, s9d⟩ := HM8.out.after (grown_drew hgrow9)
                      have HM9 := hide (HM8.out.pushed (grown_drew hgrow9) hown9 hat9 (by omega))
                      clear hown9 hgrow9 hat9
                      refine hK.out _ _ ⟨s9a, s9c, s9d⟩ (fun hHeld => ?_)
                      clear hK K
                      (try simp only [Act.put]); (try simp only [List.setIfInBounds_toArray]); (try simp only [List.set_cons_zero]); (try simp only [List.set_cons_succ])
                      refine' wpAnyH_take (i := 16) (v := _) rfl (by kernel_rfl) (by kernel_rfl) (by kernel_rfl) (fun _ _ _ h => h) (Or.inl ⟨by rfl, ?hy16a⟩) (by assumption) ?re16a
                      case hy16a => (intro w hSw; (try dsimp only at hSw); go_simp; first | done | with_reducible rfl)
                      (try simp only [Act.put]); (try simp only [List.setIfInBounds_toArray]); (try simp only [List.set_cons_zero]); (try simp only [List.set_cons_succ])
                      refine' wpAnyH_take (i := 17) (v := _) rfl (by kernel_rfl) (by kernel_rfl) (by kernel_rfl) (fun _ _ _ h => h) (Or.inl ⟨by rfl, ?hy17a⟩) (by assumption) ?re17a
                      case hy17a => (intro w hSw; (try dsimp only at hSw); go_simp; first | done | with_reducible rfl)
                      (try simp only [Act.put]); (try simp only [List.setIfInBounds_toArray]); (try simp only [List.set_cons_zero]); (try simp only [List.set_cons_succ])
                      refine wpAnyH_ready (rs := [18]) (by kernel_rfl) (by simp) ?_
                      refine AllReadyH.cons rfl (fun K hK => ?_) AllReadyH.nil
                      go_simp
                      refine hK.out _ _ ⟨(World.cell?_setCell_far _ _ _ _ hne.1).trans s9a, (World.cell?_setCell_far _ _ _ _ hne.2).trans s9c, (World.cell?_setCell_far _ _ _ _ hne.2).trans s9d⟩ (fun hHeld => ?_)
                      clear hK K
                      (try simp only [Act.put]); (try simp only [List.setIfInBounds_toArray]); (try simp only [List.set_cons_zero]); (try simp only [List.set_cons_succ])
                      refine wpAnyH_done (by kernel_rfl) ?_ _
                      go_wp2
                      go_meet
                      exact ⟨g9, cap9, HM9.out⟩
                    · go_simp
                      refine hK.out _ _ (by refine ⟨?_, ?_, ?_⟩ <;> first | assumption | (simp only [World.drew]; assumption) | (go_keep)) (fun hHeld => ?_)
                      clear hK K
                      (try simp only [Act.put]); (try simp only [List.setIfInBounds_toArray]); (try simp only [List.set_cons_zero]); (try simp only [List.set_cons_succ])
                      refine wpAnyH_ready (rs := [12]) (by kernel_rfl) (by simp) ?_
                      refine AllReadyH.cons rfl (fun K hK => ?_) AllReadyH.nil
                      go_simp
                      refine hK.out _ _ (by assumption) (fun hHeld => ?_)
                      clear hK K
                      (try simp only [Act.put]); (try simp only [List.setIfInBounds_toArray]); (try simp only [List.set_cons_zero]); (try simp only [List.set_cons_succ])
                      refine wpAnyH_ready (rs := [15]) (by kernel_rfl) (by simp) ?_
                      refine AllReadyH.cons rfl (fun K hK => ?_) AllReadyH.nil
                      refine step_append_lies _ (by rfl) _ _ _ (by rfl) w.heap.size 57 i57 (.agg #[.int .i64 0, .int .i64 0]) 2 16 Tryz.underlying53 hi57 hb0 hb1 hb2 (by rfl) (by decide) _ cur.length (rngs .i64 cur) (by rfl) (by exact HM8.out.c.ol.alloc _) ⟨wc.heap.size, 0, none⟩ 1 1 [.int .i64 (lo : Int), .int .i64 (hi : Int)] (by rfl) (by rfl) (by exact two_news wc _ _ 57) (two_rng _ _) (by decide) (by unfold maxLen; omega) (by omega) (by simp; omega) (wc.heap.size + 1) (by simp) ?_
                      intro g9 cap9 w9 hown9 hgrow9 hat9 hlt9
                      obtain ⟨s9a, s9b, s9f, s9c, s9d⟩ := HM8.out.after (grown_drew hgrow9)
                      have HM9 := hide (HM8.out.pushed (grown_drew hgrow9) hown9 hat9 (by omega))
                      clear hown9 hgrow9 hat9
                      refine hK.out _ _ ⟨s9a, s9c, s9d⟩ (fun hHeld => ?_)
                      clear hK K
                      (try simp only [Act.put]); (try simp only [List.setIfInBounds_toArray]); (try simp only [List.set_cons_zero]); (try simp only [List.set_cons_succ])
                      refine' wpAnyH_take (i := 16) (v := _) rfl (by kernel_rfl) (by kernel_rfl) (by kernel_rfl) (fun _ _ _ h => h) (Or.inl ⟨by rfl, ?hy16b⟩) (by assumption) ?re16b
                      case hy16b => (intro w hSw; (try dsimp only at hSw); go_simp; first | done | with_reducible rfl)
                      (try simp only [Act.put]); (try simp only [List.setIfInBounds_toArray]); (try simp only [List.set_cons_zero]); (try simp only [List.set_cons_succ])
                      refine' wpAnyH_take (i := 17) (v := _) rfl (by kernel_rfl) (by kernel_rfl) (by kernel_rfl) (fun _ _ _ h => h) (Or.inl ⟨by rfl, ?hy17b⟩) (by assumption) ?re17b
                      case hy17b => (intro w hSw; (try dsimp only at hSw); go_simp; first | done | with_reducible rfl)
                      (try simp only [Act.put]); (try simp only [List.setIfInBounds_toArray]); (try simp only [List.set_cons_zero]); (try simp only [List.set_cons_succ])
                      refine wpAnyH_ready (rs := [18]) (by kernel_rfl) (by simp) ?_
                      refine AllReadyH.cons rfl (fun K hK => ?_) AllReadyH.nil
                      go_simp
                      refine hK.out _ _ ⟨(World.cell?_setCell_far _ _ _ _ hne.1).trans s9a, (World.cell?_setCell_far _ _ _ _ hne.2).trans s9c, (World.cell?_setCell_far _ _ _ _ hne.2).trans s9d⟩ (fun hHeld => ?_)
                      clear hK K
                      (try simp only [Act.put]); (try simp only [List.setIfInBounds_toArray]); (try simp only [List.set_cons_zero]); (try simp only [List.set_cons_succ])
                      refine wpAnyH_done (by kernel_rfl) ?_ _
                      go_wp2
                      go_meet
                      exact ⟨g9, cap9, HM9.out⟩
                  case rest =>
                    obtain ⟨g9, cap9, hM9⟩ := hcut
                    have HM9 := hide hM9
                    have f0 : wc.cell? ⟨fb, 0, none⟩ = some (.string S6) := row_cell hM9.f rfl
                    clear hM9 HM8 t0 t1 t1f q0 q1 hne hsz8
                    by_cases hz : 0 < S6.size
                    · have e1 : decide (0 < (S6.size : Int)) = true := decide_eq_true (by omega)
                      by_cases h32 : S6[0] = 32
                      · have b3 : ((S6[0].toNat : Int) == 32) = true := by rw [h32]; rfl
                        have HH := hide (show S6.data.toList.head? = some 32 by rw [head_byte hz, h32])
                        clear h32
                        go_wp2_with fail
                        refine (skip_walk fb S6 ⟨#[32]⟩ ok8 wc HM9.out.f).mono ?_
                        rintro e w10 ⟨rfl, hk⟩
                        obtain ⟨S10, ok10, f10, z10, _, g10, k10⟩ := K3.blank (k := k) (n := n) (cls := cls) (cur := cur) (lo := lo) (hi := hi) HM9.out.k HH.out rfl hk
                        have HIR2 := hide (show IR w fb tb s k n cls (cur ++ [(lo, hi)]) us2 (.slice (some ⟨gc, 0, none⟩) (cls.length + 1) cc) (.slice (some ⟨g9, 0, none⟩) (cur.length + 1) cap9) true S10 ok10 w10 from ⟨f10, Nat.le_trans z10 HM9.out.z, HM9.out.c.feed HM9.out.f g10 hfb', k10⟩)
                        clear hk f10 z10 g10 k10 HM9
                        go_wp2
                        go_roundg (7 - (cur.length + 1))
                        case measure => omega
                        case rel => exact ⟨true, cur ++ [(lo, hi)], us2, _, gc, cc, S10, ok10, rfl, by rw [List.length_append, List.length_singleton], HIR2.out⟩
                      · have b3 : ((S6[0].toNat : Int) == 32) = false := by
                          rw [beq_eq_false_iff_ne]
                          intro e
                          apply h32
                          apply UInt8.toNat_inj.1
                          have : (32 : UInt8).toNat = 32 := rfl
                          omega
                        have HIR2 := hide (show IR w fb tb s k n cls (cur ++ [(lo, hi)]) us2 (.slice (some ⟨gc, 0, none⟩) (cls.length + 1) cc) (.slice (some ⟨g9, 0, none⟩) (cur.length + 1) cap9) false S6 ok8 wc from ⟨HM9.out.f, HM9.out.z, HM9.out.c, K3.none_ HM9.out.k (by rw [head_byte hz]; intro e; injection e with e; exact h32 e)⟩)
                        clear h32 HM9
                        go_wp2
                        go_roundg (7 - (cur.length + 1))
                        case measure => omega
                        case rel => exact ⟨false, cur ++ [(lo, hi)], us2, _, gc, cc, S6, ok8, rfl, by rw [List.length_append, List.length_singleton], HIR2.out⟩
                    · have e1 : decide (0 < (S6.size : Int)) = false := decide_eq_false (by omega)
                      have HIR2 := hide (show IR w fb tb s k n cls (cur ++ [(lo, hi)]) us2 (.slice (some ⟨gc, 0, none⟩) (cls.length + 1) cc) (.slice (some ⟨g9, 0, none⟩) (cur.length + 1) cap9) false S6 ok8 wc from ⟨HM9.out.f, HM9.out.z, HM9.out.c, K3.none_ HM9.out.k (by rw [List.eq_nil_of_length_eq_zero (show S6.data.toList.length = 0 by rw [← Lib.size_eq]; omega)]; simp)⟩)
                      clear HM9
                      go_wp2
                      go_roundg (7 - (cur.length + 1))
                      case measure => omega
                      case rel => exact ⟨false, cur ++ [(lo, hi)], us2, _, gc, cc, S6, ok8, rfl, by rw [List.length_append, List.length_singleton], HIR2.out⟩
        case rest =>
          obtain ⟨more, cur, us', lv, v', S8, ok8, hIR, hmo⟩ := hcut
          have HIR8 := hide hIR
          have HMO := hide hmo
          clear hIR hmo HIR
          go_wp2_with fail
          refine (skip_walk fb S8 ⟨#[10]⟩ ok8 wc HIR8.out.f).mono ?_
          rintro e w9 ⟨rfl, hk⟩
          obtain ⟨S9, ok9, f9, z9, _, g9, k9⟩ := HIR8.out.k.done HMO.out rfl hk
          have HIC := hide (show IC w fb tb s k n (cls ++ [cur]) v' S9 ok9 w9 from ⟨f9, Nat.le_trans z9 HIR8.out.z, (HIR8.out.c.feed HIR8.out.f g9 hfb').done, k9⟩)
          clear hk f9 z9 g9 k9 HIR8 HMO
          go_wp2
          go_roundg (k - (cls.length + 1))
          case measure => omega
          case rel => exact ⟨cls ++ [cur], v', S9, ok9, by rw [List.length_append, List.length_singleton]; go_num, by rw [List.length_append, List.length_singleton], by rw [List.length_append, List.length_singleton]; omega, HIC.out⟩
    case rest =>
      obtain ⟨cls, v, S, ok, hI, hok⟩ := hcut
      rename_i K hK
      exact hK _ _ (states_walk s w wc fb tb k n hs' HEnv hfb' htb hk6 hn hn0 cls v S ok hI hok)

end Go.Proofs.YtnecjeambpikdaaGreatDoor
