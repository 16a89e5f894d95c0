import Derived.Test.YtnecjeambpikdaaGreatDoorReadT
import Derived.BigQuiet
namespace Go.Proofs.YtnecjeambpikdaaGreatDoor
open Go.RowKit

/-- What readTable comes to. -/
def Read12 (s : ByteArray) (w : World) (e : Ending) (w' : World) : Prop := Below w.heap.size w w' ∧ ((e = .returned (.pointer none) ∧ ∀ T, Valid T → s.data.toList ≠ enc T) ∨
  (∃ tb T, e = .returned (.pointer (some ⟨tb, 0, none⟩)) ∧ Valid T ∧ s.data.toList = enc T ∧ TabAt w' w.heap.size tb T))
theorem read_no {s : ByteArray} {w w' : World} (hb : Below w.heap.size w w') (h : ∀ T, Valid T → s.data.toList = enc T → False) : Read12 s w (.returned (.pointer none)) w' := ⟨hb, .inl ⟨rfl, fun T hT e => h T hT e⟩⟩

theorem heap_three (w : World) (a b c : Obj) : (((w.alloc a).alloc b).alloc c).drew.heap[w.heap.size + 1 + 1]? = some c := by
  have := heap_push_new ((w.alloc a).alloc b) c
  rwa [show ((w.alloc a).alloc b).heap.size = w.heap.size + 1 + 1 by simp] at this
theorem below_three (w : World) (a b c : Obj) : Below w.heap.size w (((w.alloc a).alloc b).alloc c).drew := ((((Below.refl _ _).alloc (Nat.le_refl _) _).alloc (by simp) _).alloc (by simp; omega) _).drew
theorem own_new1 (w : World) (o : Obj) (base : Nat) (e : TypeId) (n : Nat) (Z : Array Value) (hZ : Z.size = n) (hb : base ≤ w.heap.size) (hn : n ≤ maxLen) : ((w.alloc o).alloc (.cells Z e)).ownsRow base e 1 (.slice (some ⟨w.heap.size + 1, 0, none⟩) n n) n Z.toList := by
  have := own_new (w.alloc o) base e n Z hZ (by simp; omega) hn
  rwa [show (w.alloc o).heap.size = w.heap.size + 1 by simp] at this
theorem fill_start {α : Type} {w : World} {base eo ei size : Nat} {enc : List α → List Value} {g N : Nat} {Z : Array Value} (hZ : Z.toList = List.replicate N (.slice none 0 0) ∧ Z.size = N) (h : w.ownsRow base eo 1 (.slice (some ⟨g, 0, none⟩) N N) N Z.toList) : Filling w base eo ei size enc g N [] :=
  ⟨Nat.zero_le _, [], rfl, by rw [hZ.1] at h; exact h, fun i l hl => by simp at hl⟩
theorem keep_set {w' : World} {tb lb gc i j k : Nat} {u v x : Value} (h1 : tb ≠ gc) (h2 : lb ≠ gc) (h : w'.cell? ⟨tb, i, none⟩ = some u ∧ w'.cell? ⟨lb, j, none⟩ = some v) :
    (w'.setCell ⟨gc, k, none⟩ x).cell? ⟨tb, i, none⟩ = some u ∧ (w'.setCell ⟨gc, k, none⟩ x).cell? ⟨lb, j, none⟩ = some v := by
  refine ⟨?_, ?_⟩
  · rw [World.cell?_of_block (heap_setCell_other w' ⟨gc, k, none⟩ tb x (by simpa using h1))]; exact h.1
  · rw [World.cell?_of_block (heap_setCell_other w' ⟨gc, k, none⟩ lb x (by simpa using h2))]; exact h.2

theorem tab_base {w : World} {base base' tb : Nat} {T : Tbl} (h : TabAt w base tb T) (hb : base' ≤ base) : TabAt w base' tb T := by
  obtain ⟨vc, vs, h1, h2, h3⟩ := h
  exact ⟨vc, vs, h1, h2.base hb, h3.base hb⟩

set_option maxHeartbeats 8000000 in
set_option maxRecDepth 100000 in
theorem read_walk (s : ByteArray) (hs : s.size ≤ 20000) (w : World) (hE : Env w) : Calls Tryz.prog 12 #[.string s] w fun e w' => Read12 s w e w' := by
  obtain ⟨i0, hi, hz0, hz1, hz2⟩ := info_parts info70
  obtain ⟨i3, hi3, hy0, hy1, hy2⟩ := info_parts info73
  have HE := hide hE
  have HS := hide (split_any 10 s (by omega) w hE)
  clear hE
  go_enter Tryz.func12, Tryz.ntmps12
  go_wp2_with fail
  refine HS.out.mono ?_
  rintro e w1 ⟨N0, parts, rfl, rfl, hN, hN1, hN2, hps, hpl⟩
  have HN := hide hN
  have HPS := hide hps
  have HPL := hide (show ∀ T, Bd T → s.data.toList = enc T → parts.map (·.data.toList) = headLine T.classes.length T.states.length :: T.lines ++ [[]] by
    intro T hT e
    exact hpl _ (by simp) hT.lines_no (by rw [e, enc_lines]))
  have HPC := hide (fun k p h => part_cell w parts k p h)
  have HB0 := hide (show Below w.heap.size w (w.alloc (.cells (parts.map Value.string).toArray 9)) from (Below.refl _ _).alloc (Nat.le_refl _) _)
  have hs1 : w.heap.size < (w.alloc (.cells (parts.map Value.string).toArray 9)).heap.size := by simp
  generalize w.alloc (.cells (parts.map Value.string).toArray 9) = w1 at *
  clear hN hps hpl HS
  have hp0 : parts[0]? = some (parts.getD 0 ByteArray.empty) := getD_some _ _ _ (by have := HN.out; omega)
  have hpz := HPS.out _ (List.mem_of_getElem? hp0)
  have hpc0 := HPC.out 0 _ hp0
  have HP0 := hide hp0
  clear hp0
  generalize parts.getD 0 ByteArray.empty = p0 at *
  go_wp2_with fail
  refine (head_walk p0 (by omega) w1 (HE.out.below HB0.out)).mono ?_
  rintro e w2 ⟨c, n, ok, rfl, hok, hcv, hb2⟩
  have HV := hide (show ∀ T, Bd T → s.data.toList = enc T → ok = true ∧ c = T.classes.length ∧ n = T.states.length ∧ N0 = 1 + c + n + 1 by
    intro T hT e
    have h1 := HPL.out T hT e
    have h2 : p0.data.toList = headLine T.classes.length T.states.length := by
      have := congrArg (·[0]?) h1
      simp only [List.getElem?_map, HP0.out, Option.map_some] at this
      rw [List.cons_append, List.getElem?_cons_zero] at this
      injection this
    obtain ⟨a1, a2, a3⟩ := hcv _ _ hT.cls hT.pos hT.sts h2
    have h3 := congrArg List.length h1
    rw [List.length_map, HN.out] at h3
    simp [Tbl.lines] at h3
    exact ⟨a1, a2, a3, by omega⟩)
  have HB2 := hide (below2 HB0.out hb2)
  have HB12 := hide hb2
  have hw2 : w.heap.size < w2.heap.size := Nat.lt_of_lt_of_le hs1 hb2.size
  clear hcv hb2
  cases ok
  · go_wp2
    go_ret
    exact read_no HB2.out (fun T hT e => Bool.noConfusion (HV.out T hT.1 e).1)
  · obtain ⟨hc6, hn1, hn256⟩ := hok rfl
    clear hok
    have HVT := hide (fun T hT e => (HV.out T hT e).2)
    clear HV
    by_cases hNN : N0 = 1 + c + n + 1
    · have bN : ((N0 : Int) != 1 + (c : Int) + (n : Int) + 1) = false := by rw [bne_eq_false_iff_eq]; omega
      have HNN := hide hNN
      clear hNN
      obtain ⟨Zc, hZc⟩ : ∃ Z, Z = madeCells (Value.slice none 0 0).cells (c * 1) := ⟨_, rfl⟩
      obtain ⟨Zs, hZs⟩ : ∃ Z, Z = madeCells (Value.slice none 0 0).cells (n * 1) := ⟨_, rfl⟩
      have hm1 : ∀ w', (Instr.makeSlice 62 (.int .i64 (c : Int)) (.int .i64 (c : Int))).run Tryz.prog w' = .ok (.slice (some ⟨w'.heap.size, 0, none⟩) c c) (w'.alloc (.cells Zc 70)) := by
        intro w'
        have := run_make (P := Tryz.prog) w' 62 70 i0 (.slice none 0 0) Tryz.underlying62 hi hz0 .i64 .i64 (c : Int) (c : Int) (by omega) (by omega) (by rw [hz2]; omega) (by omega)
        simp only [Int.toNat_natCast, hz1] at this
        rw [this, hZc]
      have hm2 : ∀ w', (Instr.makeSlice 63 (.int .i64 (n : Int)) (.int .i64 (n : Int))).run Tryz.prog w' = .ok (.slice (some ⟨w'.heap.size, 0, none⟩) n n) (w'.alloc (.cells Zs 73)) := by
        intro w'
        have := run_make (P := Tryz.prog) w' 63 73 i3 (.slice none 0 0) Tryz.underlying63 hi3 hy0 .i64 .i64 (n : Int) (n : Int) (by omega) (by omega) (by rw [hy2]; omega) (by omega)
        simp only [Int.toNat_natCast, hy1] at this
        rw [this, hZs]
      have HZc := hide (show Zc.toList = List.replicate c (.slice none 0 0) ∧ Zc.size = c by
        rw [hZc]; exact ⟨by rw [show (Value.slice none 0 0).cells = #[.slice none 0 0] from rfl, toList_madeCells_one]; simp, by rw [size_madeCells]; omega⟩)
      have HZs := hide (show Zs.toList = List.replicate n (.slice none 0 0) ∧ Zs.size = n by
        rw [hZs]; exact ⟨by rw [show (Value.slice none 0 0).cells = #[.slice none 0 0] from rfl, toList_madeCells_one]; simp, by rw [size_madeCells]; omega⟩)
      clear hZc hZs
      go_upto_region 5 with fail
      go_cut [7] (fun s7 wx => ∃ tb gc gs : Nat, s7 = .pointer (some ⟨tb, 0, none⟩) ∧ wx.heap[tb]? = some (.cells #[.slice (some ⟨gc, 0, none⟩) c c, .slice (some ⟨gs, 0, none⟩) n n] 65 (0, 0)) ∧
        Filling wx w1.heap.size 70 93 2 (rngs .i32) gc c [] ∧ Filling wx w1.heap.size 73 81 2 arrs gs n [] ∧ Below w2.heap.size w2 wx)
      case first =>
        go_region
        all_goals (go_wp2_with fail)
        all_goals go_meet
        · exact ⟨_, _, _, rfl, heap_three _ _ _ _, fill_start HZc.out (((own_new w2 w1.heap.size 70 c Zc HZc.out.2 HB12.out.size (by unfold maxLen; omega)).alloc _).alloc _), fill_start HZs.out ((own_new1 w2 _ w1.heap.size 73 n Zs HZs.out.2 HB12.out.size (by unfold maxLen; omega)).alloc _), below_three _ _ _ _⟩
        · exact ⟨_, _, _, rfl, heap_three _ _ _ _, fill_start HZc.out ((own_new1 w2 _ w1.heap.size 70 c Zc HZc.out.2 HB12.out.size (by unfold maxLen; omega)).alloc _), fill_start HZs.out (((own_new w2 w1.heap.size 73 n Zs HZs.out.2 HB12.out.size (by unfold maxLen; omega)).alloc _).alloc _), below_three _ _ _ _⟩
      case rest =>
        obtain ⟨tb, gc, gs, rfl, htb, hfc, hfs, hbx⟩ := hcut
        have HT := hide htb
        have HFC := hide hfc
        have HFS := hide hfs
        have HBX := hide (below2 HB12.out hbx)
        obtain ⟨cgc, hgc, hgcb⟩ := hfc.block
        obtain ⟨cgs, hgs, hgsb⟩ := hfs.block
        have HNE := hide (show tb ≠ gc ∧ tb ≠ gs ∧ w.heap.size ≠ gc ∧ w.heap.size ≠ gs from
          ⟨(fun e => by rw [e, hgc] at htb; cases htb), (fun e => by rw [e, hgs] at htb; cases htb), by omega, by omega⟩)
        have hq0 := row_cell htb (j := 0) rfl
        clear htb hfc hfs hbx hgc hgs hm1 hm2 HZc HZs
        go_wp2_with fail
        go_loopw [43] (fun i wr => ∃ r : List (List (Nat × Nat)), i = .int .i64 (r.length : Int) ∧ wr.heap[tb]? = some (.cells #[.slice (some ⟨gc, 0, none⟩) c c, .slice (some ⟨gs, 0, none⟩) n n] 65 (0, 0)) ∧
          Filling wr w1.heap.size 70 93 2 (rngs .i32) gc c r ∧ Filling wr w1.heap.size 73 81 2 arrs gs n [] ∧ (∀ x ∈ r, classOk x) ∧ (∀ T, Bd T → s.data.toList = enc T → r = T.classes.take r.length) ∧ Below w1.heap.size w1 wr) (fun i _ => c - (intOf i).toNat)
        case atStart => exact ⟨[], rfl, HT.out, HFC.out, HFS.out, by simp, by simp, HBX.out⟩
        case round =>
          obtain ⟨r, rfl, htb, hfc, hfs, hrok, hrc, hbr⟩ := hrel
          have hkc : r.length ≤ c := hfc.1
          have HT1 := hide htb
          have HFC1 := hide hfc
          have HFS1 := hide hfs
          have HOK := hide hrok
          have HRC := hide hrc
          have HBR := hide hbr
          have HER := hide (HE.out.below (below2 HB0.out hbr))
          have q0 := row_cell htb (j := 0) rfl
          clear hfc hfs hrok hrc hbr htb HFC HFS HT HBX hq0
          generalize hK : r.length = k at *
          have HK := hide hK
          clear hK
          by_cases hlt : k < c
          · have hp : parts[1 + k]? = some (parts.getD (1 + k) ByteArray.empty) := getD_some _ _ _ (by have := HN.out; have := HNN.out; omega)
            have hpz1 := HPS.out _ (List.mem_of_getElem? hp)
            have q1 : wr.cell? ⟨w.heap.size, 1 + k, none⟩ = some (.string (parts.getD (1 + k) ByteArray.empty)) := cell_later HBR.out (HPC.out (1 + k) _ hp)
            have HP := hide hp
            clear hp
            generalize parts.getD (1 + k) ByteArray.empty = p at *
            have hix : (1 : Int) + (k : Int) < (N0 : Int) := by have := HNN.out; omega
            have hix0 : (0 : Int) ≤ 1 + (k : Int) := by omega
            have htn : ((1 : Int) + (k : Int)).toNat = 1 + k := by omega
            have hwp : IntKind.i64.wrap ((1 : Int) + (k : Int)) = 1 + (k : Int) := by rw [IntKind.wrap_i64]; omega
            have SPC := hide (show Calls Tryz.prog 22 #[.string p] wr.drew fun e w'' => ∃ ao m cp l ok, e = .returned (.tuple #[.slice ao m cp, .bool ok]) ∧ (w''.cell? ⟨tb, 0, none⟩ = some (.slice (some ⟨gc, 0, none⟩) c c) ∧ w''.cell? ⟨w.heap.size, 1 + k, none⟩ = some (.string p)) ∧
                w''.cell? ⟨gc, k, none⟩ = some (.slice none 0 0) ∧ w''.frozen? ⟨gc, k, none⟩ = false ∧ Hid (w''.heap[tb]? = some (.cells #[.slice (some ⟨gc, 0, none⟩) c c, .slice (some ⟨gs, 0, none⟩) n n] 65 (0, 0)) ∧
                  Filling w'' w1.heap.size 70 93 2 (rngs .i32) gc c r ∧ Filling w'' w1.heap.size 73 81 2 arrs gs n [] ∧ (ok = true → w''.ownsRow w1.heap.size 93 2 (.slice ao m cp) l.length (rngs .i32 l) ∧ classOk l) ∧ (∀ l', classOk l' → p.data.toList = classLine l' → ok = true ∧ l = l') ∧ Below w1.heap.size w1 w'') by
              refine (spans_walk p (by omega) wr.drew (HER.out.below (Below.refl _ _).drew)).mono ?_
              rintro e w'' ⟨v, l, ok, rfl, ⟨ao, m, cp, rfl⟩, h1, h2, h3⟩
              have hb : Below wr.heap.size wr w'' := (Below.refl _ wr).drew.trans h3
              have hf := HFC1.out.below hb
              have hnx := hf.next (by rw [HK.out]; exact hlt)
              rw [HK.out] at hnx
              refine ⟨ao, m, cp, l, ok, rfl, ⟨cell_later hb q0, cell_later hb q1⟩, hnx.1, hnx.2, by rw [hb.block _ (lt_of_block HT1.out)]; exact HT1.out, hf, HFS1.out.below hb, fun h => ⟨own_base (h1 h).1 HBR.out.size, (h1 h).2⟩, h2, below2 HBR.out hb⟩)
            have K0 := hide (show wr.drew.cell? ⟨tb, 0, none⟩ = some (.slice (some ⟨gc, 0, none⟩) c c) ∧ wr.drew.cell? ⟨w.heap.size, 1 + k, none⟩ = some (.string p) from ⟨q0, q1⟩)
            go_wp2_with fail
            go_region_held3 (fun w' => w'.cell? ⟨tb, 0, none⟩ = some (.slice (some ⟨gc, 0, none⟩) c c) ∧ w'.cell? ⟨w.heap.size, 1 + k, none⟩ = some (.string p)) (first | exact K0.out | assumption | exact keep_set HNE.out.1 HNE.out.2.2.1 (by assumption))
              ((go_at_call 22; refine SPC.out.mono ?_; rintro e w' ⟨ao, m, cp, l, ok, rfl, hS, z1, z2, HX⟩))
            have HLine := hide (show ∀ T, Bd T → s.data.toList = enc T → ∃ cl, T.classes[k]? = some cl ∧ p.data.toList = classLine cl by
              intro T hT e
              exact line_class (HPL.out T hT e) (by have := HVT.out T hT e; omega) HP.out)
            have HGB := hide hgcb
            cases ok
            · have HNo := hide (show ∀ T, Valid T → s.data.toList = enc T → False by
                intro T hT e
                obtain ⟨cl, h1, h2⟩ := HLine.out T hT.1 e
                exact Bool.noConfusion (HX.out.2.2.2.2.1 cl (hT.1.each cl (List.mem_of_getElem? h1)) h2).1)
              have HBF := hide (show Below w.heap.size w (w'.setCell ⟨gc, k, none⟩ (.slice ao m cp)) from (below2 HB0.out HX.out.2.2.2.2.2).setCell (p := ⟨gc, k, none⟩) (Nat.le_trans (Nat.le_of_lt hs1) hgcb) _)
              go_wp2
              go_ret
              exact read_no HBF.out HNo.out
            · have HLo := hide (HX.out.2.2.2.1 rfl)
              have HFw := hide (show Filling (w'.setCell ⟨gc, k, none⟩ (.slice ao m cp)) w1.heap.size 70 93 2 (rngs .i32) gc c (r ++ [l]) by
                have := HX.out.2.1.put (by rw [HK.out]; exact hlt) (by decide) HLo.out.1
                rw [HK.out] at this
                exact this)
              have HFx := hide (show Filling (w'.setCell ⟨gc, k, none⟩ (.slice ao m cp)) w1.heap.size 73 81 2 arrs gs n [] by
                obtain ⟨cg, hg, _⟩ := HX.out.2.1.block
                exact HX.out.2.2.1.turn hg (by decide) (by decide))
              have HTw := hide (show (w'.setCell ⟨gc, k, none⟩ (.slice ao m cp)).heap[tb]? = some (.cells #[.slice (some ⟨gc, 0, none⟩) c c, .slice (some ⟨gs, 0, none⟩) n n] 65 (0, 0)) by
                rw [heap_setCell_other _ ⟨gc, k, none⟩ tb _ (by simpa using HNE.out.1)]; exact HX.out.1)
              have HCw := hide (show ∀ T, Bd T → s.data.toList = enc T → r ++ [l] = T.classes.take (k + 1) by
                intro T hT e
                obtain ⟨cl, h1, h2⟩ := HLine.out T hT e
                have h3 := (HX.out.2.2.2.2.1 cl (hT.each cl (List.mem_of_getElem? h1)) h2).2
                rw [take_step h1, ← h3, ← HRC.out T hT e])
              have HBw := hide (show Below w1.heap.size w1 (w'.setCell ⟨gc, k, none⟩ (.slice ao m cp)) from HX.out.2.2.2.2.2.setCell (p := ⟨gc, k, none⟩) hgcb _)
              clear HX HRC HFC1 HFS1 HT1 HBR
              go_wp2
              go_roundw
              case rel =>
                refine ⟨r ++ [l], by have := HK.out; rw [List.length_append, this]; go_num, HTw.out, HFw.out, HFx.out, ?_, ?_, HBw.out⟩
                · intro x hx
                  rw [List.mem_append, List.mem_singleton] at hx
                  rcases hx with hx | rfl
                  · exact HOK.out x hx
                  · exact HLo.out.2
                · intro T hT e
                  rw [List.length_append, HK.out, List.length_singleton]
                  exact HCw.out T hT e
              case measure => simp [intOf]; omega
          · have hkc2 : k = c := by omega
            subst hkc2
            have HR1 := hide (show ∀ T, Bd T → s.data.toList = enc T → r = T.classes by
              intro T hT e
              have h1 := HRC.out T hT e
              have h2 := HVT.out T hT e
              rw [h2.1, List.take_length] at h1
              exact h1)
            have q2 := row_cell HT1.out (j := 1) rfl
            clear HRC
            go_wp2_with fail
            go_loopw [69] (fun i wr => ∃ r2 : List (List (Nat × Bool)), i = .int .i64 (r2.length : Int) ∧ wr.heap[tb]? = some (.cells #[.slice (some ⟨gc, 0, none⟩) k k, .slice (some ⟨gs, 0, none⟩) n n] 65 (0, 0)) ∧
              Filling wr w1.heap.size 70 93 2 (rngs .i32) gc k r ∧ Filling wr w1.heap.size 73 81 2 arrs gs n r2 ∧ (∀ x ∈ r2, rowOk (k + 1) x) ∧ (∀ T, Bd T → s.data.toList = enc T → r2 = T.states.take r2.length) ∧ Below w1.heap.size w1 wr) (fun i _ => n - (intOf i).toNat)
            case atStart => exact ⟨[], rfl, HT1.out, HFC1.out, HFS1.out, by simp, by simp, HBR.out⟩
            case round =>
              obtain ⟨r2, rfl, htb, hfc, hfs, hrok, hrc, hbr⟩ := hrel
              have hjn : r2.length ≤ n := hfs.1
              have HT2 := hide htb
              have HFC2 := hide hfc
              have HFS2 := hide hfs
              have HOK2 := hide hrok
              have HRC2 := hide hrc
              have HBR2 := hide hbr
              have HER2 := hide (HE.out.below (below2 HB0.out hbr))
              have x1 := row_cell htb (j := 1) rfl
              clear hfc hfs hrok hrc hbr htb HFC1 HFS1 HT1 HBR HER q0 q2
              generalize hJ : r2.length = j at *
              have HJ := hide hJ
              clear hJ
              by_cases hlt2 : j < n
              · have hp : parts[1 + k + j]? = some (parts.getD (1 + k + j) ByteArray.empty) := getD_some _ _ _ (by have := HN.out; have := HNN.out; omega)
                have hpz1 := HPS.out _ (List.mem_of_getElem? hp)
                have x2 : wr.cell? ⟨w.heap.size, 1 + k + j, none⟩ = some (.string (parts.getD (1 + k + j) ByteArray.empty)) := cell_later HBR2.out (HPC.out (1 + k + j) _ hp)
                have HP := hide hp
                clear hp
                generalize parts.getD (1 + k + j) ByteArray.empty = p at *
                have hix : (1 : Int) + (k : Int) + (j : Int) < (N0 : Int) := by have := HNN.out; omega
                have hix0 : (0 : Int) ≤ 1 + (k : Int) + (j : Int) := by omega
                have htn : ((1 : Int) + (k : Int) + (j : Int)).toNat = 1 + k + j := by omega
                have hwp : IntKind.i64.wrap ((1 : Int) + (k : Int)) = 1 + (k : Int) := by rw [IntKind.wrap_i64]; omega
                have hwp2 : IntKind.i64.wrap ((1 : Int) + (k : Int) + (j : Int)) = 1 + (k : Int) + (j : Int) := by rw [IntKind.wrap_i64]; omega
                have hwp3 : IntKind.i64.wrap ((k : Int) + 1) = (k : Int) + 1 := by rw [IntKind.wrap_i64]; omega
                have SPC := hide (show Calls Tryz.prog 23 #[.string p, .int .i64 ((k : Int) + 1)] wr.drew fun e w'' => ∃ ao m cp l ok, e = .returned (.tuple #[.slice ao m cp, .bool ok]) ∧ (w''.cell? ⟨tb, 1, none⟩ = some (.slice (some ⟨gs, 0, none⟩) n n) ∧ w''.cell? ⟨w.heap.size, 1 + k + j, none⟩ = some (.string p)) ∧
                    w''.cell? ⟨gs, j, none⟩ = some (.slice none 0 0) ∧ w''.frozen? ⟨gs, j, none⟩ = false ∧ Hid (w''.heap[tb]? = some (.cells #[.slice (some ⟨gc, 0, none⟩) k k, .slice (some ⟨gs, 0, none⟩) n n] 65 (0, 0)) ∧
                      Filling w'' w1.heap.size 70 93 2 (rngs .i32) gc k r ∧ Filling w'' w1.heap.size 73 81 2 arrs gs n r2 ∧ (ok = true → w''.ownsRow w1.heap.size 81 2 (.slice ao m cp) l.length (arrs l) ∧ rowOk (k + 1) l) ∧ (∀ l', rowOk (k + 1) l' → p.data.toList = stateLine l' → ok = true ∧ l = l') ∧ Below w1.heap.size w1 w'') by
                  refine (arrows_walk p (by omega) (k + 1) (by omega) (by omega) wr.drew (HER2.out.below (Below.refl _ _).drew)).mono ?_
                  rintro e w'' ⟨v, l, ok, rfl, ⟨ao, m, cp, rfl⟩, h1, h2, h3⟩
                  have hb : Below wr.heap.size wr w'' := (Below.refl _ wr).drew.trans h3
                  have hf := HFS2.out.below hb
                  have hnx := hf.next (by rw [HJ.out]; exact hlt2)
                  rw [HJ.out] at hnx
                  refine ⟨ao, m, cp, l, ok, rfl, ⟨cell_later hb x1, cell_later hb x2⟩, hnx.1, hnx.2, by rw [hb.block _ (lt_of_block HT2.out)]; exact HT2.out, HFC2.out.below hb, hf, fun h => ⟨own_base (h1 h).1 HBR2.out.size, (h1 h).2⟩, h2, below2 HBR2.out hb⟩)
                have K0 := hide (show wr.drew.cell? ⟨tb, 1, none⟩ = some (.slice (some ⟨gs, 0, none⟩) n n) ∧ wr.drew.cell? ⟨w.heap.size, 1 + k + j, none⟩ = some (.string p) from ⟨x1, x2⟩)
                go_wp2_with fail
                go_region_held3 (fun w' => w'.cell? ⟨tb, 1, none⟩ = some (.slice (some ⟨gs, 0, none⟩) n n) ∧ w'.cell? ⟨w.heap.size, 1 + k + j, none⟩ = some (.string p)) (first | exact K0.out | assumption | exact keep_set HNE.out.2.1 HNE.out.2.2.2 (by assumption))
                  ((go_at_call 23; refine SPC.out.mono ?_; rintro e w' ⟨ao, m, cp, l, ok, rfl, hS, z1, z2, HX⟩))
                have HLine := hide (show ∀ T, Bd T → s.data.toList = enc T → ∃ cl, T.states[j]? = some cl ∧ p.data.toList = stateLine cl by
                  intro T hT e
                  have hv := HVT.out T hT e
                  exact line_state (HPL.out T hT e) (by omega) (by rw [← hv.1]; exact HP.out))
                have HRow := hide (show ∀ T, Bd T → s.data.toList = enc T → ∀ cl ∈ T.states, rowOk (k + 1) cl by
                  intro T hT e cl hcl
                  have hv := HVT.out T hT e
                  exact ⟨by rw [(hT.row cl hcl).1, ← hv.1], hT.arrow cl hcl⟩)
                cases ok
                · have HNo := hide (show ∀ T, Valid T → s.data.toList = enc T → False by
                    intro T hT e
                    obtain ⟨cl, h1, h2⟩ := HLine.out T hT.1 e
                    exact Bool.noConfusion (HX.out.2.2.2.2.1 cl (HRow.out T hT.1 e cl (List.mem_of_getElem? h1)) h2).1)
                  have HBF := hide (show Below w.heap.size w (w'.setCell ⟨gs, j, none⟩ (.slice ao m cp)) from (below2 HB0.out HX.out.2.2.2.2.2).setCell (p := ⟨gs, j, none⟩) (Nat.le_trans (Nat.le_of_lt hs1) hgsb) _)
                  go_wp2
                  go_ret
                  exact read_no HBF.out HNo.out
                · have HLo := hide (HX.out.2.2.2.1 rfl)
                  have HFw := hide (show Filling (w'.setCell ⟨gs, j, none⟩ (.slice ao m cp)) w1.heap.size 73 81 2 arrs gs n (r2 ++ [l]) by
                    have := HX.out.2.2.1.put (by rw [HJ.out]; exact hlt2) (by decide) HLo.out.1
                    rw [HJ.out] at this
                    exact this)
                  have HFx := hide (show Filling (w'.setCell ⟨gs, j, none⟩ (.slice ao m cp)) w1.heap.size 70 93 2 (rngs .i32) gc k r by
                    obtain ⟨cg, hg, _⟩ := HX.out.2.2.1.block
                    exact HX.out.2.1.turn hg (by decide) (by decide))
                  have HTw := hide (show (w'.setCell ⟨gs, j, none⟩ (.slice ao m cp)).heap[tb]? = some (.cells #[.slice (some ⟨gc, 0, none⟩) k k, .slice (some ⟨gs, 0, none⟩) n n] 65 (0, 0)) by
                    rw [heap_setCell_other _ ⟨gs, j, none⟩ tb _ (by simpa using HNE.out.2.1)]; exact HX.out.1)
                  have HCw := hide (show ∀ T, Bd T → s.data.toList = enc T → r2 ++ [l] = T.states.take (j + 1) by
                    intro T hT e
                    obtain ⟨cl, h1, h2⟩ := HLine.out T hT e
                    have h3 := (HX.out.2.2.2.2.1 cl (HRow.out T hT e cl (List.mem_of_getElem? h1)) h2).2
                    rw [take_step h1, ← h3, ← HRC2.out T hT e])
                  have HBw := hide (show Below w1.heap.size w1 (w'.setCell ⟨gs, j, none⟩ (.slice ao m cp)) from HX.out.2.2.2.2.2.setCell (p := ⟨gs, j, none⟩) hgsb _)
                  clear HX HRC2 HFC2 HFS2 HT2 HBR2
                  go_wp2
                  go_roundw
                  case rel =>
                    refine ⟨r2 ++ [l], by have := HJ.out; rw [List.length_append, this]; go_num, HTw.out, HFx.out, HFw.out, ?_, ?_, HBw.out⟩
                    · intro x hx
                      rw [List.mem_append, List.mem_singleton] at hx
                      rcases hx with hx | rfl
                      · exact HOK2.out x hx
                      · exact HLo.out.2
                    · intro T hT e
                      rw [List.length_append, HJ.out, List.length_singleton]
                      exact HCw.out T hT e
                  case measure => simp [intOf]; omega
              · have hjn2 : j = n := by omega
                subst hjn2
                have HR2 := hide (show ∀ T, Bd T → s.data.toList = enc T → r2 = T.states by
                  intro T hT e
                  have h1 := HRC2.out T hT e
                  have h2 := HVT.out T hT e
                  rw [h2.2.1, List.take_length] at h1
                  exact h1)
                have HRw := hide (show Rows2 wr w1.heap.size 73 81 2 arrs (.slice (some ⟨gs, 0, none⟩) j j) r2 from HFS2.out.full HJ.out)
                have HTab := hide (show TabAt wr w1.heap.size tb ⟨r, r2⟩ from ⟨_, _, HT2.out, HFC2.out.full HK.out, HRw.out⟩)
                have HBw0 := hide (below2 HB0.out HBR2.out)
                clear HRC2 HFC2 HFS2 HT2
                go_wp2_with fail
                refine (come_walk r2 w1.heap.size _ wr HRw.out (by rw [HJ.out]; omega) (by rw [HJ.out]; omega) (fun x hx => ⟨by rw [(HOK2.out x hx).1]; omega, by rw [(HOK2.out x hx).1]; omega, fun a ha => by have := (HOK2.out x hx).2 a ha; omega⟩)).mono ?_
                rintro e w3 ⟨rfl, hb3⟩
                have x3 := cell_later hb3 x1
                have HB3 := hide (below2 HBw0.out hb3)
                have HTab3 := hide (HTab.out.below hb3)
                have HRw3 := hide (HRw.out.below hb3 (Nat.le_refl _))
                have HE3 := hide (HE.out.below HB3.out)
                clear hb3
                cases hcome : asTheyCome r2
                · have HNo := hide (show ∀ T, Valid T → s.data.toList = enc T → False by
                    intro T hT e
                    have h1 := hT.2.1
                    rw [← HR2.out T hT.1 e, hcome] at h1
                    cases h1)
                  clear hcome
                  go_wp2
                  go_ret
                  exact read_no HB3.out HNo.out
                · have HCome := hide hcome
                  have HBd := hide (show Bd ⟨r, r2⟩ by
                    have h1 := come_lt hcome
                    refine ⟨?_, HOK.out, ?_, ?_, fun x hx => ⟨?_, h1 x hx⟩⟩
                    · show r.length ≤ 6; rw [HK.out]; exact hc6
                    · show 1 ≤ r2.length; rw [HJ.out]; exact hn1
                    · show r2.length ≤ 256; rw [HJ.out]; exact hn256
                    · show x.length = r.length + 1; rw [HK.out]; exact (HOK2.out x hx).1)
                  clear hcome
                  go_wp2_with fail
                  refine (few_walk r2 (k + 1) w1.heap.size _ w3 HRw3.out (by rw [HJ.out]; omega) (by rw [HJ.out]; omega) (by omega) (by omega) (fun x hx => ⟨(HOK2.out x hx).1, come_lt HCome.out x hx⟩)).mono ?_
                  rintro e w4 ⟨G, hG, rfl, hb4⟩
                  have HB4 := hide (below2 HB3.out hb4)
                  have HTab4 := hide (HTab3.out.below hb4)
                  have HE4 := hide (HE.out.below HB4.out)
                  clear hb4
                  have HG := hide hG
                  clear hG
                  cases hgr : decide (G = List.range r2.length)
                  · have HNo := hide (show ∀ T, Valid T → s.data.toList = enc T → False by
                      intro T hT e
                      have h1 := hT.2.2
                      rw [← HR2.out T hT.1 e] at h1
                      have h2 := HG.out.unique h1
                      rw [decide_eq_true h2] at hgr
                      cases hgr)
                    clear hgr
                    go_wp2
                    go_ret
                    exact read_no HB4.out HNo.out
                  · have HFin := hide (show IsFinal r2 (List.range r2.length) by
                      have h1 := of_decide_eq_true hgr
                      rw [← h1]; exact HG.out)
                    clear hgr
                    go_wp2_with fail
                    refine (written_walk ⟨r, r2⟩ HBd.out w1.heap.size tb w4 HE4.out HTab4.out).mono ?_
                    rintro e w5 ⟨rfl, hb5⟩
                    have HB5 := hide (below2 HB4.out hb5)
                    have HTab5 := hide (HTab4.out.below hb5)
                    clear hb5
                    obtain ⟨X, hX⟩ : ∃ X : ByteArray, X = ⟨(enc ⟨r, r2⟩).toArray⟩ := ⟨_, rfl⟩
                    have HXX := hide (show X.toList = enc ⟨r, r2⟩ by rw [hX]; exact ByteArray.toList_mk _)
                    rw [← hX]
                    clear hX
                    cases hcmp : (X.toList == s.toList)
                    · have HNo := hide (show ∀ T, Valid T → s.data.toList = enc T → False by
                        intro T hT e
                        have h1 := HR1.out T hT.1 e
                        have h2 := HR2.out T hT.1 e
                        rw [HXX.out, ByteArray.toList_eq, e, beq_eq_false_iff_ne] at hcmp
                        apply hcmp
                        rw [h1, h2])
                      go_wp2
                      go_ret
                      exact read_no HB5.out HNo.out
                    · have HEq := hide (show s.data.toList = enc ⟨r, r2⟩ by
                        rw [HXX.out, ByteArray.toList_eq, beq_iff_eq] at hcmp
                        exact hcmp.symm)
                      go_wp2
                      go_ret
                      exact ⟨HB5.out, .inr ⟨tb, ⟨r, r2⟩, rfl, ⟨HBd.out, HCome.out, HFin.out⟩, HEq.out, tab_base HTab5.out (Nat.le_of_lt hs1)⟩⟩
    · have bN : ((N0 : Int) != 1 + (c : Int) + (n : Int) + 1) = true := by rw [bne_iff_ne]; omega
      have HNo := hide (show ∀ T, Valid T → s.data.toList = enc T → False from fun T hT e => hNN (HVT.out T hT.1 e).2.2)
      go_wp2
      go_ret
      exact read_no HB2.out HNo.out

end Go.Proofs.YtnecjeambpikdaaGreatDoor
