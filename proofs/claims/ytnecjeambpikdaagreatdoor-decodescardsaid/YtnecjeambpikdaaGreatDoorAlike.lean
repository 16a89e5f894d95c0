import Derived.Test.YtnecjeambpikdaaGreatDoorProg
import Derived.Test.YtnecjeambpikdaaGreatDoorMem
import Derived.Test.YtnecjeambpikdaaGreatDoorPure
namespace Go.Proofs.YtnecjeambpikdaaGreatDoor
open Go.RowKit

/-- The classes of the document's table: each a name and a slice of ranges. -/
def ClsAt (w : World) (base : Nat) (v : Value) (cl : List (List (Nat × Nat))) : Prop :=
  ∃ us : List Value, us.length = cl.length ∧ w.ownsRow base 55 2 v cl.length (us.flatMap fun u => [.string ⟨#[]⟩, u]) ∧ ∀ (i : Nat) (l : List (Nat × Nat)), cl[i]? = some l → ∃ u, us[i]? = some u ∧ w.ownsRow base 57 2 u l.length (rngs .i64 l)
theorem ClsAt.below {w w' : World} {base : Nat} {v : Value} {cl : List (List (Nat × Nat))} (h : ClsAt w base v cl) (hb : Below w.heap.size w w') : ClsAt w' base v cl := by
  obtain ⟨us, h1, h2, h3⟩ := h
  exact ⟨us, h1, own_below h2 hb (Nat.le_refl _), fun i l hl => (h3 i l hl).elim fun u hu => ⟨u, hu.1, own_below hu.2 hb (Nat.le_refl _)⟩⟩
/-- The document's table in memory. -/
def RTab (w : World) (base tb : Nat) (cl : List (List (Nat × Nat))) (st : List (List (Nat × Bool))) : Prop :=
  ∃ vc vt vx, w.heap[tb]? = some (.cells #[vc, vt, vx] 45 (0, 0)) ∧ ClsAt w base vc cl ∧ Rows2 w base 33 3 1 ints vt (st.map (·.map Prod.fst)) ∧ Rows2 w base 58 4 1 bools vx (st.map (·.map Prod.snd))
theorem RTab.below {w w' : World} {base tb : Nat} {cl : List (List (Nat × Nat))} {st : List (List (Nat × Bool))} (h : RTab w base tb cl st) (hb : Below w.heap.size w w') : RTab w' base tb cl st := by
  obtain ⟨vc, vt, vx, h1, h2, h3, h4⟩ := h
  exact ⟨vc, vt, vx, by rw [hb.block _ (lt_of_block h1)]; exact h1, h2.below hb, h3.below hb (Nat.le_refl _), h4.below hb (Nat.le_refl _)⟩

/-- What is read of it: the row's two slices, and what lies there. -/
structure RRow (w : World) (gt gx i : Nat) (r : List (Nat × Bool)) (g1 g2 c1 c2 : Nat) : Prop where
  to : w.cell? ⟨gt, i, none⟩ = some (.slice (some ⟨g1, 0, none⟩) r.length c1)
  cut : w.cell? ⟨gx, i, none⟩ = some (.slice (some ⟨g2, 0, none⟩) r.length c2)
  toAt : ∀ j a, r[j]? = some a → w.cell? ⟨g1, j, none⟩ = some (.int .i64 (a.1 : Int))
  cutAt : ∀ j a, r[j]? = some a → w.cell? ⟨g2, j, none⟩ = some (.bool a.2)

theorem RTab.open_ {w : World} {base tb : Nat} {cl : List (List (Nat × Nat))} {st : List (List (Nat × Bool))} (h : RTab w base tb cl st) (hn : 0 < st.length) :
    ∃ vc gt gx capt capx, w.cell? ⟨tb, 0, none⟩ = some vc ∧ w.cell? ⟨tb, 1, none⟩ = some (.slice (some ⟨gt, 0, none⟩) st.length capt) ∧ w.cell? ⟨tb, 2, none⟩ = some (.slice (some ⟨gx, 0, none⟩) st.length capx) ∧ ClsAt w base vc cl ∧
      ∀ i r, st[i]? = some r → 0 < r.length → ∃ g1 g2 c1 c2, RRow w gt gx i r g1 g2 c1 c2 := by
  obtain ⟨vc, vt, vx, h1, h2, h3, h4⟩ := h
  obtain ⟨gt, capt, rfl, _, _, ht⟩ := h3.head (by simpa using hn)
  obtain ⟨gx, capx, rfl, _, _, hx⟩ := h4.head (by simpa using hn)
  refine ⟨vc, gt, gx, capt, capx, row_cell h1 rfl, by rw [row_cell h1 rfl]; simp, by rw [row_cell h1 rfl]; simp, h2, fun i r hr hr0 => ?_⟩
  obtain ⟨ao1, c1, t1, _, _, t2⟩ := ht i (r.map Prod.fst) (by rw [List.getElem?_map, hr]; rfl)
  obtain ⟨ao2, c2, x1, _, _, x2⟩ := hx i (r.map Prod.snd) (by rw [List.getElem?_map, hr]; rfl)
  obtain ⟨g1, k1, e1, _, _, _, _, q1, _⟩ := own_head t2 (by simpa using hr0)
  obtain ⟨g2, k2, e2, _, _, _, _, q2, _⟩ := own_head x2 (by simpa using hr0)
  injection e1 with e1 _ e1'
  injection e2 with e2 _ e2'
  subst e1 e2 e1' e2'
  refine ⟨g1, g2, c1, c2, by rw [t1, List.length_map], by rw [x1, List.length_map], fun j a ha => ?_, fun j a ha => ?_⟩
  · exact q1 j _ (ints_get _ _ _ (by rw [List.getElem?_map, ha]; rfl))
  · exact q2 j _ (bools_get _ _ _ (by rw [List.getElem?_map, ha]; rfl))

set_option maxHeartbeats 1000000 in
theorem width_any (tb C cap : Nat) (ao : Option Addr) (w : World) (hC : C ≤ 100) (h : w.cell? ⟨tb, 0, none⟩ = some (.slice ao C cap)) :
    Calls Tryz.prog 28 #[.pointer (some ⟨tb, 0, none⟩)] w fun e w' => e = .returned (.int .i64 ((C + 1 : Nat) : Int)) ∧ w' = w := by
  go_enter Tryz.func28, Tryz.ntmps28
  go_wp2
  go_ret
  exact ⟨ret_int (by push_cast; rfl), rfl⟩

theorem vw_get (r : List (Nat × Bool)) (p : List Nat) (j : Nat) (a : Nat × Bool) (h : r[j]? = some a) : (vw r p)[j]? = some (p.getD a.1 0, a.2) := by simp [vw, h]

set_option maxHeartbeats 4000000 in
set_option maxRecDepth 100000 in
theorem alike_walk (cl : List (List (Nat × Nat))) (st : List (List (Nat × Bool))) (p : List Nat) (a b base base2 tb W : Nat) (v : Value) (w : World) (ht : RTab w base tb cl st) (hp : w.ownsRow base2 3 1 v p.length (ints p)) (hpl : p.length = st.length) (hn : st.length ≤ 1000)
    (hW : W = cl.length + 1) (hcl : cl.length ≤ 6) (hst : ∀ r ∈ st, r.length = W ∧ ∀ x ∈ r, x.1 < st.length) (ra rb : List (Nat × Bool)) (hra : st[a]? = some ra) (hrb : st[b]? = some rb) :
    Calls Tryz.prog 47 #[.pointer (some ⟨tb, 0, none⟩), v, .int .i64 (a : Int), .int .i64 (b : Int)] w fun e w' => e = .returned (.bool (decide ((p.getD a 0, vw ra p) = (p.getD b 0, vw rb p)))) ∧ Below w.heap.size w w' := by
  have ha : a < st.length := by
    rcases Nat.lt_or_ge a st.length with h | h
    · exact h
    · rw [List.getElem?_eq_none h] at hra; cases hra
  have hb : b < st.length := by
    rcases Nat.lt_or_ge b st.length with h | h
    · exact h
    · rw [List.getElem?_eq_none h] at hrb; cases hrb
  obtain ⟨vc, gt, gx, capt, capx, t0, t1, t2, hcls, hrow⟩ := ht.open_ (by omega)
  obtain ⟨hla, haa⟩ := hst ra (List.mem_of_getElem? hra)
  obtain ⟨hlb, hbb⟩ := hst rb (List.mem_of_getElem? hrb)
  obtain ⟨g1, g2, c1, c2, Ra⟩ := hrow a ra hra (by omega)
  obtain ⟨g3, g4, c3, c4, Rb⟩ := hrow b rb hrb (by omega)
  obtain ⟨us, hus1, hus2, _⟩ := hcls
  obtain ⟨aoc, capc, rfl, _, _⟩ := own_shape hus2
  obtain ⟨gp, capp, rfl, _, _, _, _, hpc, _⟩ := own_head hp (by omega)
  have a1 := Ra.to
  have a2 := Ra.cut
  have b1 := Rb.to
  have b2 := Rb.cut
  rw [hla] at a1 a2
  rw [hlb] at b1 b2
  have HRa := hide Ra
  have HRb := hide Rb
  have HPC := hide (show ∀ j, j < st.length → w.cell? ⟨gp, j, none⟩ = some (.int .i64 ((p.getD j 0 : Nat) : Int)) from fun j hj => hpc j _ (ints_get p j _ (getD_some p j 0 (by omega))))
  have hpa := HPC.out a ha
  have hpb := HPC.out b hb
  have HLa := hide hla
  have HLb := hide hlb
  have HAA := hide haa
  have HBB := hide hbb
  have HPL := hide hpl
  rw [hpl]
  have C1 := hide (fun w' (h : w'.cell? ⟨tb, 0, none⟩ = some (.slice aoc cl.length capc)) => width_any tb cl.length capc aoc w' (by omega) h)
  have HW := hide hW
  clear Ra Rb hpc hla hlb haa hbb hpl hus1 hus2 hrow hst hp ht hra hrb
  generalize hL : cl.length = C at *
  have hCW : C + 1 = W := by omega
  rw [hCW] at C1
  have hW7 : W ≤ 7 := by omega
  have HWC := hide hCW
  clear hCW hL hW HW
  generalize hN : st.length = N at *
  clear hN
  by_cases hpe : p.getD a 0 = p.getD b 0
  · have bq : ((((p.getD a 0 : Nat) : Int)) != ((p.getD b 0 : Nat) : Int)) = false := by rw [hpe]; simp
    have HRes := hide (show decide ((p.getD a 0, vw ra p) = (p.getD b 0, vw rb p)) = decide (vw ra p = vw rb p) by rw [hpe]; simp)
    rw [HRes.out]
    clear HRes
    have HA2 := hide hpa
    have HB2 := hide hpb
    rw [hpe] at hpa
    generalize p.getD b 0 = pb at *
    clear hpe
    go_enter Tryz.func47, Tryz.ntmps47
    go_wp2_with fail
    go_quiet (fail)
    go_wp2_with fail
    go_loopw [9] (fun i wr => ∃ k : Nat, k ≤ W ∧ i = .int .i64 (k : Int) ∧ (vw ra p).take k = (vw rb p).take k ∧ Below w.heap.size w wr) (fun i _ => W - (intOf i).toNat)
    case atStart => exact ⟨0, Nat.zero_le _, rfl, rfl, below_drewN (Below.refl _ _) _⟩
    case round =>
      obtain ⟨k, hk, rfl, hpre, hbl⟩ := hrel
      have HP := hide hpre
      have HBl := hide hbl
      clear hpre hbl
      have q0 : wr.cell? ⟨tb, 0, none⟩ = some (.slice aoc C capc) := cell_later HBl.out t0
      have q1 : wr.cell? ⟨tb, 1, none⟩ = some (.slice (some ⟨gt, 0, none⟩) N capt) := cell_later HBl.out t1
      have q2 : wr.cell? ⟨tb, 2, none⟩ = some (.slice (some ⟨gx, 0, none⟩) N capx) := cell_later HBl.out t2
      go_wp2_with fail
      refine (C1.out wr q0).mono ?_
      rintro e w1 ⟨rfl, rfl⟩
      by_cases hlt : k < W
      · have hxa : ra[k]? = some (ra.getD k (0, false)) := getD_some _ _ _ (by have := HLa.out; omega)
        have hxb : rb[k]? = some (rb.getD k (0, false)) := getD_some _ _ _ (by have := HLb.out; omega)
        have hla := HAA.out _ (List.mem_of_getElem? hxa)
        have hlb := HBB.out _ (List.mem_of_getElem? hxb)
        have r1 := cell_later HBl.out a1
        have r2 := cell_later HBl.out a2
        have r3 := cell_later HBl.out b1
        have r4 := cell_later HBl.out b2
        have s1 := cell_later HBl.out (HRa.out.toAt k _ hxa)
        have s2 := cell_later HBl.out (HRa.out.cutAt k _ hxa)
        have s3 := cell_later HBl.out (HRb.out.toAt k _ hxb)
        have s4 := cell_later HBl.out (HRb.out.cutAt k _ hxb)
        have s5 := cell_later HBl.out (HPC.out _ hla)
        have s6 := cell_later HBl.out (HPC.out _ hlb)
        have HVa := hide (vw_get ra p k _ hxa)
        have HVb := hide (vw_get rb p k _ hxb)
        clear hxa hxb
        generalize ra.getD k (0, false) = xa at *
        generalize rb.getD k (0, false) = xb at *
        obtain ⟨xa, ca⟩ := xa
        obtain ⟨xb, cb⟩ := xb
        simp only at hla hlb s1 s2 s3 s4 s5 s6
        generalize hya : p.getD xa 0 = ya at *
        generalize hyb : p.getD xb 0 = yb at *
        have HVa' := hide (show (vw ra p)[k]? = some (ya, ca) by rw [HVa.out, ← hya])
        have HVb' := hide (show (vw rb p)[k]? = some (yb, cb) by rw [HVb.out, ← hyb])
        clear hya hyb HVa HVb
        have HNo := hide (show (ya, ca) ≠ (yb, cb) → false = decide (vw ra p = vw rb p) by
          intro h
          rw [eq_comm, decide_eq_false_iff_not]
          intro e
          have h1 := HVa'.out
          rw [e, HVb'.out] at h1
          injection h1 with h1
          exact h h1.symm)
        by_cases hcc : ca = cb
        · subst hcc
          have bc : (ca != ca) = false := by simp
          by_cases hyy : ya = yb
          · subst hyy
            have bd : (((ya : Nat) : Int) != (ya : Int)) = false := by simp
            have HP2 := hide (show (vw ra p).take (k + 1) = (vw rb p).take (k + 1) by
              rw [List.take_add_one, List.take_add_one, HP.out, HVa'.out, HVb'.out])
            clear HNo HVa' HVb'
            go_wp2_with fail
            go_quiet (fail)
            go_wp2
            go_roundw
            case rel => exact ⟨k + 1, by omega, by go_num, HP2.out, below_drewN HBl.out _⟩
            case measure => simp [intOf]; omega
          · have bd : (((ya : Nat) : Int) != (yb : Int)) = true := by rw [bne_iff_ne]; omega
            have HR := hide (HNo.out (by simp [hyy]))
            clear HNo HVa' HVb'
            go_wp2_with fail
            go_quiet (fail)
            go_wp2
            go_ret
            exact ⟨ret_bool HR.out, below_drewN HBl.out _⟩
        · have HR := hide (HNo.out (by simp [hcc]))
          clear HNo HVa' HVb'
          have hcs : (ca = true ∧ cb = false) ∨ (ca = false ∧ cb = true) := by cases ca <;> cases cb <;> simp at hcc ⊢
          clear hcc
          rcases hcs with ⟨rfl, rfl⟩ | ⟨rfl, rfl⟩
          · go_wp2_with fail
            go_quiet (fail)
            go_wp2
            go_ret
            exact ⟨ret_bool HR.out, below_drewN HBl.out _⟩
          · go_wp2_with fail
            go_quiet (fail)
            go_wp2
            go_ret
            exact ⟨ret_bool HR.out, below_drewN HBl.out _⟩
      · have HR := hide (show true = decide (vw ra p = vw rb p) by
          rw [eq_comm, decide_eq_true_iff]
          have h := HP.out
          rwa [List.take_of_length_le (by have := HLa.out; simp [vw]; omega), List.take_of_length_le (by have := HLb.out; simp [vw]; omega)] at h)
        go_wp2
        go_ret
        exact ⟨ret_bool HR.out, HBl.out⟩
  · have bq : ((((p.getD a 0 : Nat) : Int)) != ((p.getD b 0 : Nat) : Int)) = true := by rw [bne_iff_ne]; omega
    have HRes := hide (show false = decide ((p.getD a 0, vw ra p) = (p.getD b 0, vw rb p)) by
      rw [eq_comm, decide_eq_false_iff_not, Prod.mk.injEq]
      exact fun h => hpe h.1)
    rw [← HRes.out]
    clear hpe HRes
    generalize p.getD a 0 = pa at *
    generalize p.getD b 0 = pb at *
    go_enter Tryz.func47, Tryz.ntmps47
    go_wp2_with fail
    go_quiet (fail)
    go_wp2
    go_ret
    exact ⟨rfl, below_drewN (Below.refl _ _) _⟩

end Go.Proofs.YtnecjeambpikdaaGreatDoor
