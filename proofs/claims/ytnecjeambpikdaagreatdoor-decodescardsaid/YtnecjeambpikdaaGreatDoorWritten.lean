import Derived.Test.YtnecjeambpikdaaGreatDoorRowW
import Derived.Test.YtnecjeambpikdaaGreatDoorClos
import Derived.Test.YtnecjeambpikdaaGreatDoorTab
import Derived.Deep.DeepCutAuto
import Derived.Deep.RegionHeld3
namespace Go.Proofs.YtnecjeambpikdaaGreatDoor
open Go.RowKit

/-- A table in memory. -/
def TabAt (w : World) (base tb : Nat) (T : Tbl) : Prop :=
  ∃ vc vs, w.heap[tb]? = some (.cells #[vc, vs] 65 (0, 0)) ∧ Rows2 w base 70 93 2 (rngs .i32) vc T.classes ∧ Rows2 w base 73 81 2 arrs vs T.states
theorem TabAt.below {w w' : World} {base tb : Nat} {T : Tbl} (h : TabAt w base tb T) (hb : Below w.heap.size w w') : TabAt w' base tb T := by
  obtain ⟨vc, vs, h1, h2, h3⟩ := h
  exact ⟨vc, vs, by rw [hb.block _ (lt_of_block h1)]; exact h1, h2.below hb (Nat.le_refl _), h3.below hb (Nat.le_refl _)⟩

theorem row_walk' (N f : Nat) (hf : f = 34 ∨ f = 35 ∨ f = 37) (p : Addr) (B b : Nat) (I : World → Prop) (ts : List (List UInt8)) (hN : ts.length = N) (l : List UInt8) (w : World) (hl : l.length ≤ 200000) (ht : ∀ t ∈ ts, t.length ≤ 100) (htn : ts.length ≤ 300)
    (hI : I w) (hkeep : ∀ w' w'', I w' → Wrote B b w' w'' → I w'')
    (hcall : ∀ (w' : World) (n : Nat) (t : List UInt8), I w' → ts[n]? = some t → Calls Tryz.prog f #[.int .i64 (n : Int), .pointer (some p)] w' fun e w'' => e = .returned (.string ⟨t.toArray⟩) ∧ Below w'.heap.size w' w'')
    (hb : Lib.IsBuilder 90 5 B b (Lib.byteCells l) w) (hB : B ≤ w.heap.size) :
    Calls Tryz.prog 33 #[.pointer (some ⟨b, 0, none⟩), .int .i64 (N : Int), .func (.func f) #[] #[.pointer (some p)]] w fun e w' => e = .returned (.tuple #[]) ∧
      Lib.IsBuilder 90 5 B b (Lib.byteCells (l ++ (joinC 32 ts ++ [10]))) w' ∧ Wrote B b w w' ∧ I w' := by
  subst hN
  exact row_walk f hf p B b I ts l w hl ht htn hI hkeep hcall hb hB

/-- What is held in the statement that makes the first line. -/
def Held19 (w0 w' : World) : Prop := Env w' ∧ Below w0.heap.size w0 w'
theorem held_alloc {w0 w' : World} {a b : Addr} {u v : Value} (o : Obj) (h : w'.cell? a = some u ∧ w'.cell? b = some v ∧ Held19 w0 w') : (w'.alloc o).cell? a = some u ∧ (w'.alloc o).cell? b = some v ∧ Held19 w0 (w'.alloc o) := by
  have hb : Below w'.heap.size w' (w'.alloc o) := (Below.refl _ _).alloc (Nat.le_refl _) _
  exact ⟨cell_later hb h.1, cell_later hb h.2.1, h.2.2.1.below hb, below2 h.2.2.2 hb⟩
theorem held_size {w0 w' : World} {a b : Addr} {u v : Value} (h : w'.cell? a = some u ∧ w'.cell? b = some v ∧ Held19 w0 w') : w0.heap.size ≤ w'.heap.size := h.2.2.2.size
theorem held_two {w0 w' : World} {a b : Addr} {u v x : Value} (o o2 : Obj) (j : Nat) (h : w'.cell? a = some u ∧ w'.cell? b = some v ∧ Held19 w0 w') : (((w'.alloc o).alloc o2).setCell ⟨w'.heap.size + 1, j, none⟩ x).cell? a = some u ∧ (((w'.alloc o).alloc o2).setCell ⟨w'.heap.size + 1, j, none⟩ x).cell? b = some v ∧ Held19 w0 (((w'.alloc o).alloc o2).setCell ⟨w'.heap.size + 1, j, none⟩ x) := by
  have hb : Below w'.heap.size w' (((w'.alloc o).alloc o2).setCell ⟨w'.heap.size + 1, j, none⟩ x) := (((Below.refl _ _).alloc (Nat.le_refl _) _).alloc (by simp) _).setCell (by simp) _
  exact ⟨cell_later hb h.1, cell_later hb h.2.1, h.2.2.1.below hb, below2 h.2.2.2 hb⟩

theorem Env.belowB {B : Nat} {w w' : World} (h : Env w) (hb : Below B w w') (hB : 7 < B) : Env w' := by
  refine ⟨?_, ?_, ?_, ?_, ?_⟩
  · obtain ⟨m, hm⟩ := h.mx; exact ⟨m, (hb.cell (p := ⟨0, 0, none⟩) (by show 0 < B; omega)).trans hm⟩
  · obtain ⟨m, hm, hv⟩ := h.syn; exact ⟨m, (hb.cell (p := ⟨4, 0, none⟩) (by show 4 < B; omega)).trans hm, hv⟩
  · obtain ⟨m, hm, hv⟩ := h.rng; exact ⟨m, (hb.cell (p := ⟨5, 0, none⟩) (by show 5 < B; omega)).trans hm, hv⟩
  · exact var?_below hb pow_at (by omega) h.pow
  · exact (hb.cell (p := ⟨7, 15, none⟩) (by show 7 < B; omega)).trans h.tz

theorem set_push {w' : World} {q : Nat} {x0 : Value} {t : TypeId} (x : Value) (o : Obj) (h : w'.heap[q]? = some (.cells #[x0] t (0, 0))) : ((w'.setCell ⟨q, 0, none⟩ x).alloc o).heap[q]? = some (.cells #[x] t (0, 0)) := heap_push_old (heap_setCell_same w' q 0 _ _ x h) o
theorem set_push_new (w' : World) (p : Addr) (x : Value) (o : Obj) : ((w'.setCell p x).alloc o).heap[w'.heap.size]? = some o := by
  have := heap_push_new (w'.setCell p x) o
  rwa [show (w'.setCell p x).heap.size = w'.heap.size by simp] at this
theorem held_set {w0 w' : World} {tb i j q k : Nat} {u v x : Value} (htb : 7 < w0.heap.size ∧ tb < w0.heap.size) (h : w'.cell? ⟨tb, i, none⟩ = some u ∧ w'.cell? ⟨tb, j, none⟩ = some v ∧ Held19 w0 w') (hq : w0.heap.size ≤ q) :
    (w'.setCell ⟨q, k, none⟩ x).cell? ⟨tb, i, none⟩ = some u ∧ (w'.setCell ⟨q, k, none⟩ x).cell? ⟨tb, j, none⟩ = some v ∧ Held19 w0 (w'.setCell ⟨q, k, none⟩ x) := by
  have hb : Below w0.heap.size w' (w'.setCell ⟨q, k, none⟩ x) := (Below.refl _ _).setCell (p := ⟨q, k, none⟩) hq _
  exact ⟨(hb.cell htb.2).trans h.1, (hb.cell htb.2).trans h.2.1, h.2.2.1.belowB hb htb.1, h.2.2.2.trans hb⟩

/-- What is held while the first line is written. -/
def I34 (w : World) (q g : Nat) (SA SN : ByteArray) (w' : World) : Prop :=
  Below w.heap.size w w' ∧ w'.heap[q]? = some (.cells #[.slice (some ⟨g, 0, none⟩) 3 3] 66 (0, 0)) ∧ w'.heap[g]? = some (.cells #[.string ⟨#[99, 108, 101, 97, 118, 101]⟩, .string SA, .string SN] 9 (0, 0))
theorem I34_keep {w : World} {q g : Nat} {SA SN : ByteArray} (h : q ≠ w.heap.size ∧ g ≠ w.heap.size) : ∀ w' w'', I34 w q g SA SN w' → Wrote w.heap.size w.heap.size w' w'' → I34 w q g SA SN w'' := by
  rintro w' w'' ⟨h1, h2, h3⟩ hW
  refine ⟨h1.trans hW.1, hW.2 q _ h2 (by simpa using h.1) (fun c fz e => ?_), hW.2 g _ h3 (by simpa using h.2) (fun c fz e => ?_)⟩
  · injection e with _ e; cases e
  · injection e with _ e; cases e
theorem I34_call {w : World} {q g C N : Nat} {SA SN : ByteArray} (hA : SA = ⟨(Lib.itoa (C : Int)).toArray⟩) (hN : SN = ⟨(Lib.itoa (N : Int)).toArray⟩) : ∀ (w' : World) (n : Nat) (t : List UInt8), I34 w q g SA SN w' → [[99, 108, 101, 97, 118, 101], Lib.decDigits C, Lib.decDigits N][n]? = some t →
    Calls Tryz.prog 34 #[.int .i64 (n : Int), .pointer (some ⟨q, 0, none⟩)] w' fun e w'' => e = .returned (.string ⟨t.toArray⟩) ∧ Below w'.heap.size w' w'' := by
  rintro w' n t ⟨h1, h2, h3⟩ ht
  rw [itoa_nat] at hA hN
  have hn : n < 3 := by
    rcases Nat.lt_or_ge n 3 with h | h
    · exact h
    · rw [List.getElem?_eq_none (by simpa using h)] at ht; cases ht
  refine clos34 n q g 3 3 ⟨t.toArray⟩ w' hn (row_cell h2 rfl) (row_cell h3 ?_)
  rcases n with _ | _ | _ | n
  · injection ht with ht; subst ht; rfl
  · injection ht with ht; subst ht; rw [hA]; rfl
  · injection ht with ht; subst ht; rw [hN]; rfl
  · omega
theorem head_short (C N : Nat) (hC : C ≤ 6) (hN : N ≤ 256) : ∀ t ∈ [[99, 108, 101, 97, 118, 101], Lib.decDigits C, Lib.decDigits N], t.length ≤ 100 := by
  intro t ht
  simp only [List.mem_cons, List.mem_nil_iff, or_false] at ht
  rcases ht with rfl | rfl | rfl
  · decide
  · have := (dec_canon C (by omega)).len; omega
  · have := (dec_canon N (by omega)).len; omega
/-- What is held while a class' or a state's line is written. -/
def I35 (w : World) (q : Nat) (v : Value) (ty : TypeId) (w' : World) : Prop := Below w.heap.size w w' ∧ w'.heap[q]? = some (.cells #[v] ty (0, 0))
theorem I35_keep {w : World} {q : Nat} {v : Value} {ty : TypeId} (hq : w.heap.size < q) (hty : ty ≠ 5 := by decide) : ∀ w' w'', I35 w q v ty w' → Wrote w.heap.size w.heap.size w' w'' → I35 w q v ty w'' := by
  rintro w' w'' ⟨h1, h2⟩ hW
  exact ⟨h1.trans hW.1, hW.2 q _ h2 (by simp; omega) (fun c fz e => by injection e with _ e; exact hty e)⟩
theorem I35_call {w : World} {q g L cap : Nat} {c : List (Nat × Nat)} (hok : classOk c) (hL : c.length = L) (hE : Env w) (hg : g < w.heap.size) (hc : ∀ j u, (rngs .i32 c)[j]? = some u → w.cell? ⟨g, j, none⟩ = some u) :
    ∀ (w' : World) (n : Nat) (t : List UInt8), I35 w q (.slice (some ⟨g, 0, none⟩) L cap) 70 w' → (c.map spanText)[n]? = some t → Calls Tryz.prog 35 #[.int .i64 (n : Int), .pointer (some ⟨q, 0, none⟩)] w' fun e w'' => e = .returned (.string ⟨t.toArray⟩) ∧ Below w'.heap.size w' w'' := by
  rintro w' n t ⟨h1, h2⟩ ht
  rw [List.getElem?_map] at ht
  obtain ⟨x, hx, rfl⟩ := Option.map_eq_some_iff.1 ht
  have hn : n < L := by
    rcases Nat.lt_or_ge n c.length with h | h
    · omega
    · rw [List.getElem?_eq_none h] at hx; cases hx
  obtain ⟨l1, l2⟩ := spanOk_le (hok.2.2 x (List.mem_of_getElem? hx))
  obtain ⟨c1, c2⟩ := rngs_get .i32 c n x hx
  exact clos35 n q g L cap x.1 x.2 w' hn (row_cell h2 rfl) ((h1.cell hg).trans (hc _ _ c1)) ((h1.cell hg).trans (hc _ _ c2)) (by omega) (by omega) (cell_later h1 hE.tz)
theorem I37_call {w : World} {q g L cap : Nat} {c : List (Nat × Bool)} (hok : ∀ a ∈ c, a.1 ≤ 1000000) (hL : c.length = L) (hE : Env w) (hg : g < w.heap.size) (hc : ∀ j u, (arrs c)[j]? = some u → w.cell? ⟨g, j, none⟩ = some u) :
    ∀ (w' : World) (n : Nat) (t : List UInt8), I35 w q (.slice (some ⟨g, 0, none⟩) L cap) 73 w' → (c.map arrowText)[n]? = some t → Calls Tryz.prog 37 #[.int .i64 (n : Int), .pointer (some ⟨q, 0, none⟩)] w' fun e w'' => e = .returned (.string ⟨t.toArray⟩) ∧ Below w'.heap.size w' w'' := by
  rintro w' n t ⟨h1, h2⟩ ht
  rw [List.getElem?_map] at ht
  obtain ⟨x, hx, rfl⟩ := Option.map_eq_some_iff.1 ht
  have hn : n < L := by
    rcases Nat.lt_or_ge n c.length with h | h
    · omega
    · rw [List.getElem?_eq_none h] at hx; cases hx
  obtain ⟨c1, c2⟩ := arrs_get c n x hx
  exact clos37 n q g L cap x.1 x.2 w' hn (row_cell h2 rfl) ((h1.cell hg).trans (hc _ _ c1)) ((h1.cell hg).trans (hc _ _ c2)) (hok x (List.mem_of_getElem? hx)) (hE.below h1)
theorem class_short {c : List (Nat × Nat)} (h : classOk c) : ∀ t ∈ c.map spanText, t.length ≤ 100 := by
  intro t ht
  obtain ⟨x, hx, rfl⟩ := List.mem_map.1 ht
  have := span_len (h.2.2 x hx)
  omega
theorem state_short {c : List (Nat × Bool)} (h : ∀ a ∈ c, a.1 ≤ 1000000) : ∀ t ∈ c.map arrowText, t.length ≤ 100 := by
  intro t ht
  obtain ⟨x, hx, rfl⟩ := List.mem_map.1 ht
  have := arrow_len (x := x) (by have := h x hx; omega)
  omega
theorem build_ne {B b : Nat} {bs : List Value} {w : World} (h : Lib.IsBuilder 90 5 B b bs w) (e : b = w.heap.size) : False := by
  rcases h with h | h
  · have := h.lt; omega
  · have := h.lt; omega

set_option maxHeartbeats 4000000 in
set_option maxRecDepth 100000 in
theorem written_walk (T : Tbl) (hT : Bd T) (base tb : Nat) (w : World) (hE : Env w) (hA : TabAt w base tb T) :
    Calls Tryz.prog 19 #[.pointer (some ⟨tb, 0, none⟩)] w fun e w' => e = .returned (.string ⟨(enc T).toArray⟩) ∧ Below w.heap.size w w' := by
  obtain ⟨vc, vs, hh, hrc, hrs⟩ := hA
  obtain ⟨aoc, capc, rfl, hc1, hc2⟩ := hrc.shape
  obtain ⟨aos, caps, rfl, hs1, hs2⟩ := hrs.shape
  have HRC := hide hrc
  have HRS := hide hrs
  have HT := hide hT
  have HE := hide hE
  have hCC := hT.cls
  have hNN := hT.sts
  have hNP := hT.pos
  have ht0 : w.cell? ⟨tb, 0, none⟩ = some (.slice aoc T.classes.length capc) := row_cell hh rfl
  have ht1 : w.cell? ⟨tb, 1, none⟩ = some (.slice aos T.states.length caps) := row_cell hh rfl
  have htb : tb < w.heap.size := lt_of_block hh
  clear hrc hrs hT hE hh
  generalize hC : T.classes.length = C at *
  generalize hN : T.states.length = N at *
  have HC := hide hC
  have HN := hide hN
  clear hC hN
  obtain ⟨w0, hw0⟩ : ∃ w0, w0 = w.alloc (.cells #[.pointer none, .slice none 0 0] 90) := ⟨_, rfl⟩
  have HB0 := hide (show Below w.heap.size w w0 by rw [hw0]; exact (Below.refl _ _).alloc (Nat.le_refl _) _)
  have HBU := hide (show Lib.IsBuilder 90 5 w.heap.size w.heap.size (Lib.byteCells []) w0 by rw [hw0]; exact Lib.fresh_isBuilder 90 5 w)
  obtain ⟨SA, hSA⟩ : ∃ A : ByteArray, A = ⟨(Lib.itoa (C : Int)).toArray⟩ := ⟨_, rfl⟩
  obtain ⟨SN, hSN⟩ : ∃ A : ByteArray, A = ⟨(Lib.itoa (N : Int)).toArray⟩ := ⟨_, rfl⟩
  have C1 := hide (show ∀ w', (w'.cell? ⟨tb, 0, none⟩ = some (.slice aoc C capc) ∧ w'.cell? ⟨tb, 1, none⟩ = some (.slice aos N caps) ∧ Held19 w0 w') →
      Calls Tryz.prog 29 #[.int .i64 (C : Int)] w' fun e w'' => e = .returned (.string SA) ∧ (w''.cell? ⟨tb, 0, none⟩ = some (.slice aoc C capc) ∧ w''.cell? ⟨tb, 1, none⟩ = some (.slice aos N caps) ∧ Held19 w0 w'') by
    rintro w' ⟨a1, a2, a3, a4⟩
    refine (itoa_any C (by omega) w' a3).mono ?_
    rintro e w'' ⟨rfl, hb⟩
    exact ⟨by rw [hSA], cell_later hb a1, cell_later hb a2, a3.below hb, below2 a4 hb⟩)
  have C2 := hide (show ∀ w', (w'.cell? ⟨tb, 0, none⟩ = some (.slice aoc C capc) ∧ w'.cell? ⟨tb, 1, none⟩ = some (.slice aos N caps) ∧ Held19 w0 w') →
      Calls Tryz.prog 29 #[.int .i64 (N : Int)] w' fun e w'' => e = .returned (.string SN) ∧ (w''.cell? ⟨tb, 0, none⟩ = some (.slice aoc C capc) ∧ w''.cell? ⟨tb, 1, none⟩ = some (.slice aos N caps) ∧ Held19 w0 w'') by
    rintro w' ⟨a1, a2, a3, a4⟩
    refine (itoa_any N (by omega) w' a3).mono ?_
    rintro e w'' ⟨rfl, hb⟩
    exact ⟨by rw [hSN], cell_later hb a1, cell_later hb a2, a3.below hb, below2 a4 hb⟩)
  have C1b := hide (show ∀ w' q, (w'.cell? ⟨tb, 0, none⟩ = some (.slice aoc C capc) ∧ w'.cell? ⟨tb, 1, none⟩ = some (.slice aos N caps) ∧ Held19 w0 w') → Hid (w'.heap[q]? = some (.cells #[.slice none 0 0] 66 (0, 0))) → w0.heap.size ≤ q →
      Calls Tryz.prog 29 #[.int .i64 (C : Int)] w' fun e w'' => e = .returned (.string SA) ∧ (w''.cell? ⟨tb, 0, none⟩ = some (.slice aoc C capc) ∧ w''.cell? ⟨tb, 1, none⟩ = some (.slice aos N caps) ∧ Held19 w0 w'') ∧ Hid (w''.heap[q]? = some (.cells #[.slice none 0 0] 66 (0, 0))) ∧
        w''.cell? ⟨q, 0, none⟩ = some (.slice none 0 0) ∧ w''.frozen? ⟨q, 0, none⟩ = false ∧ q < w''.heap.size ∧ w0.heap.size ≤ q by
    rintro w' q ⟨a1, a2, a3, a4⟩ hq hq0
    refine (itoa_any C (by omega) w' a3).mono ?_
    rintro e w'' ⟨rfl, hb⟩
    have hk : w''.heap[q]? = some (.cells #[.slice none 0 0] 66 (0, 0)) := by rw [hb.block _ (lt_of_block hq.out)]; exact hq.out
    exact ⟨by rw [hSA], ⟨cell_later hb a1, cell_later hb a2, a3.below hb, below2 a4 hb⟩, hk, row_cell hk rfl, row_free hk 0, lt_of_block hk, hq0⟩)
  have C2a := hide (show ∀ w' o, ((World.alloc w' o).cell? ⟨tb, 0, none⟩ = some (.slice aoc C capc) ∧ (World.alloc w' o).cell? ⟨tb, 1, none⟩ = some (.slice aos N caps) ∧ Held19 w0 (World.alloc w' o)) → o = .cells #[.slice none 0 0] 66 (0, 0) → w0.heap.size ≤ w'.heap.size →
      Calls Tryz.prog 29 #[.int .i64 (N : Int)] (World.alloc w' o) fun e w'' => e = .returned (.string SN) ∧ (w''.cell? ⟨tb, 0, none⟩ = some (.slice aoc C capc) ∧ w''.cell? ⟨tb, 1, none⟩ = some (.slice aos N caps) ∧ Held19 w0 w'') ∧ Hid (w''.heap[w'.heap.size]? = some (.cells #[.slice none 0 0] 66 (0, 0))) ∧
        w''.cell? ⟨w'.heap.size, 0, none⟩ = some (.slice none 0 0) ∧ w''.frozen? ⟨w'.heap.size, 0, none⟩ = false ∧ w'.heap.size < w''.heap.size ∧ w0.heap.size ≤ w'.heap.size by
    rintro w' o ⟨a1, a2, a3, a4⟩ rfl hq0
    refine (itoa_any N (by omega) _ a3).mono ?_
    rintro e w'' ⟨rfl, hb⟩
    have hk : w''.heap[w'.heap.size]? = some (.cells #[.slice none 0 0] 66 (0, 0)) := by rw [hb.block _ (by simp)]; exact heap_push_new _ _
    exact ⟨by rw [hSN], ⟨cell_later hb a1, cell_later hb a2, a3.below hb, below2 a4 hb⟩, hk, row_cell hk rfl, row_free hk 0, lt_of_block hk, hq0⟩)
  have C2b := hide (show ∀ w' q, (w'.cell? ⟨tb, 0, none⟩ = some (.slice aoc C capc) ∧ w'.cell? ⟨tb, 1, none⟩ = some (.slice aos N caps) ∧ Held19 w0 w') → Hid (w'.heap[q]? = some (.cells #[.slice none 0 0] 66 (0, 0))) → w0.heap.size ≤ q →
      Calls Tryz.prog 29 #[.int .i64 (N : Int)] w' fun e w'' => e = .returned (.string SN) ∧ (w''.cell? ⟨tb, 0, none⟩ = some (.slice aoc C capc) ∧ w''.cell? ⟨tb, 1, none⟩ = some (.slice aos N caps) ∧ Held19 w0 w'') ∧ Hid (w''.heap[q]? = some (.cells #[.slice none 0 0] 66 (0, 0))) ∧
        w''.cell? ⟨q, 0, none⟩ = some (.slice none 0 0) ∧ w''.frozen? ⟨q, 0, none⟩ = false ∧ q < w''.heap.size ∧ w0.heap.size ≤ q by
    rintro w' q ⟨a1, a2, a3, a4⟩ hq hq0
    refine (itoa_any N (by omega) w' a3).mono ?_
    rintro e w'' ⟨rfl, hb⟩
    have hk : w''.heap[q]? = some (.cells #[.slice none 0 0] 66 (0, 0)) := by rw [hb.block _ (lt_of_block hq.out)]; exact hq.out
    exact ⟨by rw [hSN], ⟨cell_later hb a1, cell_later hb a2, a3.below hb, below2 a4 hb⟩, hk, row_cell hk rfl, row_free hk 0, lt_of_block hk, hq0⟩)
  have K0 := hide (show w0.drew.cell? ⟨tb, 0, none⟩ = some (.slice aoc C capc) ∧ w0.drew.cell? ⟨tb, 1, none⟩ = some (.slice aos N caps) ∧ Held19 w0 w0.drew from
    ⟨cell_later HB0.out.drew ht0, cell_later HB0.out.drew ht1, HE.out.below HB0.out.drew, (Below.refl _ _).drew⟩)
  have HTB := hide (show 7 < w0.heap.size ∧ tb < w0.heap.size from ⟨by
      have h1 := World.block_lt_of_cell? _ _ HE.out.tz
      have h2 := HB0.out.size
      simp only at h1
      omega, Nat.lt_of_lt_of_le htb HB0.out.size⟩)
  have HSA := hide hSA
  have HSN := hide hSN
  clear hSA hSN
  go_enter Tryz.func19, Tryz.ntmps19
  go_upto_region 2 with fail
  rw [← hw0]
  have HW0 := hide hw0
  clear hw0
  go_cut [4] (fun s4 wx => ∃ q g : Nat, s4 = .pointer (some ⟨q, 0, none⟩) ∧ wx.heap[q]? = some (.cells #[.slice (some ⟨g, 0, none⟩) 3 3] 66 (0, 0)) ∧ wx.heap[g]? = some (.cells #[.string ⟨#[99, 108, 101, 97, 118, 101]⟩, .string SA, .string SN] 9 (0, 0)) ∧ Held19 w0 wx)
  case first =>
    go_region_held3 (fun w' => w'.cell? ⟨tb, 0, none⟩ = some (.slice aoc C capc) ∧ w'.cell? ⟨tb, 1, none⟩ = some (.slice aos N caps) ∧ Held19 w0 w') (first | exact K0.out | assumption | exact held_alloc _ (by assumption) | exact held_alloc _ (held_alloc _ (by assumption)) | exact held_two _ _ _ (by assumption) | exact held_alloc _ (held_set HTB.out (by assumption) (by assumption)))
      ((first
        | (go_at_call_of 29 (Value.int .i64 (C : Int)); refine (C1b.out _ w0.heap.size (by assumption) (by exact hide (heap_push_new w0 _)) (Nat.le_refl _)).mono ?_; rintro e w' ⟨rfl, hS, hQ, q0, q1, q2, q3⟩)
        | (go_at_call_of 29 (Value.int .i64 (C : Int)); refine (C1.out _ (by assumption)).mono ?_; rintro e w' ⟨rfl, hS⟩)
        | (go_at_call_of 29 (Value.int .i64 (N : Int)); refine (C2a.out _ _ (by assumption) rfl (by exact held_size (by assumption))).mono ?_; rintro e w' ⟨rfl, hS, hQ, q0, q1, q2, q3⟩)
        | (go_at_call_of 29 (Value.int .i64 (N : Int)); refine (C2b.out _ _ (by assumption) (by assumption) (by assumption)).mono ?_; rintro e w' ⟨rfl, hS, hQ, q0, q1, q2, q3⟩)
        | (go_at_call_of 29 (Value.int .i64 (N : Int)); refine (C2.out _ (by assumption)).mono ?_; rintro e w' ⟨rfl, hS⟩)))
    all_goals (go_wp2_with fail)
    all_goals go_meet
    all_goals (first
      | exact ⟨_, _, rfl, heap_two1 _ _ _, heap_two0 _ _ _, (held_alloc (a := ⟨tb, 0, none⟩) (b := ⟨tb, 1, none⟩) (u := .slice aoc C capc) (v := .slice aos N caps) _ (held_alloc (a := ⟨tb, 0, none⟩) (b := ⟨tb, 1, none⟩) (u := .slice aoc C capc) (v := .slice aos N caps) _ (by assumption))).2.2⟩
      | exact ⟨_, _, rfl, heap_two0 _ _ _, heap_two1 _ _ _, (held_alloc (a := ⟨tb, 0, none⟩) (b := ⟨tb, 1, none⟩) (u := .slice aoc C capc) (v := .slice aos N caps) _ (held_alloc (a := ⟨tb, 0, none⟩) (b := ⟨tb, 1, none⟩) (u := .slice aoc C capc) (v := .slice aos N caps) _ (by assumption))).2.2⟩
      | exact ⟨_, _, rfl, set_push _ _ (unhide (by assumption)), set_push_new _ _ _ _, (held_alloc (a := ⟨tb, 0, none⟩) (b := ⟨tb, 1, none⟩) (u := .slice aoc C capc) (v := .slice aos N caps) _ (held_set (i := 0) (j := 1) (u := .slice aoc C capc) (v := .slice aos N caps) HTB.out (by assumption) (by assumption))).2.2⟩)
  case rest =>
    obtain ⟨q, g, rfl, hq, hg, hH⟩ := hcut
    have HQ := hide hq
    have HG := hide hg
    have HBW := hide (show Below w.heap.size w wc from HB0.out.trans (hH.2.mono HB0.out.size))
    have HBU1 := hide (build_later HBU.out hH.2)
    have qc := row_cell hq (j := 0) rfl
    have hwc : w.heap.size ≤ wc.heap.size := HBW.out.size
    have HQT := hide (show q ≠ w.heap.size ∧ g ≠ w.heap.size from by
      have hb := HBU1.out
      have hbk : ∃ pv v, wc.heap[w.heap.size]? = some (.cells #[pv, v] 90 (0, 0)) := by
        rcases hb with ⟨_, v, h2, _⟩ | ⟨_, v, h2, _⟩
        · exact ⟨_, _, h2⟩
        · exact ⟨_, _, h2⟩
      obtain ⟨pv, v, hbk⟩ := hbk
      constructor
      · intro e; rw [e, hbk] at hq; cases hq
      · intro e; rw [e, hbk] at hg; cases hg)
    clear hq hg hH C1 C2 C1b C2a C2b K0
    go_wp2_with fail
    refine (row_walk' 3 34 (.inl rfl) ⟨q, 0, none⟩ w.heap.size w.heap.size (I34 w q g SA SN) [[99, 108, 101, 97, 118, 101], Lib.decDigits C, Lib.decDigits N] rfl [] wc (by simp) (head_short C N hCC hNN) (by simp) ⟨HBW.out, HQ.out, HG.out⟩ (I34_keep HQT.out) (I34_call HSA.out HSN.out) HBU1.out hwc).mono ?_
    rintro e w1 ⟨rfl, hb1, hW1, hI1⟩
    have HBU2 := hide (show Lib.IsBuilder 90 5 w.heap.size w.heap.size (Lib.byteCells (headLine C N ++ [10])) w1 by simpa [headLine] using hb1)
    have HB1 := hide hI1.1
    have hl0 : (headLine C N ++ [10]).length ≤ 304 := by
      have := join_len 32 100 [[99, 108, 101, 97, 118, 101], Lib.decDigits C, Lib.decDigits N] (head_short C N hCC hNN)
      rw [List.length_append, List.length_singleton]
      show (headLine C N).length + 1 ≤ 304
      simp only [List.length_cons, List.length_nil] at this
      unfold headLine
      omega
    have ht0' : w1.cell? ⟨tb, 0, none⟩ = some (.slice aoc C capc) := cell_later HB1.out ht0
    have ht1' : w1.cell? ⟨tb, 1, none⟩ = some (.slice aos N caps) := cell_later HB1.out ht1
    clear hb1 hW1 hI1 HQ HG HBW HBU1 HBU HQT HB0 hwc qc HTB HW0 HSA HSN
    go_wp2_with fail
    go_loopw [31] (fun i wr => ∃ k : Nat, k ≤ C ∧ i = .int .i64 (k : Int) ∧ Lib.IsBuilder 90 5 w.heap.size w.heap.size (Lib.byteCells (headLine C N ++ [10] ++ (T.classes.take k).flatMap fun c => classLine c ++ [10])) wr ∧
        ((T.classes.take k).flatMap fun c => classLine c ++ [10]).length ≤ k * 700 ∧ Below w.heap.size w wr) (fun i _ => C - (intOf i).toNat)
    case atStart => exact ⟨0, Nat.zero_le _, rfl, by simpa using HBU2.out, by simp, HB1.out⟩
    case round =>
      obtain ⟨k, hk, rfl, h1, h2, h3⟩ := hrel
      have H1 := hide h1
      have H3 := hide h3
      have hwr : w.heap.size ≤ wr.heap.size := h3.size
      clear h1 h3
      by_cases hlt : k < C
      · have hx : T.classes[k]? = some (T.classes.getD k []) := getD_some _ _ _ (by have := HC.out; omega)
        obtain ⟨g1, cap1, hv1, _, hg1, hrow1⟩ := HRC.out.head (by have := HC.out; omega)
        obtain ⟨ao2, c2, hcell2, hlc2, hcm2, hown2⟩ := hrow1 k _ hx
        have hok := HT.out.each _ (List.mem_of_getElem? hx)
        have HX := hide hx
        clear hx hrow1
        generalize T.classes.getD k [] = c at *
        injection hv1 with hao hlen hcap
        clear hlen
        subst hao
        subst hcap
        obtain ⟨g2, c3, hv2, _, hg2, _, _, hc2', _⟩ := own_head hown2 hok.1
        injection hv2 with hao2 _ hcc
        subst hao2
        subst hcc
        have HCell := hide hc2'
        have HOK := hide hok
        have hcl := hok.2.1
        have hcr : wr.cell? ⟨g1, k, none⟩ = some (.slice (some ⟨g2, 0, none⟩) c.length c2) := cell_later H3.out hcell2
        clear hcell2 hown2 hc2' hok
        generalize hL : c.length = L at *
        have HL := hide hL
        clear hL
        go_wp2_with fail
        refine (row_walk' L 35 (.inr (.inl rfl)) ⟨wr.heap.size, 0, none⟩ w.heap.size w.heap.size (I35 w wr.heap.size (.slice (some ⟨g2, 0, none⟩) L c2) 70) (c.map spanText) (by rw [List.length_map]; exact HL.out) _ _ (by simp only [List.length_append] at hl0 ⊢; omega) (class_short HOK.out) (by rw [List.length_map, HL.out]; omega)
          ⟨H3.out.alloc hwr _, heap_push_new _ _⟩ (I35_keep (Nat.lt_of_le_of_ne hwr (fun e => build_ne H1.out e))) (I35_call HOK.out HL.out HE.out hg2 HCell.out) (build_later H1.out ((Below.refl _ _).alloc (Nat.le_refl _) _)) (by simp; omega)).mono ?_
        rintro e w2 ⟨rfl, hb2, hW2, hI2⟩
        have HBU3 := hide hb2
        have HB3 := hide hI2.1
        clear hb2 hW2 hI2
        have HTake := hide (take_step HX.out)
        go_wp2
        go_roundw
        case rel =>
          refine ⟨k + 1, by omega, by go_num, ?_, ?_, HB3.out⟩
          · have := HBU3.out
            rw [HTake.out, List.flatMap_append]
            simpa [classLine] using this
          · have hcl2 : (classLine c).length ≤ L * 101 := by
              have := join_len 32 100 _ (class_short HOK.out)
              rwa [List.length_map, HL.out] at this
            rw [HTake.out, List.flatMap_append, List.length_append]
            simp only [List.flatMap_cons, List.flatMap_nil, List.append_nil, List.length_append, List.length_cons, List.length_nil]
            omega
        case measure => simp [intOf]; omega
      · have hkC : k = C := by omega
        subst hkC
        have HTk := hide (show T.classes.take k = T.classes from List.take_of_length_le (by rw [HC.out]; omega))
        have ht0r : wr.cell? ⟨tb, 1, none⟩ = some (.slice aos N caps) := cell_later H3.out ht1
        rw [HTk.out] at H1 h2
        go_wp2_with fail
        go_loopw [45] (fun i wr => ∃ j : Nat, j ≤ N ∧ i = .int .i64 (j : Int) ∧ Lib.IsBuilder 90 5 w.heap.size w.heap.size (Lib.byteCells (headLine k N ++ [10] ++ (T.classes.flatMap fun c => classLine c ++ [10]) ++ (T.states.take j).flatMap fun c => stateLine c ++ [10])) wr ∧
            ((T.states.take j).flatMap fun c => stateLine c ++ [10]).length ≤ j * 708 ∧ Below w.heap.size w wr) (fun i _ => N - (intOf i).toNat)
        case atStart => exact ⟨0, Nat.zero_le _, rfl, by simpa using H1.out, by simp, H3.out⟩
        case round =>
          obtain ⟨j, hj, rfl, h1', h2', h3'⟩ := hrel
          have H1' := hide h1'
          have H3' := hide h3'
          have hwi : w.heap.size ≤ wr.heap.size := h3'.size
          clear h1' h3'
          by_cases hlt2 : j < N
          · have hx : T.states[j]? = some (T.states.getD j []) := getD_some _ _ _ (by have := HN.out; omega)
            obtain ⟨g1, cap1, hv1, _, hg1, hrow1⟩ := HRS.out.head (by have := HN.out; omega)
            obtain ⟨ao2, c2, hcell2, hlc2, hcm2, hown2⟩ := hrow1 j _ hx
            have hok := HT.out.row _ (List.mem_of_getElem? hx)
            have HX := hide hx
            clear hx hrow1
            generalize T.states.getD j [] = c at *
            injection hv1 with hao hlen hcap
            clear hlen
            subst hao
            subst hcap
            obtain ⟨g2, c3, hv2, _, hg2, _, _, hc2', _⟩ := own_head hown2 (by rw [hok.1]; omega)
            injection hv2 with hao2 _ hcc
            subst hao2
            subst hcc
            have HCell := hide hc2'
            have HOK := hide (show ∀ a ∈ c, a.1 ≤ 1000000 from fun a ha => by have := hok.2 a ha; have := HN.out; omega)
            have hcl : c.length ≤ 7 := by rw [hok.1, HC.out]; omega
            have hcr : wr.cell? ⟨g1, j, none⟩ = some (.slice (some ⟨g2, 0, none⟩) c.length c2) := cell_later H3'.out hcell2
            clear hcell2 hown2 hc2' hok
            generalize hL : c.length = L at *
            have HL := hide hL
            clear hL
            go_wp2_with fail
            refine (row_walk' L 37 (.inr (.inr rfl)) ⟨wr.heap.size, 0, none⟩ w.heap.size w.heap.size (I35 w wr.heap.size (.slice (some ⟨g2, 0, none⟩) L c2) 73) (c.map arrowText) (by rw [List.length_map]; exact HL.out) _ _ (by simp only [List.length_append] at hl0 ⊢; omega) (state_short HOK.out) (by rw [List.length_map, HL.out]; omega)
              ⟨H3'.out.alloc hwi _, heap_push_new _ _⟩ (I35_keep (Nat.lt_of_le_of_ne hwi (fun e => build_ne H1'.out e))) (I37_call HOK.out HL.out HE.out hg2 HCell.out) (build_later H1'.out ((Below.refl _ _).alloc (Nat.le_refl _) _)) (by simp; omega)).mono ?_
            rintro e w2 ⟨rfl, hb2, hW2, hI2⟩
            have HBU3 := hide hb2
            have HB3 := hide hI2.1
            clear hb2 hW2 hI2
            have HTake := hide (take_step HX.out)
            go_wp2
            go_roundw
            case rel =>
              refine ⟨j + 1, by omega, by go_num, ?_, ?_, HB3.out⟩
              · have := HBU3.out
                rw [HTake.out, List.flatMap_append]
                simpa [stateLine] using this
              · have hcl2 : (stateLine c).length ≤ L * 101 := by
                  have := join_len 32 100 _ (state_short HOK.out)
                  rwa [List.length_map, HL.out] at this
                rw [HTake.out, List.flatMap_append, List.length_append]
                simp only [List.flatMap_cons, List.flatMap_nil, List.append_nil, List.length_append, List.length_cons, List.length_nil]
                omega
            case measure => simp [intOf]; omega
          · have HTj := hide (show T.states.take j = T.states from List.take_of_length_le (by rw [HN.out]; omega))
            rw [HTj.out] at H1'
            go_wp2_with fail
            refine (Tryz.Builder_String_any w.heap.size w.heap.size _ wr H1'.out hwi).mono ?_
            rintro e w3 ⟨rfl, hb3⟩
            have HB4 := hide (H3'.out.trans hb3)
            have HEnc := hide (show headLine k N ++ [10] ++ (T.classes.flatMap fun c => classLine c ++ [10]) ++ (T.states.flatMap fun c => stateLine c ++ [10]) = enc T by
              rw [enc, Tbl.lines, HC.out, HN.out, List.flatMap_append, List.flatMap_map, List.flatMap_map]
              simp)
            rw [HEnc.out]
            clear hb3
            go_wp2
            go_ret
            exact ⟨rfl, HB4.out⟩

end Go.Proofs.YtnecjeambpikdaaGreatDoor
