/-
  The rows that 'least' makes, in memory, told apart by their blocks. Own work.
-/
import Derived.Test.YtnecjeambpikdaaGreatDoorEncB
import Derived.Test.YtnecjeambpikdaaGreatDoorPartsW
import Derived.Test.YtnecjeambpikdaaGreatDoorLeastP
import Derived.Test.YtnecjeambpikdaaGreatDoorReadT
import Derived.Deep.AppendLies
namespace Go.Proofs.YtnecjeambpikdaaGreatDoor
open Go.RowKit

/-- A value's block is not this one. -/
def Off (u : Value) (b : Option Nat) : Prop := ∀ g, u.ownBlock = some g → b ≠ some g
theorem off_none (u : Value) : Off u none := fun g _ e => by cases e
theorem off_types {w : World} {B1 B2 e1 e2 s1 s2 n1 n2 : Nat} {v1 v2 : Value} {x1 x2 : List Value} (h1 : w.ownsRow B1 e1 s1 v1 n1 x1) (h2 : w.ownsRow B2 e2 s2 v2 n2 x2) (hne : e1 ≠ e2) : Off v1 v2.ownBlock := by
  intro g hg hg2
  rcases h1.2 with ⟨rfl, _⟩ | ⟨g1, c1, k1, rfl, _, hh1, _⟩
  · cases hg
  · rcases h2.2 with ⟨rfl, _⟩ | ⟨g2, c2, k2, rfl, _, hh2, _⟩
    · cases hg2
    · injection hg with hg
      injection hg2 with hg2
      subst hg hg2
      rw [hh1] at hh2
      injection hh2 with hh2
      injection hh2 with _ hh2
      exact hne hh2
theorem own_off {w w' : World} {o : Obj} {row : Option Nat} {base e size n : Nat} {v : Value} {xs : List Value} (h : w.ownsRow base e size v n xs) (hg : (w.alloc o).grownBy w' row) (hoff : Off v row) : w'.ownsRow base e size v n xs := by
  refine (h.alloc o).kept hg ?_
  cases hv : v.ownBlock with
  | none => exact .inl rfl
  | some g => exact .inr (fun e => hoff g hv e.symm)
/-- Behind an append the row lies where it lay, or where nothing was. -/
theorem off_new {w : World} {base e size n g H : Nat} {u : Value} {xs : List Value} {row : Option Nat} (h : w.ownsRow base e size u n xs) (hoff : Off u row) (hw : row = some g ∨ g = H) (hH : w.heap.size ≤ H) : Off u (some g) := by
  intro k hk e
  injection e with e
  subst e
  rcases hw with hw | hw
  · exact hoff g hk hw
  · have := (own_lt h g hk).2
    omega

/-- A slice of slices whose rows lie elsewhere than in two given blocks. -/
def RowsN {α : Type} (w : World) (base eo ei size : Nat) (enc : List α → List Value) (v : Value) (ll : List (List α)) (A B : Option Nat) : Prop :=
  ∃ vs : List Value, w.ownsRow base eo 1 v ll.length vs ∧ ∀ (i : Nat) (l : List α), ll[i]? = some l → ∃ u, vs[i]? = some u ∧ w.ownsRow base ei size u l.length (enc l) ∧ Off u A ∧ Off u B
section
variable {α : Type} {w w' : World} {base eo ei size : Nat} {enc : List α → List Value} {v : Value} {ll : List (List α)} {A B : Option Nat}
theorem RowsN.rows (h : RowsN w base eo ei size enc v ll A B) : Rows2 w base eo ei size enc v ll := by
  obtain ⟨vs, h1, h2⟩ := h
  exact ⟨vs, h1, fun i l hl => (h2 i l hl).elim fun u hu => ⟨u, hu.1, hu.2.1⟩⟩
theorem RowsN.nil (w : World) (base eo ei size : Nat) (enc : List α → List Value) (A B : Option Nat) : RowsN w base eo ei size enc (.slice none 0 0) [] A B := ⟨[], World.ownsRow_nil _ _ _ _, fun i l hl => by simp at hl⟩
/-- Another row has grown. -/
theorem RowsN.grown {o : Obj} {row : Option Nat} (h : RowsN w base eo ei size enc v ll A B) (hg : (w.alloc o).grownBy w' row) (hout : Off v row) (hin : row = A ∨ row = B) : RowsN w' base eo ei size enc v ll A B := by
  obtain ⟨vs, h1, h2⟩ := h
  refine ⟨vs, own_off h1 hg hout, fun i l hl => ?_⟩
  obtain ⟨u, g1, g2, g3, g4⟩ := h2 i l hl
  exact ⟨u, g1, own_off g2 hg (by rcases hin with rfl | rfl; exact g3; exact g4), g3, g4⟩
/-- A row of another kind has grown. -/
theorem RowsN.far {o : Obj} {row : Option Nat} (h : RowsN w base eo ei size enc v ll A B) (hg : (w.alloc o).grownBy w' row) (hout : Off v row) (hin : ∀ u xs n, w.ownsRow base ei size u n xs → Off u row) : RowsN w' base eo ei size enc v ll A B := by
  obtain ⟨vs, h1, h2⟩ := h
  refine ⟨vs, own_off h1 hg hout, fun i l hl => ?_⟩
  obtain ⟨u, g1, g2, g3, g4⟩ := h2 i l hl
  exact ⟨u, g1, own_off g2 hg (hin _ _ _ g2), g3, g4⟩
theorem RowsN.moveA {g H : Nat} (h : RowsN w base eo ei size enc v ll A B) (hw : A = some g ∨ g = H) (hH : w.heap.size ≤ H) : RowsN w base eo ei size enc v ll (some g) B := by
  obtain ⟨vs, h1, h2⟩ := h
  refine ⟨vs, h1, fun i l hl => ?_⟩
  obtain ⟨u, g1, g2, g3, g4⟩ := h2 i l hl
  exact ⟨u, g1, g2, off_new g2 g3 hw hH, g4⟩
theorem RowsN.moveB {g H : Nat} (h : RowsN w base eo ei size enc v ll A B) (hw : B = some g ∨ g = H) (hH : w.heap.size ≤ H) : RowsN w base eo ei size enc v ll A (some g) := by
  obtain ⟨vs, h1, h2⟩ := h
  refine ⟨vs, h1, fun i l hl => ?_⟩
  obtain ⟨u, g1, g2, g3, g4⟩ := h2 i l hl
  exact ⟨u, g1, g2, g3, off_new g2 g4 hw hH⟩
theorem RowsN.dropB (h : RowsN w base eo ei size enc v ll A B) : RowsN w base eo ei size enc v ll A none := by
  obtain ⟨vs, h1, h2⟩ := h
  refine ⟨vs, h1, fun i l hl => ?_⟩
  obtain ⟨u, g1, g2, g3, g4⟩ := h2 i l hl
  exact ⟨u, g1, g2, g3, off_none u⟩
theorem RowsN.below {K : Nat} (h : RowsN w base eo ei size enc v ll A B) (hb : Below K w w') (hK : w.heap.size ≤ K) : RowsN w' base eo ei size enc v ll A B := by
  obtain ⟨vs, h1, h2⟩ := h
  refine ⟨vs, own_below h1 hb hK, fun i l hl => ?_⟩
  obtain ⟨u, g1, g2, g3, g4⟩ := h2 i l hl
  exact ⟨u, g1, own_below g2 hb hK, g3, g4⟩
/-- One of the two has grown, and lies where it lay or in a new block. -/
theorem RowsN.growA {o : Obj} {g H : Nat} (h : RowsN w base eo ei size enc v ll A B) (hg : (w.alloc o).grownBy w' A) (hout : Off v A) (hw : A = some g ∨ g = H) (hH : w.heap.size ≤ H) : RowsN w' base eo ei size enc v ll (some g) B := by
  obtain ⟨vs, h1, h2⟩ := h
  refine ⟨vs, own_off h1 hg hout, fun i l hl => ?_⟩
  obtain ⟨u, g1, g2, g3, g4⟩ := h2 i l hl
  exact ⟨u, g1, own_off g2 hg g3, off_new g2 g3 hw hH, g4⟩
theorem RowsN.growB {o : Obj} {g H : Nat} (h : RowsN w base eo ei size enc v ll A B) (hg : (w.alloc o).grownBy w' B) (hout : Off v B) (hw : B = some g ∨ g = H) (hH : w.heap.size ≤ H) : RowsN w' base eo ei size enc v ll A (some g) := by
  obtain ⟨vs, h1, h2⟩ := h
  refine ⟨vs, own_off h1 hg hout, fun i l hl => ?_⟩
  obtain ⟨u, g1, g2, g3, g4⟩ := h2 i l hl
  exact ⟨u, g1, own_off g2 hg g4, g3, off_new g2 g4 hw hH⟩
/-- A cell of a block of another kind is stored into. -/
theorem RowsN.turn {g j : Nat} {c : Array Value} {e' : TypeId} {x : Value} (h : RowsN w base eo ei size enc v ll A B) (hg : w.heap[g]? = some (.cells c e' (0, 0))) (h1 : e' ≠ eo) (h2 : e' ≠ ei) : RowsN (w.setCell ⟨g, j, none⟩ x) base eo ei size enc v ll A B := by
  obtain ⟨vs, g1, g2⟩ := h
  refine ⟨vs, own_turn hg g1 h1, fun i l hl => ?_⟩
  obtain ⟨u, k1, k2, k3, k4⟩ := g2 i l hl
  exact ⟨u, k1, own_turn hg k2 h2, k3, k4⟩
/-- A finished row is appended to the outer one. -/
theorem rowsN_push {o : Obj} {g cap : Nat} {tv : Value} {l : List α} {vs : List Value} (h1 : w.ownsRow base eo 1 v ll.length vs) (h2 : ∀ (i : Nat) (l : List α), ll[i]? = some l → ∃ u, vs[i]? = some u ∧ w.ownsRow base ei size u l.length (enc l) ∧ Off u A ∧ Off u B) (hne : eo ≠ ei)
    (ht : w.ownsRow base ei size tv l.length (enc l)) (ha : Off tv A) (ho : w'.ownsRow base eo 1 (.slice (some ⟨g, 0, none⟩) (ll.length + 1) cap) (ll.length + 1) (vs ++ [tv])) (hg : (w.alloc o).grownBy w' v.ownBlock) :
    RowsN w' base eo ei size enc (.slice (some ⟨g, 0, none⟩) (ll.length + 1) cap) (ll ++ [l]) A none := by
  have hlen : vs.length = ll.length := by have := h1.1; omega
  refine ⟨vs ++ [tv], by rw [List.length_append, List.length_singleton]; exact ho, fun i l' hl => ?_⟩
  rcases Nat.lt_or_ge i ll.length with hi | hi
  · rw [List.getElem?_append_left hi] at hl
    obtain ⟨u, g1, g2, g3, g4⟩ := h2 i l' hl
    exact ⟨u, by rw [List.getElem?_append_left (by omega)]; exact g1, own_off g2 hg (off_types g2 h1 (Ne.symm hne)), g3, off_none u⟩
  · rw [List.getElem?_append_right hi] at hl
    have hi0 : i - ll.length = 0 := by
      rcases Nat.eq_zero_or_pos (i - ll.length) with h | h
      · exact h
      · rw [List.getElem?_eq_none (by simp; omega)] at hl; cases hl
    rw [hi0] at hl
    injection hl with hl
    subst hl
    exact ⟨tv, by rw [List.getElem?_append_right (by omega), hlen, hi0]; rfl, own_off ht hg (off_types ht h1 (Ne.symm hne)), ha, off_none tv⟩
end

theorem off_symm {u v : Value} (h : Off u v.ownBlock) : Off v u.ownBlock := fun g hg e => h g e hg

/-- What lies in memory in the middle of a row. -/
structure LS (w2 : World) (B2 ob : Nat) (vc : Value) (wi : World) (ov tv xv vt vx : Value) (O to' : List Nat) (cut : List Bool) (oT : List (List Nat)) (oX : List (List Bool)) : Prop where
  o1 : wi.ownsRow B2 3 1 ov O.length (ints O)
  o2 : wi.ownsRow B2 3 1 tv to'.length (ints to')
  o3 : wi.ownsRow B2 4 1 xv cut.length (bools cut)
  o4 : Off tv ov.ownBlock
  r1 : RowsN wi B2 33 3 1 ints vt oT ov.ownBlock tv.ownBlock
  r2 : RowsN wi B2 58 4 1 bools vx oX xv.ownBlock none
  hp : wi.heap[ob]? = some (.cells #[vc, vt, vx] 45 (0, 0))
  bl : Below B2 w2 wi
  sz : B2 ≤ wi.heap.size

section
variable {w2 wi w' : World} {B2 ob : Nat} {vc ov tv xv vt vx : Value} {O to' : List Nat} {cut : List Bool} {oT : List (List Nat)} {oX : List (List Bool)}
theorem LS.below (h : LS w2 B2 ob vc wi ov tv xv vt vx O to' cut oT oX) (hb : Below wi.heap.size wi w') : LS w2 B2 ob vc w' ov tv xv vt vx O to' cut oT oX :=
  ⟨own_below h.o1 hb (Nat.le_refl _), own_below h.o2 hb (Nat.le_refl _), own_below h.o3 hb (Nat.le_refl _), h.o4, h.r1.below hb (Nat.le_refl _), h.r2.below hb (Nat.le_refl _), by rw [hb.block _ (lt_of_block h.hp)]; exact h.hp, h.bl.trans (hb.mono h.sz), Nat.le_trans h.sz hb.size⟩
theorem LS.bgrow {o : Obj} {e n : Nat} {v : Value} {xs : List Value} (h : LS w2 B2 ob vc wi ov tv xv vt vx O to' cut oT oX) (ho : wi.ownsRow B2 e 1 v n xs) (hg : (wi.alloc o).grownBy w' v.ownBlock) : Below B2 w2 w' ∧ B2 ≤ w'.heap.size := by
  have hs := h.sz
  have h1 := hg.size
  simp at h1
  exact ⟨(h.bl.alloc hs _).grown hg (by simp; omega) (fun k hk => (own_lt ho k hk).1), by omega⟩
theorem LS.pgrow {o : Obj} {e n : Nat} {v : Value} {xs : List Value} (h : LS w2 B2 ob vc wi ov tv xv vt vx O to' cut oT oX) (ho : wi.ownsRow B2 e 1 v n xs) (hg : (wi.alloc o).grownBy w' v.ownBlock) (he : e ≠ 45) : w'.heap[ob]? = some (.cells #[vc, vt, vx] 45 (0, 0)) :=
  app_keep ho hg h.hp (fun c e1 => by injection e1 with _ e1; exact he e1.symm)
theorem LS.app_o {o : Obj} {g cap H : Nat} {x : Nat} (h : LS w2 B2 ob vc wi ov tv xv vt vx O to' cut oT oX) (ho : w'.ownsRow B2 3 1 (.slice (some ⟨g, 0, none⟩) (O.length + 1) cap) (O.length + 1) (ints O ++ [.int .i64 (x : Int)])) (hg : (wi.alloc o).grownBy w' ov.ownBlock) (hw : ov.ownBlock = some g ∨ g = H) (hH : wi.heap.size ≤ H) :
    LS w2 B2 ob vc w' (.slice (some ⟨g, 0, none⟩) (O.length + 1) cap) tv xv vt vx (O ++ [x]) to' cut oT oX := by
  obtain ⟨b1, b2⟩ := h.bgrow h.o1 hg
  obtain ⟨vs1, hv1, _⟩ := h.r1
  obtain ⟨vs2, hv2, _⟩ := h.r2
  refine ⟨by rw [List.length_append, List.length_singleton, ints_append]; exact ho, own_off h.o2 hg h.o4, own_off h.o3 hg (off_types h.o3 h.o1 (by decide)), off_new h.o2 h.o4 hw hH, h.r1.growA hg (off_types hv1 h.o1 (by decide)) hw hH,
    h.r2.far hg (off_types hv2 h.o1 (by decide)) (fun u xs n hu => off_types hu h.o1 (by decide)), h.pgrow h.o1 hg (by decide), b1, b2⟩
theorem LS.app_t {o : Obj} {g cap H : Nat} {x : Nat} (h : LS w2 B2 ob vc wi ov tv xv vt vx O to' cut oT oX) (ho : w'.ownsRow B2 3 1 (.slice (some ⟨g, 0, none⟩) (to'.length + 1) cap) (to'.length + 1) (ints to' ++ [.int .i64 (x : Int)])) (hg : (wi.alloc o).grownBy w' tv.ownBlock) (hw : tv.ownBlock = some g ∨ g = H) (hH : wi.heap.size ≤ H) :
    LS w2 B2 ob vc w' ov (.slice (some ⟨g, 0, none⟩) (to'.length + 1) cap) xv vt vx O (to' ++ [x]) cut oT oX := by
  obtain ⟨b1, b2⟩ := h.bgrow h.o2 hg
  obtain ⟨vs1, hv1, _⟩ := h.r1
  obtain ⟨vs2, hv2, _⟩ := h.r2
  refine ⟨own_off h.o1 hg (off_symm h.o4), by rw [List.length_append, List.length_singleton, ints_append]; exact ho, own_off h.o3 hg (off_types h.o3 h.o2 (by decide)), off_symm (off_new h.o1 (off_symm h.o4) hw hH : Off ov (Value.slice (some ⟨g, 0, none⟩) (to'.length + 1) cap).ownBlock), h.r1.growB hg (off_types hv1 h.o2 (by decide)) hw hH,
    h.r2.far hg (off_types hv2 h.o2 (by decide)) (fun u xs n hu => off_types hu h.o2 (by decide)), h.pgrow h.o2 hg (by decide), b1, b2⟩
theorem LS.app_x {o : Obj} {g cap H : Nat} {x : Bool} (h : LS w2 B2 ob vc wi ov tv xv vt vx O to' cut oT oX) (ho : w'.ownsRow B2 4 1 (.slice (some ⟨g, 0, none⟩) (cut.length + 1) cap) (cut.length + 1) (bools cut ++ [.bool x])) (hg : (wi.alloc o).grownBy w' xv.ownBlock) (hw : xv.ownBlock = some g ∨ g = H) (hH : wi.heap.size ≤ H) :
    LS w2 B2 ob vc w' ov tv (.slice (some ⟨g, 0, none⟩) (cut.length + 1) cap) vt vx O to' (cut ++ [x]) oT oX := by
  obtain ⟨b1, b2⟩ := h.bgrow h.o3 hg
  obtain ⟨vs1, hv1, _⟩ := h.r1
  obtain ⟨vs2, hv2, _⟩ := h.r2
  refine ⟨own_off h.o1 hg (off_types h.o1 h.o3 (by decide)), own_off h.o2 hg (off_types h.o2 h.o3 (by decide)), by rw [List.length_append, List.length_singleton]; simpa [bools] using ho, h.o4, h.r1.far hg (off_types hv1 h.o3 (by decide)) (fun u xs n hu => off_types hu h.o3 (by decide)),
    h.r2.growA hg (off_types hv2 h.o3 (by decide)) hw hH, h.pgrow h.o3 hg (by decide), b1, b2⟩
/-- The row of arrows is laid into the table. -/
theorem LS.pushT {o : Obj} {g cap : Nat} {vs : List Value} (h : LS w2 B2 ob vc wi ov tv xv vt vx O to' cut oT oX) (hv : wi.ownsRow B2 33 1 vt oT.length vs) (hu : ∀ (i : Nat) (l : List Nat), oT[i]? = some l → ∃ u, vs[i]? = some u ∧ wi.ownsRow B2 3 1 u l.length (ints l) ∧ Off u ov.ownBlock ∧ Off u tv.ownBlock)
    (ho : w'.ownsRow B2 33 1 (.slice (some ⟨g, 0, none⟩) (oT.length + 1) cap) (oT.length + 1) (vs ++ [tv])) (hg : (wi.alloc o).grownBy w' vt.ownBlock) (hob : B2 ≤ ob) :
    LS w2 B2 ob vc (w'.setCell ⟨ob, 1, none⟩ (.slice (some ⟨g, 0, none⟩) (oT.length + 1) cap)) ov (.slice none 0 0) xv (.slice (some ⟨g, 0, none⟩) (oT.length + 1) cap) vx O [] cut (oT ++ [to']) oX := by
  obtain ⟨b1, b2⟩ := h.bgrow hv hg
  have hp' := h.pgrow hv hg (by decide)
  obtain ⟨vs2, hv2, _⟩ := h.r2
  refine ⟨own_turn hp' (own_off h.o1 hg (off_types h.o1 hv (by decide))) (by decide), World.ownsRow_nil _ _ _ _, own_turn hp' (own_off h.o3 hg (off_types h.o3 hv (by decide))) (by decide), (fun g hg => by cases hg),
    (rowsN_push hv hu (by decide) h.o2 h.o4 ho hg).turn hp' (by decide) (by decide), (h.r2.far hg (off_types hv2 hv (by decide)) (fun u xs n hu => off_types hu hv (by decide))).turn hp' (by decide) (by decide), heap_setCell_same w' ob 1 _ _ _ hp', b1.setCell (p := ⟨ob, 1, none⟩) hob _, by simp; omega⟩
theorem LS.pushX {o : Obj} {g cap : Nat} {vs : List Value} (h : LS w2 B2 ob vc wi ov tv xv vt vx O to' cut oT oX) (hv : wi.ownsRow B2 58 1 vx oX.length vs) (hu : ∀ (i : Nat) (l : List Bool), oX[i]? = some l → ∃ u, vs[i]? = some u ∧ wi.ownsRow B2 4 1 u l.length (bools l) ∧ Off u xv.ownBlock ∧ Off u none)
    (ho : w'.ownsRow B2 58 1 (.slice (some ⟨g, 0, none⟩) (oX.length + 1) cap) (oX.length + 1) (vs ++ [xv])) (hg : (wi.alloc o).grownBy w' vx.ownBlock) (hob : B2 ≤ ob) :
    LS w2 B2 ob vc (w'.setCell ⟨ob, 2, none⟩ (.slice (some ⟨g, 0, none⟩) (oX.length + 1) cap)) ov tv (.slice none 0 0) vt (.slice (some ⟨g, 0, none⟩) (oX.length + 1) cap) O to' [] oT (oX ++ [cut]) := by
  obtain ⟨b1, b2⟩ := h.bgrow hv hg
  have hp' := h.pgrow hv hg (by decide)
  obtain ⟨vs1, hv1, _⟩ := h.r1
  have hu' : ∀ (i : Nat) (l : List Bool), oX[i]? = some l → ∃ u, vs[i]? = some u ∧ wi.ownsRow B2 4 1 u l.length (bools l) ∧ Off u none ∧ Off u none := fun i l hl => (hu i l hl).elim fun u g => ⟨u, g.1, g.2.1, off_none u, off_none u⟩
  refine ⟨own_turn hp' (own_off h.o1 hg (off_types h.o1 hv (by decide))) (by decide), own_turn hp' (own_off h.o2 hg (off_types h.o2 hv (by decide))) (by decide), World.ownsRow_nil _ _ _ _, h.o4,
    (h.r1.far hg (off_types hv1 hv (by decide)) (fun u xs n hu => off_types hu hv (by decide))).turn hp' (by decide) (by decide), (rowsN_push hv hu' (by decide) h.o3 (off_none xv) ho hg).turn hp' (by decide) (by decide), heap_setCell_same w' ob 2 _ _ _ hp', b1.setCell (p := ⟨ob, 2, none⟩) hob _, by simp; omega⟩
end

end Go.Proofs.YtnecjeambpikdaaGreatDoor
