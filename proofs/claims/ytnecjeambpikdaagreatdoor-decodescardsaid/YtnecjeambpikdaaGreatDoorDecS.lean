/-
  The document's table while its text is read, in memory, and what the walk through Decode holds. Own work.
-/
import Derived.Test.YtnecjeambpikdaaGreatDoorLeastW
import Derived.Test.YtnecjeambpikdaaGreatDoorNumB
import Derived.Test.YtnecjeambpikdaaGreatDoorDecP
import Derived.Test.YtnecjeambpikdaaGreatDoorEnv
namespace Go.Proofs.YtnecjeambpikdaaGreatDoor
open Go.RowKit

/-- Classes as cells: a name, and a slice of ranges. -/
def clc (us : List Value) : List Value := us.flatMap fun u => [.string ⟨#[]⟩, u]
theorem clc_length (us : List Value) : (clc us).length = us.length * 2 := pairs_length _ _ us
theorem clc_snoc (us : List Value) (u : Value) : clc (us ++ [u]) = clc us ++ [.string ⟨#[]⟩, u] := by simp [clc]
theorem clc_set (us : List Value) (u u' : Value) : (clc (us ++ [u])).set (us.length * 2 + 1) u' = clc (us ++ [u']) := by
  rw [clc_snoc, clc_snoc, List.set_append_right _ _ (by rw [clc_length]; omega), clc_length]
  rw [show us.length * 2 + 1 - us.length * 2 = 1 by omega]
  rfl
theorem clc_last (us : List Value) (u : Value) : (clc (us ++ [u]))[us.length * 2 + 1]? = some u := by
  rw [clc_snoc, List.getElem?_append_right (by rw [clc_length]; omega), clc_length, show us.length * 2 + 1 - us.length * 2 = 1 by omega]
  rfl

/-- A block is written alone: whatever is owned elsewhere stays. -/
theorem own_alone {w w' : World} {b : Nat} {base e size n : Nat} {v : Value} {xs : List Value} (h : w.ownsRow base e size v n xs) (hg : w.grownBy w' (some b)) (ho : Off v (some b)) : w'.ownsRow base e size v n xs := by
  refine h.kept hg ?_
  cases hv : v.ownBlock with
  | none => exact .inl rfl
  | some g => exact .inr (fun e => ho g hv e.symm)
theorem off_block {w : World} {base e size n b : Nat} {v : Value} {xs : List Value} {o : Obj} (h : w.ownsRow base e size v n xs) (hb : w.heap[b]? = some o) (ho : ∀ c, o ≠ .cells c e (0, 0)) : Off v (some b) := fun g hg e => own_not h hb ho (by rw [hg]; exact e)

/-- The classes that are read: all of them done. -/
structure CO (w0 : World) (B2 tb : Nat) (wi : World) (v : Value) (cls : List (List (Nat × Nat))) : Prop where
  oc : ∃ us : List Value, us.length = cls.length ∧ wi.ownsRow B2 55 2 v cls.length (clc us) ∧ ∀ (i : Nat) (l : List (Nat × Nat)), cls[i]? = some l → ∃ u, us[i]? = some u ∧ wi.ownsRow B2 57 2 u l.length (rngs .i64 l)
  hp : wi.heap[tb]? = some (.cells #[v, .slice none 0 0, .slice none 0 0] 45 (0, 0))
  bl : Below B2 w0 wi
  sz : B2 ≤ wi.heap.size

/-- .. and one that is being read. X: the block of the range that is read. -/
structure CS (w0 : World) (B2 tb : Nat) (wi : World) (v : Value) (cls : List (List (Nat × Nat))) (cur : List (Nat × Nat)) (us : List Value) (lv : Value) (X : Option Nat) : Prop where
  ul : us.length = cls.length
  oc : wi.ownsRow B2 55 2 v (cls.length + 1) (clc (us ++ [lv]))
  ol : wi.ownsRow B2 57 2 lv cur.length (rngs .i64 cur)
  lx : Off lv X
  ou : ∀ (i : Nat) (l : List (Nat × Nat)), cls[i]? = some l → ∃ u, us[i]? = some u ∧ wi.ownsRow B2 57 2 u l.length (rngs .i64 l) ∧ Off u lv.ownBlock ∧ Off u X
  hp : wi.heap[tb]? = some (.cells #[v, .slice none 0 0, .slice none 0 0] 45 (0, 0))
  bl : Below B2 w0 wi
  sz : B2 ≤ wi.heap.size

section
variable {w0 wi w' : World} {B2 tb fb : Nat} {v lv : Value} {cls : List (List (Nat × Nat))} {cur : List (Nat × Nat)} {us : List Value} {X : Option Nat} {s : ByteArray} {ok : Bool}
theorem CO.feed (h : CO w0 B2 tb wi v cls) (hf : FeedAt wi fb s ok) (hg : wi.grownBy w' (some fb)) (hfb : B2 ≤ fb) : CO w0 B2 tb w' v cls := by
  obtain ⟨us, h1, h2, h3⟩ := h.oc
  refine ⟨⟨us, h1, own_alone h2 hg (off_block h2 hf (fun c e => by injection e with _ e; cases e)), fun i l hl => ?_⟩, ?_, h.bl.grown hg h.sz (fun k hk => by injection hk with hk; omega), Nat.le_trans h.sz hg.size⟩
  · obtain ⟨u, g1, g2⟩ := h3 i l hl
    exact ⟨u, g1, own_alone g2 hg (off_block g2 hf (fun c e => by injection e with _ e; cases e))⟩
  · rw [hg.block tb (lt_of_block h.hp) (fun e => by
      injection e with e
      have h4 := h.hp
      rw [e, hf] at h4
      cases h4)]
    exact h.hp
theorem CS.feed (h : CS w0 B2 tb wi v cls cur us lv X) (hf : FeedAt wi fb s ok) (hg : wi.grownBy w' (some fb)) (hfb : B2 ≤ fb) : CS w0 B2 tb w' v cls cur us lv X := by
  refine ⟨h.ul, own_alone h.oc hg (off_block h.oc hf (fun c e => by injection e with _ e; cases e)), own_alone h.ol hg (off_block h.ol hf (fun c e => by injection e with _ e; cases e)), h.lx, fun i l hl => ?_, ?_, h.bl.grown hg h.sz (fun k hk => by injection hk with hk; omega), Nat.le_trans h.sz hg.size⟩
  · obtain ⟨u, g1, g2, g3, g4⟩ := h.ou i l hl
    exact ⟨u, g1, own_alone g2 hg (off_block g2 hf (fun c e => by injection e with _ e; cases e)), g3, g4⟩
  · rw [hg.block tb (lt_of_block h.hp) (fun e => by
      injection e with e
      have h4 := h.hp
      rw [e, hf] at h4
      cases h4)]
    exact h.hp
/-- A block is made for the range that is read. -/
theorem CS.alloc (h : CS w0 B2 tb wi v cls cur us lv X) (o : Obj) : CS w0 B2 tb (wi.alloc o) v cls cur us lv (some wi.heap.size) := by
  have hlt : ∀ {e size n : Nat} {u : Value} {xs : List Value}, wi.ownsRow B2 e size u n xs → Off u (some wi.heap.size) := fun hu g hg e => by
    injection e with e
    have := (own_lt hu g hg).2
    omega
  refine ⟨h.ul, h.oc.alloc o, h.ol.alloc o, hlt h.ol, fun i l hl => ?_, heap_push_old h.hp o, h.bl.alloc h.sz o, by have := h.sz; simp; omega⟩
  obtain ⟨u, g1, g2, g3, g4⟩ := h.ou i l hl
  exact ⟨u, g1, g2.alloc o, g3, hlt g2⟩
/-- It is stored into. -/
theorem CS.setX {q j : Nat} {x : Value} {c : Array Value} (h : CS w0 B2 tb wi v cls cur us lv (some q)) (hq : wi.heap[q]? = some (.cells c 57 (0, 0))) (hB : B2 ≤ q) : CS w0 B2 tb (wi.setCell ⟨q, j, none⟩ x) v cls cur us lv (some q) := by
  have hg : wi.grownBy (wi.setCell ⟨q, j, none⟩ x) (some q) := ⟨rfl, rfl, rfl, by simp, fun k _ hk => heap_setCell_other wi ⟨q, j, none⟩ k x (fun e => hk (by simp [e]))⟩
  refine ⟨h.ul, own_alone h.oc hg (off_block h.oc hq (fun c e => by injection e with _ e; cases e)), own_alone h.ol hg h.lx, h.lx, fun i l hl => ?_, ?_, h.bl.setCell (p := ⟨q, j, none⟩) hB _, by have := h.sz; simp; omega⟩
  · obtain ⟨u, g1, g2, g3, g4⟩ := h.ou i l hl
    exact ⟨u, g1, own_alone g2 hg g4, g3, g4⟩
  · rw [heap_setCell_other wi ⟨q, j, none⟩ tb x (fun e => by
      have h4 := h.hp
      simp only at e
      rw [e, hq] at h4
      cases h4)]
    exact h.hp
/-- A range is appended, and the slice laid back into its class. -/
theorem CS.push {o : Obj} {g cap H gc cc : Nat} {x : Nat × Nat} (h : CS w0 B2 tb wi (.slice (some ⟨gc, 0, none⟩) (cls.length + 1) cc) cls cur us lv X) (ho : w'.ownsRow B2 57 2 (.slice (some ⟨g, 0, none⟩) (cur.length + 1) cap) (cur.length + 1) (rngs .i64 cur ++ [.int .i64 (x.1 : Int), .int .i64 (x.2 : Int)]))
    (hg : (wi.alloc o).grownBy w' lv.ownBlock) (hw : lv.ownBlock = some g ∨ g = H) (hH : wi.heap.size ≤ H) :
    CS w0 B2 tb (w'.setCell ⟨gc, cls.length * 2 + 1, none⟩ (.slice (some ⟨g, 0, none⟩) (cur.length + 1) cap)) (.slice (some ⟨gc, 0, none⟩) (cls.length + 1) cc) cls (cur ++ [x]) us (.slice (some ⟨g, 0, none⟩) (cur.length + 1) cap) none := by
  have hs := h.sz
  have hs1 := hg.size
  simp at hs1
  have hb1 : Below B2 w0 w' := (h.bl.alloc hs _).grown hg (by simp; omega) (fun k hk => (own_lt h.ol k hk).1)
  have hoc := own_off h.oc hg (off_types h.oc h.ol (by decide))
  obtain ⟨cg, hcg, hcb⟩ : ∃ c, w'.heap[gc]? = some (.cells c 55 (0, 0)) ∧ B2 ≤ gc := by
    rcases hoc.2 with ⟨e, _⟩ | ⟨g', cap', cur', e, hb', hh, _⟩
    · cases e
    · injection e with e; injection e with e; injection e with e
      subst e
      exact ⟨_, hh, hb'⟩
  refine ⟨h.ul, ?_, ?_, off_none _, fun i l hl => ?_, ?_, hb1.setCell (p := ⟨gc, cls.length * 2 + 1, none⟩) hcb _, by simp; omega⟩
  · have := (hoc.stored (cls.length * 2 + 1) (.slice (some ⟨g, 0, none⟩) (cur.length + 1) cap)).1
    rw [← h.ul, clc_set] at this
    rw [← h.ul]
    exact this
  · rw [List.length_append, List.length_singleton]
    have : rngs .i64 (cur ++ [x]) = rngs .i64 cur ++ [.int .i64 (x.1 : Int), .int .i64 (x.2 : Int)] := by simp [rngs]
    rw [this]
    exact own_turn hcg ho (by decide)
  · obtain ⟨u, g1, g2, g3, g4⟩ := h.ou i l hl
    exact ⟨u, g1, own_turn hcg (own_off g2 hg g3) (by decide), off_new g2 g3 hw hH, off_none u⟩
  · rw [heap_setCell_other w' ⟨gc, cls.length * 2 + 1, none⟩ tb _ (fun e => by
      have h4 := app_keep h.ol hg h.hp (fun c e1 => by injection e1 with _ e1; cases e1)
      simp only at e
      rw [e, hcg] at h4
      cases h4)]
    exact app_keep h.ol hg h.hp (fun c e1 => by injection e1 with _ e1; cases e1)
/-- A new class begins. -/
theorem CO.begin_ {o : Obj} {g cap : Nat} {us : List Value} (h : CO w0 B2 tb wi v cls) (hul : us.length = cls.length) (hv : wi.ownsRow B2 55 2 v cls.length (clc us)) (hu : ∀ (i : Nat) (l : List (Nat × Nat)), cls[i]? = some l → ∃ u, us[i]? = some u ∧ wi.ownsRow B2 57 2 u l.length (rngs .i64 l))
    (ho : w'.ownsRow B2 55 2 (.slice (some ⟨g, 0, none⟩) (cls.length + 1) cap) (cls.length + 1) (clc us ++ [.string ⟨#[]⟩, .slice none 0 0])) (hg : (wi.alloc o).grownBy w' v.ownBlock) (htb : B2 ≤ tb) :
    CS w0 B2 tb (w'.setCell ⟨tb, 0, none⟩ (.slice (some ⟨g, 0, none⟩) (cls.length + 1) cap)) (.slice (some ⟨g, 0, none⟩) (cls.length + 1) cap) cls [] us (.slice none 0 0) none := by
  have hs := h.sz
  have hs1 := hg.size
  simp at hs1
  have hb1 : Below B2 w0 w' := (h.bl.alloc hs _).grown hg (by simp; omega) (fun k hk => (own_lt hv k hk).1)
  have hp' := app_keep hv hg h.hp (fun c e1 => by injection e1 with _ e1; cases e1)
  refine ⟨hul, own_turn hp' (by rw [clc_snoc]; exact ho) (by decide), World.ownsRow_nil _ _ _ _, off_none _, fun i l hl => ?_, heap_setCell_same w' tb 0 _ _ _ hp', hb1.setCell (p := ⟨tb, 0, none⟩) htb _, by simp; omega⟩
  obtain ⟨u, g1, g2⟩ := hu i l hl
  exact ⟨u, g1, own_turn hp' (own_off g2 hg (off_types g2 hv (by decide))) (by decide), (fun g hg e => by cases e), off_none u⟩
/-- A class is done. -/
theorem CS.done (h : CS w0 B2 tb wi v cls cur us lv X) : CO w0 B2 tb wi v (cls ++ [cur]) := by
  refine ⟨⟨us ++ [lv], by simp [h.ul], by rw [List.length_append, List.length_singleton]; exact h.oc, fun i l hl => ?_⟩, h.hp, h.bl, h.sz⟩
  rcases Nat.lt_or_ge i cls.length with hi | hi
  · rw [List.getElem?_append_left hi] at hl
    obtain ⟨u, g1, g2, _, _⟩ := h.ou i l hl
    exact ⟨u, by rw [List.getElem?_append_left (by have := h.ul; omega)]; exact g1, g2⟩
  · rw [List.getElem?_append_right hi] at hl
    have hi0 : i - cls.length = 0 := by
      rcases Nat.eq_zero_or_pos (i - cls.length) with h | h
      · exact h
      · rw [List.getElem?_eq_none (by simp; omega)] at hl; cases hl
    rw [hi0] at hl
    injection hl with hl
    subst hl
    exact ⟨lv, by rw [List.getElem?_append_right (by have := h.ul; omega), h.ul, hi0]; rfl, h.ol⟩
end

end Go.Proofs.YtnecjeambpikdaaGreatDoor
namespace Go.Proofs.YtnecjeambpikdaaGreatDoor
open Go.RowKit

theorem ne50 {c : Array Value} {e : TypeId} (he : e ≠ 50) {d : Array Value} : Obj.cells c 50 (0, 0) ≠ .cells d e (0, 0) := fun h => by injection h with _ h; exact he h.symm
section
variable {w w' : World} {fb : Nat} {s : ByteArray} {ok : Bool}
theorem feed_app {o : Obj} {base e size n : Nat} {v : Value} {xs : List Value} (h : FeedAt w fb s ok) (ho : w.ownsRow base e size v n xs) (hg : (w.alloc o).grownBy w' v.ownBlock) (he : e ≠ 50) : FeedAt w' fb s ok := app_keep ho hg h (fun _ => ne50 he)
theorem feed_set {g j : Nat} {c : Array Value} {e : TypeId} {x : Value} (h : FeedAt w fb s ok) (hg : w.heap[g]? = some (.cells c e (0, 0))) (he : e ≠ 50) : FeedAt (w.setCell ⟨g, j, none⟩ x) fb s ok := by
  show (w.setCell ⟨g, j, none⟩ x).heap[fb]? = _
  rw [heap_setCell_other w ⟨g, j, none⟩ fb x (fun e1 => by
    simp only at e1
    subst e1
    rw [h] at hg
    injection hg with hg
    injection hg with _ hg
    exact he hg.symm)]
  exact h
theorem feed_alloc (h : FeedAt w fb s ok) (o : Obj) : FeedAt (w.alloc o) fb s ok := heap_push_old h o
theorem feed_bad (h : FeedAt w fb s ok) : FeedAt (w.setCell ⟨fb, 1, none⟩ (.bool false)) fb s false ∧ w.grownBy (w.setCell ⟨fb, 1, none⟩ (.bool false)) (some fb) :=
  ⟨heap_setCell_same w fb 1 _ _ _ h, rfl, rfl, rfl, by simp, fun k _ hk => heap_setCell_other w ⟨fb, 1, none⟩ k _ (fun e => hk (by simp [e]))⟩
end

section
variable {w w' : World} {base : Nat} {v : Value} {cl : List (List (Nat × Nat))}
theorem ClsAt.off {o : Obj} {e size n : Nat} {u : Value} {xs : List Value} (h : ClsAt w base v cl) (ho : w.ownsRow base e size u n xs) (hg : (w.alloc o).grownBy w' u.ownBlock) (h1 : e ≠ 55) (h2 : e ≠ 57) : ClsAt w' base v cl := by
  obtain ⟨us, g1, g2, g3⟩ := h
  exact ⟨us, g1, own_off g2 hg (off_types g2 ho (Ne.symm h1)), fun i l hl => (g3 i l hl).elim fun x hx => ⟨x, hx.1, own_off hx.2 hg (off_types hx.2 ho (Ne.symm h2))⟩⟩
theorem ClsAt.turn {g j : Nat} {c : Array Value} {e : TypeId} {x : Value} (h : ClsAt w base v cl) (hg : w.heap[g]? = some (.cells c e (0, 0))) (h1 : e ≠ 55) (h2 : e ≠ 57) : ClsAt (w.setCell ⟨g, j, none⟩ x) base v cl := by
  obtain ⟨us, g1, g2, g3⟩ := h
  exact ⟨us, g1, own_turn hg g2 h1, fun i l hl => (g3 i l hl).elim fun x hx => ⟨x, hx.1, own_turn hg hx.2 h2⟩⟩
theorem ClsAt.alone {b : Nat} {c : Array Value} {e : TypeId} (h : ClsAt w base v cl) (hb : w.heap[b]? = some (.cells c e (0, 0))) (hg : w.grownBy w' (some b)) (h1 : e ≠ 55) (h2 : e ≠ 57) : ClsAt w' base v cl := by
  obtain ⟨us, g1, g2, g3⟩ := h
  exact ⟨us, g1, own_alone g2 hg (off_block g2 hb (fun c e1 => by injection e1 with _ e1; exact h1 e1)), fun i l hl => (g3 i l hl).elim fun x hx => ⟨x, hx.1, own_alone hx.2 hg (off_block hx.2 hb (fun c e1 => by injection e1 with _ e1; exact h2 e1))⟩⟩
end
theorem RowsN.alone {α : Type} {w w' : World} {base eo ei size b : Nat} {enc : List α → List Value} {v : Value} {ll : List (List α)} {A B : Option Nat} {c : Array Value} {e : TypeId} (h : RowsN w base eo ei size enc v ll A B) (hb : w.heap[b]? = some (.cells c e (0, 0))) (hg : w.grownBy w' (some b)) (h1 : e ≠ eo) (h2 : e ≠ ei) : RowsN w' base eo ei size enc v ll A B := by
  obtain ⟨vs, g1, g2⟩ := h
  refine ⟨vs, own_alone g1 hg (off_block g1 hb (fun c e1 => by injection e1 with _ e1; exact h1 e1)), fun i l hl => ?_⟩
  obtain ⟨u, k1, k2, k3, k4⟩ := g2 i l hl
  exact ⟨u, k1, own_alone k2 hg (off_block k2 hb (fun c e1 => by injection e1 with _ e1; exact h2 e1)), k3, k4⟩

/-- Classes that are done, and rows of which one is being read. -/
structure DS (w0 : World) (B2 tb : Nat) (v : Value) (cls : List (List (Nat × Nat))) (wi : World) (tv xv vt vx : Value) (to' : List Nat) (cut : List Bool) (oT : List (List Nat)) (oX : List (List Bool)) : Prop where
  ls : LS w0 B2 tb v wi (.slice none 0 0) tv xv vt vx [] to' cut oT oX
  cl : ClsAt wi B2 v cls
section
variable {w0 wi w' : World} {B2 tb fb : Nat} {v tv xv vt vx : Value} {cls : List (List (Nat × Nat))} {to' : List Nat} {cut : List Bool} {oT : List (List Nat)} {oX : List (List Bool)} {s : ByteArray} {ok : Bool}
theorem CO.states (h : CO w0 B2 tb wi v cls) : DS w0 B2 tb v cls wi (.slice none 0 0) (.slice none 0 0) (.slice none 0 0) (.slice none 0 0) [] [] [] [] :=
  ⟨⟨World.ownsRow_nil _ _ _ _, World.ownsRow_nil _ _ _ _, World.ownsRow_nil _ _ _ _, (fun g hg => by cases hg), RowsN.nil _ _ _ _ _ _ _ _, RowsN.nil _ _ _ _ _ _ _ _, h.hp, h.bl, h.sz⟩, h.oc⟩
theorem DS.feed (h : DS w0 B2 tb v cls wi tv xv vt vx to' cut oT oX) (hf : FeedAt wi fb s ok) (hg : wi.grownBy w' (some fb)) (hfb : B2 ≤ fb) : DS w0 B2 tb v cls w' tv xv vt vx to' cut oT oX := by
  have h1 := h.ls
  refine ⟨⟨World.ownsRow_nil _ _ _ _, own_alone h1.o2 hg (off_block h1.o2 hf (fun _ => ne50 (by decide))), own_alone h1.o3 hg (off_block h1.o3 hf (fun _ => ne50 (by decide))), h1.o4, h1.r1.alone hf hg (by decide) (by decide), h1.r2.alone hf hg (by decide) (by decide), ?_,
    h1.bl.grown hg h1.sz (fun k hk => by injection hk with hk; omega), Nat.le_trans h1.sz hg.size⟩, h.cl.alone hf hg (by decide) (by decide)⟩
  rw [hg.block tb (lt_of_block h1.hp) (fun e => by
    injection e with e
    have h4 := h1.hp
    rw [e, hf] at h4
    cases h4)]
  exact h1.hp
theorem DS.app_t {o : Obj} {g cap H : Nat} {x : Nat} (h : DS w0 B2 tb v cls wi tv xv vt vx to' cut oT oX) (ho : w'.ownsRow B2 3 1 (.slice (some ⟨g, 0, none⟩) (to'.length + 1) cap) (to'.length + 1) (ints to' ++ [.int .i64 (x : Int)])) (hg : (wi.alloc o).grownBy w' tv.ownBlock) (hw : tv.ownBlock = some g ∨ g = H) (hH : wi.heap.size ≤ H) :
    DS w0 B2 tb v cls w' (.slice (some ⟨g, 0, none⟩) (to'.length + 1) cap) xv vt vx (to' ++ [x]) cut oT oX := ⟨h.ls.app_t ho hg hw hH, h.cl.off h.ls.o2 hg (by decide) (by decide)⟩
theorem DS.app_x {o : Obj} {g cap H : Nat} {x : Bool} (h : DS w0 B2 tb v cls wi tv xv vt vx to' cut oT oX) (ho : w'.ownsRow B2 4 1 (.slice (some ⟨g, 0, none⟩) (cut.length + 1) cap) (cut.length + 1) (bools cut ++ [.bool x])) (hg : (wi.alloc o).grownBy w' xv.ownBlock) (hw : xv.ownBlock = some g ∨ g = H) (hH : wi.heap.size ≤ H) :
    DS w0 B2 tb v cls w' tv (.slice (some ⟨g, 0, none⟩) (cut.length + 1) cap) vt vx to' (cut ++ [x]) oT oX := ⟨h.ls.app_x ho hg hw hH, h.cl.off h.ls.o3 hg (by decide) (by decide)⟩
theorem DS.pushT {o : Obj} {g cap : Nat} {vs : List Value} (h : DS w0 B2 tb v cls wi tv xv vt vx to' cut oT oX) (hv : wi.ownsRow B2 33 1 vt oT.length vs) (hu : ∀ (i : Nat) (l : List Nat), oT[i]? = some l → ∃ u, vs[i]? = some u ∧ wi.ownsRow B2 3 1 u l.length (ints l) ∧ Off u (Value.slice none 0 0).ownBlock ∧ Off u tv.ownBlock)
    (ho : w'.ownsRow B2 33 1 (.slice (some ⟨g, 0, none⟩) (oT.length + 1) cap) (oT.length + 1) (vs ++ [tv])) (hg : (wi.alloc o).grownBy w' vt.ownBlock) (hob : B2 ≤ tb) :
    DS w0 B2 tb v cls (w'.setCell ⟨tb, 1, none⟩ (.slice (some ⟨g, 0, none⟩) (oT.length + 1) cap)) (.slice none 0 0) xv (.slice (some ⟨g, 0, none⟩) (oT.length + 1) cap) vx [] cut (oT ++ [to']) oX :=
  ⟨h.ls.pushT hv hu ho hg hob, (h.cl.off hv hg (by decide) (by decide)).turn (h.ls.pgrow hv hg (by decide)) (by decide) (by decide)⟩
theorem DS.pushX {o : Obj} {g cap : Nat} {vs : List Value} (h : DS w0 B2 tb v cls wi tv xv vt vx to' cut oT oX) (hv : wi.ownsRow B2 58 1 vx oX.length vs) (hu : ∀ (i : Nat) (l : List Bool), oX[i]? = some l → ∃ u, vs[i]? = some u ∧ wi.ownsRow B2 4 1 u l.length (bools l) ∧ Off u xv.ownBlock ∧ Off u none)
    (ho : w'.ownsRow B2 58 1 (.slice (some ⟨g, 0, none⟩) (oX.length + 1) cap) (oX.length + 1) (vs ++ [xv])) (hg : (wi.alloc o).grownBy w' vx.ownBlock) (hob : B2 ≤ tb) :
    DS w0 B2 tb v cls (w'.setCell ⟨tb, 2, none⟩ (.slice (some ⟨g, 0, none⟩) (oX.length + 1) cap)) tv (.slice none 0 0) vt (.slice (some ⟨g, 0, none⟩) (oX.length + 1) cap) to' [] oT (oX ++ [cut]) :=
  ⟨h.ls.pushX hv hu ho hg hob, (h.cl.off hv hg (by decide) (by decide)).turn (h.ls.pgrow hv hg (by decide)) (by decide) (by decide)⟩
theorem DS.tab {st : List (List (Nat × Bool))} (h : DS w0 B2 tb v cls wi tv xv vt vx to' cut (st.map (·.map Prod.fst)) (st.map (·.map Prod.snd))) : RTab wi B2 tb cls st := ⟨v, vt, vx, h.ls.hp, h.cl, h.ls.r1.rows, h.ls.r2.rows⟩
end

end Go.Proofs.YtnecjeambpikdaaGreatDoor
namespace Go.Proofs.YtnecjeambpikdaaGreatDoor
open Go.RowKit

theorem info55 : (Tryz.prog.info? 55).map (fun i => (i.zero, i.size, i.bytes)) = some (some (.agg #[.string ⟨#[]⟩, .slice none 0 0]), 2, 40) := by kernel_rfl
theorem info57 : (Tryz.prog.info? 57).map (fun i => (i.zero, i.size, i.bytes)) = some (some (.agg #[.int .i64 0, .int .i64 0]), 2, 16) := by kernel_rfl
theorem two_news (w : World) (a b : Value) (e : TypeId) : ∀ j x, [a, b][j]? = some x → (w.alloc (.cells #[a, b] e)).cell? ((⟨w.heap.size, 0, none⟩ : Addr).add j) = some x := by
  intro j x h
  rw [addr_add]
  refine row_cell (heap_push_new w _) ?_
  rw [← h]
  simp
theorem two_cls (s : ByteArray) : ∀ u ∈ [Value.string s, .slice none 0 0], u.oneCell' = true := by intro u h; simp at h; rcases h with rfl | rfl <;> rfl
theorem two_rng (a b : Int) : ∀ u ∈ [Value.int .i64 a, .int .i64 b], u.oneCell' = true := by intro u h; simp at h; rcases h with rfl | rfl <;> rfl

theorem CS.cell {w0 wi : World} {B2 tb gc cc : Nat} {cls : List (List (Nat × Nat))} {cur : List (Nat × Nat)} {us : List Value} {lv : Value} {X : Option Nat} (h : CS w0 B2 tb wi (.slice (some ⟨gc, 0, none⟩) (cls.length + 1) cc) cls cur us lv X) :
    wi.cell? ⟨gc, cls.length * 2 + 1, none⟩ = some lv ∧ wi.frozen? ⟨gc, cls.length * 2 + 1, none⟩ = false := by
  obtain ⟨g, cap, e, _, _, _, _, hc, hz⟩ := own_head h.oc (by omega)
  injection e with e e2 e3
  injection e with e
  injection e with e
  subst e
  exact ⟨hc _ _ (by rw [← h.ul]; exact clc_last us lv), hz _⟩
theorem span_yes {lo hi : Nat} (h1 : ¬ hi < lo) (h2 : ¬ (55296 ≤ lo ∧ lo ≤ 57343)) (h3 : ¬ (55296 ≤ hi ∧ hi ≤ 57343)) (h4 : lo ≤ 1114111) (h5 : hi ≤ 1114111) : spanOk lo hi = true := by
  unfold spanOk Lib.validRune
  simp
  omega
theorem span_not {lo hi : Nat} (h : hi < lo ∨ (55296 ≤ lo ∧ lo ≤ 57343) ∨ (55296 ≤ hi ∧ hi ≤ 57343)) : spanOk lo hi = false := by
  cases e : spanOk lo hi
  · rfl
  · unfold spanOk Lib.validRune at e
    simp at e
    omega

/-- What the document's Decode comes to. -/
def Dec5 (s : ByteArray) (w : World) (e : Ending) (w' : World) : Prop := Below w.heap.size w w' ∧
  ((20000 < s.size ∧ e = .returned (.tuple #[.pointer none, .int .i64 1])) ∨ (s.size ≤ 20000 ∧ (∀ T, Valid T → s.data.toList ≠ enc T) ∧ e = .returned (.tuple #[.pointer none, .int .i64 8])) ∨
  (s.size ≤ 20000 ∧ ∃ tb T, e = .returned (.tuple #[.pointer (some ⟨tb, 0, none⟩), .int .i64 0]) ∧ Valid T ∧ s.data.toList = enc T ∧ RTab w' w.heap.size tb T.classes T.states))

/-- The feed, while the head is read. -/
structure HF (w : World) (fb : Nat) (s : ByteArray) (S : ByteArray) (ok : Bool) (wi : World) : Prop where
  f : FeedAt wi fb S ok
  z : S.size ≤ s.size
  b : Below w.heap.size w wi
theorem HF.next {w : World} {fb : Nat} {s S S' : ByteArray} {ok ok' : Bool} {wi w' : World} (h : HF w fb s S ok wi) (hfb : fb = w.heap.size) (hf : FeedAt w' fb S' ok') (hz : S'.size ≤ S.size) (hg : wi.grownBy w' (some fb)) : HF w fb s S' ok' w' :=
  ⟨hf, Nat.le_trans hz h.z, h.b.grown hg (by have := h.b.size; omega) (fun k hk => by injection hk with hk; omega)⟩

/-- At the classes' loop. -/
structure IC (w : World) (fb tb : Nat) (s : ByteArray) (k n : Nat) (cls : List (List (Nat × Nat))) (v : Value) (S : ByteArray) (ok : Bool) (wi : World) : Prop where
  f : FeedAt wi fb S ok
  z : S.size ≤ s.size
  c : CO w w.heap.size tb wi v cls
  k : KC s.data.toList k n cls S ok
theorem HF.start {w : World} {fb k n : Nat} {s S : ByteArray} {ok : Bool} {wi : World} (h : HF w fb s S ok wi) (hk : KC s.data.toList k n [] S ok) : IC w fb wi.heap.size s k n [] (.slice none 0 0) S ok (wi.alloc (.cells #[.slice none 0 0, .slice none 0 0, .slice none 0 0] 45)) :=
  ⟨feed_alloc h.f _, h.z, ⟨⟨[], rfl, World.ownsRow_nil _ _ _ _, fun i l hl => by simp at hl⟩, heap_push_new _ _, h.b.alloc h.b.size _, by have := h.b.size; simp; omega⟩, hk⟩
/-- At the loop of a class's ranges. -/
structure IR (w : World) (fb tb : Nat) (s : ByteArray) (k n : Nat) (cls : List (List (Nat × Nat))) (cur : List (Nat × Nat)) (us : List Value) (v lv : Value) (more : Bool) (S : ByteArray) (ok : Bool) (wi : World) : Prop where
  f : FeedAt wi fb S ok
  z : S.size ≤ s.size
  c : CS w w.heap.size tb wi v cls cur us lv none
  k : KR s.data.toList k n cls cur more S ok
/-- In the middle of a range: x lies in the block X, and holds lo and hi. -/
structure IM (w : World) (fb tb : Nat) (s : ByteArray) (cls : List (List (Nat × Nat))) (cur : List (Nat × Nat)) (us : List Value) (v lv : Value) (X : Option Nat) (lo hi : Nat) (S : ByteArray) (ok : Bool) (P : List UInt8) (A : Prop) (R : Tbl → List UInt8 → Prop) (wi : World) : Prop where
  f : FeedAt wi fb S ok
  z : S.size ≤ s.size
  c : CS w w.heap.size tb wi v cls cur us lv X
  x : ∀ q, X = some q → w.heap.size ≤ q ∧ wi.heap[q]? = some (.cells #[.int .i64 (lo : Int), .int .i64 (hi : Int)] 57 (0, 0))
  k : Kn s.data.toList S ok P A R
section
variable {w : World} {fb tb : Nat} {s : ByteArray} {k n : Nat} {cls : List (List (Nat × Nat))} {cur : List (Nat × Nat)} {us : List Value} {v lv : Value} {more : Bool} {S : ByteArray} {ok : Bool} {wi w' : World} {X : Option Nat} {lo hi : Nat} {P : List UInt8} {A : Prop} {R : Tbl → List UInt8 → Prop}
theorem IM.xfeed (h : IM w fb tb s cls cur us v lv X lo hi S ok P A R wi) (hg : wi.grownBy w' (some fb)) : ∀ q, X = some q → w.heap.size ≤ q ∧ w'.heap[q]? = some (.cells #[.int .i64 (lo : Int), .int .i64 (hi : Int)] 57 (0, 0)) := by
  intro q hq
  obtain ⟨h1, h2⟩ := h.x q hq
  refine ⟨h1, ?_⟩
  rw [hg.block q (lt_of_block h2) (fun e => by
    injection e with e
    have h4 := h.f
    unfold FeedAt at h4
    rw [← e, h2] at h4
    cases h4)]
  exact h2
theorem IM.skip {t : ByteArray} {R' : Tbl → List UInt8 → Prop} (h : IM w fb tb s cls cur us v lv X lo hi S ok P A R wi) (hfb : w.heap.size ≤ fb) (hk : Skipped fb S t ok wi w') (hr : ok = true → A → ∀ T r, Bd T → R T r → ∃ r', r = t.data.toList ++ r' ∧ R' T r') :
    ∃ S' ok', IM w fb tb s cls cur us v lv X lo hi S' ok' (P ++ t.data.toList) A R' w' := by
  obtain ⟨S', ok', g1, g2, _, g4, g5⟩ := h.k.skip hk hr
  exact ⟨S', ok', g1, Nat.le_trans g2 h.z, h.c.feed h.f g4 hfb, h.xfeed g4, g5⟩
theorem IM.num {base most m : Nat} {R' : Nat → Tbl → List UInt8 → Prop} (h : IM w fb tb s cls cur us v lv X lo hi S ok P A R wi) (hfb : w.heap.size ≤ fb) (hk : Numbered base most fb S ok wi m w') (hr : ok = true → A → ∀ T r, Bd T → R T r → ∃ m r', m ≤ most ∧ r = digs base m ++ r' ∧ (∀ c r'', r' = c :: r'' → digOf c = none) ∧ R' m T r') :
    m ≤ most ∧ ∃ S' ok', IM w fb tb s cls cur us v lv X lo hi S' ok' (P ++ digs base m) A (R' m) w' := by
  obtain ⟨hm, S', ok', g1, g2, _, g4, g5⟩ := h.k.num hk hr
  exact ⟨hm, S', ok', g1, Nat.le_trans g2 h.z, h.c.feed h.f g4 hfb, h.xfeed g4, g5⟩
/-- The reader says no. -/
theorem IM.bad {A' : Prop} {P' : List UInt8} {R' : Tbl → List UInt8 → Prop} (h : IM w fb tb s cls cur us v lv X lo hi S ok P A R wi) (hfb : w.heap.size ≤ fb) (hk : Kn s.data.toList S false P' A' R') : IM w fb tb s cls cur us v lv X lo hi S false P' A' R' (wi.setCell ⟨fb, 1, none⟩ (.bool false)) :=
  ⟨(feed_bad h.f).1, h.z, h.c.feed h.f (feed_bad h.f).2 hfb, h.xfeed (feed_bad h.f).2, hk⟩
theorem IM.know {A' : Prop} {P' : List UInt8} {R' : Tbl → List UInt8 → Prop} (h : IM w fb tb s cls cur us v lv X lo hi S ok P A R wi) (hk : Kn s.data.toList S ok P' A' R') : IM w fb tb s cls cur us v lv X lo hi S ok P' A' R' wi := ⟨h.f, h.z, h.c, h.x, hk⟩
theorem IR.mid (h : IR w fb tb s k n cls cur us v lv more S ok wi) : IM w fb tb s cls cur us v lv none 0 0 S ok (hd k n ++ restC cls ++ txt cur more) (AR k n cls cur more) (RR k n cls cur more) wi := ⟨h.f, h.z, h.c, (fun q hq => by cases hq), h.k⟩
theorem IM.make (h : IM w fb tb s cls cur us v lv X lo hi S ok P A R wi) : IM w fb tb s cls cur us v lv (some wi.heap.size) 0 0 S ok P A R (wi.alloc (.cells #[.int .i64 0, .int .i64 0] 57)) :=
  ⟨feed_alloc h.f _, h.z, h.c.alloc _, (fun q hq => by injection hq with hq; subst hq; exact ⟨h.c.sz, heap_push_new _ _⟩), h.k⟩
theorem IM.setLo {q : Nat} (h : IM w fb tb s cls cur us v lv (some q) lo hi S ok P A R wi) (m : Nat) : IM w fb tb s cls cur us v lv (some q) m hi S ok P A R (wi.setCell ⟨q, 0, none⟩ (.int .i64 (m : Int))) := by
  obtain ⟨h1, h2⟩ := h.x q rfl
  exact ⟨feed_set h.f h2 (by decide), h.z, h.c.setX h2 h1, (fun p hp => by injection hp with hp; subst hp; exact ⟨h1, heap_setCell_same wi q 0 _ _ _ h2⟩), h.k⟩
theorem IM.setHi {q : Nat} (h : IM w fb tb s cls cur us v lv (some q) lo hi S ok P A R wi) (m : Nat) : IM w fb tb s cls cur us v lv (some q) lo m S ok P A R (wi.setCell ⟨q, 1, none⟩ (.int .i64 (m : Int))) := by
  obtain ⟨h1, h2⟩ := h.x q rfl
  exact ⟨feed_set h.f h2 (by decide), h.z, h.c.setX h2 h1, (fun p hp => by injection hp with hp; subst hp; exact ⟨h1, heap_setCell_same wi q 1 _ _ _ h2⟩), h.k⟩
/-- Behind the append of a range. -/
theorem IM.after {o : Obj} {q gc cc : Nat} (h : IM w fb tb s cls cur us (.slice (some ⟨gc, 0, none⟩) (cls.length + 1) cc) lv (some q) lo hi S ok P A R wi) (hg : (wi.alloc o).grownBy w' lv.ownBlock) :
    w'.cell? ⟨tb, 0, none⟩ = some (.slice (some ⟨gc, 0, none⟩) (cls.length + 1) cc) ∧ w'.cell? ⟨gc, cls.length * 2 + 1, none⟩ = some lv ∧ w'.frozen? ⟨gc, cls.length * 2 + 1, none⟩ = false ∧ w'.cell? ⟨q, 0, none⟩ = some (.int .i64 (lo : Int)) ∧ w'.cell? ⟨q, 1, none⟩ = some (.int .i64 (hi : Int)) := by
  have hoc := own_off h.c.oc hg (off_types h.c.oc h.c.ol (by decide))
  obtain ⟨g, cap, e, _, _, _, _, hc, hz⟩ := own_head hoc (by omega)
  injection e with e e2 e3
  injection e with e
  injection e with e
  subst e
  obtain ⟨_, h2⟩ := h.x q rfl
  have h3 := heap_push_old h2 o
  have h4 : w'.heap[q]? = some (.cells #[.int .i64 (lo : Int), .int .i64 (hi : Int)] 57 (0, 0)) := by
    rw [hg.block q (lt_of_block h3) (fun e => h.c.lx q e.symm rfl)]
    exact h3
  exact ⟨row_cell (app_keep h.c.ol hg h.c.hp (fun c e1 => by injection e1 with _ e1; cases e1)) rfl, hc _ _ (by rw [← h.c.ul]; exact clc_last us lv), hz _, row_cell h4 rfl, row_cell h4 rfl⟩
/-- .. and the slice is laid back. -/
theorem IM.pushed {o : Obj} {q gc cc g cap H : Nat} (h : IM w fb tb s cls cur us (.slice (some ⟨gc, 0, none⟩) (cls.length + 1) cc) lv (some q) lo hi S ok P A R wi) (hg : (wi.alloc o).grownBy w' lv.ownBlock)
    (ho : w'.ownsRow w.heap.size 57 2 (.slice (some ⟨g, 0, none⟩) (cur.length + 1) cap) (cur.length + 1) (rngs .i64 cur ++ [.int .i64 (lo : Int), .int .i64 (hi : Int)])) (hw : lv.ownBlock = some g ∨ g = H) (hH : wi.heap.size ≤ H) :
    IM w fb tb s cls (cur ++ [(lo, hi)]) us (.slice (some ⟨gc, 0, none⟩) (cls.length + 1) cc) (.slice (some ⟨g, 0, none⟩) (cur.length + 1) cap) none 0 0 S ok P A R (w'.setCell ⟨gc, cls.length * 2 + 1, none⟩ (.slice (some ⟨g, 0, none⟩) (cur.length + 1) cap)) := by
  have hoc := own_off h.c.oc hg (off_types h.c.oc h.c.ol (by decide))
  obtain ⟨cg, hcg⟩ : ∃ c, w'.heap[gc]? = some (.cells c 55 (0, 0)) := by
    rcases hoc.2 with ⟨e, _⟩ | ⟨g', cap', cur', e, hb', hh, _⟩
    · cases e
    · injection e with e; injection e with e; injection e with e
      subst e
      exact ⟨_, hh⟩
  exact ⟨feed_set (feed_app h.f h.c.ol hg (by decide)) hcg (by decide), h.z, h.c.push (x := (lo, hi)) ho hg hw hH, (fun q hq => by cases hq), h.k⟩
theorem IM.ne {q gc cc : Nat} (h : IM w fb tb s cls cur us (.slice (some ⟨gc, 0, none⟩) (cls.length + 1) cc) lv (some q) lo hi S ok P A R wi) : gc ≠ tb ∧ gc ≠ q := by
  obtain ⟨cg, hcg⟩ : ∃ c, wi.heap[gc]? = some (.cells c 55 (0, 0)) := by
    rcases h.c.oc.2 with ⟨e, _⟩ | ⟨g', cap', cur', e, hb', hh, _⟩
    · cases e
    · injection e with e; injection e with e; injection e with e
      subst e
      exact ⟨_, hh⟩
  refine ⟨fun e => ?_, fun e => ?_⟩
  · have h1 := h.c.hp
    rw [← e, hcg] at h1
    cases h1
  · have h1 := (h.x q rfl).2
    rw [← e, hcg] at h1
    cases h1
end

end Go.Proofs.YtnecjeambpikdaaGreatDoor
namespace Go.Proofs.YtnecjeambpikdaaGreatDoor
open Go.RowKit

/-- The feed and the table while states are read; K: what is known of the text. -/
structure ID (w : World) (fb tb : Nat) (s : ByteArray) (cls : List (List (Nat × Nat))) (v tv xv vt vx : Value) (to' : List Nat) (cut : List Bool) (oT : List (List Nat)) (oX : List (List Bool)) (S : ByteArray) (ok : Bool) (K : ByteArray → Bool → Prop) (wi : World) : Prop where
  f : FeedAt wi fb S ok
  z : S.size ≤ s.size
  d : DS w w.heap.size tb v cls wi tv xv vt vx to' cut oT oX
  k : K S ok
section
variable {w : World} {fb tb : Nat} {s : ByteArray} {cls : List (List (Nat × Nat))} {v tv xv vt vx : Value} {to' : List Nat} {cut : List Bool} {oT : List (List Nat)} {oX : List (List Bool)} {S S' : ByteArray} {ok ok' : Bool} {K K' : ByteArray → Bool → Prop} {wi w' : World}
theorem ID.move (h : ID w fb tb s cls v tv xv vt vx to' cut oT oX S ok K wi) (hfb : w.heap.size ≤ fb) (hf : FeedAt w' fb S' ok') (hz : S'.size ≤ S.size) (hg : wi.grownBy w' (some fb)) (hk : K' S' ok') : ID w fb tb s cls v tv xv vt vx to' cut oT oX S' ok' K' w' :=
  ⟨hf, Nat.le_trans hz h.z, h.d.feed h.f hg hfb, hk⟩
theorem ID.know (h : ID w fb tb s cls v tv xv vt vx to' cut oT oX S ok K wi) (hk : K' S ok) : ID w fb tb s cls v tv xv vt vx to' cut oT oX S ok K' wi := ⟨h.f, h.z, h.d, hk⟩
theorem IC.states {k n : Nat} (h : IC w fb tb s k n cls v S ok wi) (hl : ok = true → cls.length = k) : ID w fb tb s cls v (.slice none 0 0) (.slice none 0 0) (.slice none 0 0) (.slice none 0 0) [] [] [] [] S ok (KS s.data.toList k n cls []) wi :=
  ⟨h.f, h.z, h.c.states, h.k.states hl⟩
theorem ID.app_t {o : Obj} {g cap H : Nat} {x : Nat} (h : ID w fb tb s cls v tv xv vt vx to' cut oT oX S ok K wi) (ho : w'.ownsRow w.heap.size 3 1 (.slice (some ⟨g, 0, none⟩) (to'.length + 1) cap) (to'.length + 1) (ints to' ++ [.int .i64 (x : Int)])) (hg : (wi.alloc o).grownBy w' tv.ownBlock) (hw : tv.ownBlock = some g ∨ g = H) (hH : wi.heap.size ≤ H) :
    ID w fb tb s cls v (.slice (some ⟨g, 0, none⟩) (to'.length + 1) cap) xv vt vx (to' ++ [x]) cut oT oX S ok K w' := ⟨feed_app h.f h.d.ls.o2 hg (by decide), h.z, h.d.app_t ho hg hw hH, h.k⟩
theorem ID.app_x {o : Obj} {g cap H : Nat} {x : Bool} (h : ID w fb tb s cls v tv xv vt vx to' cut oT oX S ok K wi) (ho : w'.ownsRow w.heap.size 4 1 (.slice (some ⟨g, 0, none⟩) (cut.length + 1) cap) (cut.length + 1) (bools cut ++ [.bool x])) (hg : (wi.alloc o).grownBy w' xv.ownBlock) (hw : xv.ownBlock = some g ∨ g = H) (hH : wi.heap.size ≤ H) :
    ID w fb tb s cls v tv (.slice (some ⟨g, 0, none⟩) (cut.length + 1) cap) vt vx to' (cut ++ [x]) oT oX S ok K w' := ⟨feed_app h.f h.d.ls.o3 hg (by decide), h.z, h.d.app_x ho hg hw hH, h.k⟩
theorem ID.pushT {o : Obj} {g cap : Nat} {vs : List Value} (h : ID w fb tb s cls v tv xv vt vx to' cut oT oX S ok K wi) (hv : wi.ownsRow w.heap.size 33 1 vt oT.length vs) (hu : ∀ (i : Nat) (l : List Nat), oT[i]? = some l → ∃ u, vs[i]? = some u ∧ wi.ownsRow w.heap.size 3 1 u l.length (ints l) ∧ Off u (Value.slice none 0 0).ownBlock ∧ Off u tv.ownBlock)
    (ho : w'.ownsRow w.heap.size 33 1 (.slice (some ⟨g, 0, none⟩) (oT.length + 1) cap) (oT.length + 1) (vs ++ [tv])) (hg : (wi.alloc o).grownBy w' vt.ownBlock) (hob : w.heap.size ≤ tb) :
    ID w fb tb s cls v (.slice none 0 0) xv (.slice (some ⟨g, 0, none⟩) (oT.length + 1) cap) vx [] cut (oT ++ [to']) oX S ok K (w'.setCell ⟨tb, 1, none⟩ (.slice (some ⟨g, 0, none⟩) (oT.length + 1) cap)) :=
  ⟨feed_set (feed_app h.f hv hg (by decide)) (h.d.ls.pgrow hv hg (by decide)) (by decide), h.z, h.d.pushT hv hu ho hg hob, h.k⟩
theorem ID.pushX {o : Obj} {g cap : Nat} {vs : List Value} (h : ID w fb tb s cls v tv xv vt vx to' cut oT oX S ok K wi) (hv : wi.ownsRow w.heap.size 58 1 vx oX.length vs) (hu : ∀ (i : Nat) (l : List Bool), oX[i]? = some l → ∃ u, vs[i]? = some u ∧ wi.ownsRow w.heap.size 4 1 u l.length (bools l) ∧ Off u xv.ownBlock ∧ Off u none)
    (ho : w'.ownsRow w.heap.size 58 1 (.slice (some ⟨g, 0, none⟩) (oX.length + 1) cap) (oX.length + 1) (vs ++ [xv])) (hg : (wi.alloc o).grownBy w' vx.ownBlock) (hob : w.heap.size ≤ tb) :
    ID w fb tb s cls v tv (.slice none 0 0) vt (.slice (some ⟨g, 0, none⟩) (oX.length + 1) cap) to' [] oT (oX ++ [cut]) S ok K (w'.setCell ⟨tb, 2, none⟩ (.slice (some ⟨g, 0, none⟩) (oX.length + 1) cap)) :=
  ⟨feed_set (feed_app h.f hv hg (by decide)) (h.d.ls.pgrow hv hg (by decide)) (by decide), h.z, h.d.pushX hv hu ho hg hob, h.k⟩
end

/-- What is left of Decode when all is read: its own text again, or another. -/
theorem decode_valid {cls : List (List (Nat × Nat))} {rows : List Arrows} {k i : Nat} (hT : Bd ⟨cls, rows⟩) (hfin : IsFinal rows (groupsN rows (k + 1))) (hc : Came (groupsN rows (k + 1)) rows i) (he : (leastSt (groupsN rows (k + 1)) rows i).1.length = i) :
    Bd ⟨cls, (leastSt (groupsN rows (k + 1)) rows i).2⟩ ∧ ((enc ⟨cls, (leastSt (groupsN rows (k + 1)) rows i).2⟩ = enc ⟨cls, rows⟩) ↔ Valid ⟨cls, rows⟩) := by
  have h0 : 0 < rows.length := hT.pos
  have hcd : Closed rows := fun r hr a ha => (hT.row r hr).2 a ha
  have hle := least_le _ rows h0 hcd (groupsN_lt rows h0 (k + 1)) (groupsN_length rows (k + 1)) i hc
  obtain ⟨_, _, _, h4⟩ := least_inv _ rows h0 hcd i hc
  have hcome := least_come _ rows h0 hcd i hc he
  have hlen := leastSt_length (groupsN rows (k + 1)) rows i
  have hi : 1 ≤ i := by
    cases i with
    | zero => simp [leastSt] at he
    | succ i => omega
  have hB : Bd ⟨cls, (leastSt (groupsN rows (k + 1)) rows i).2⟩ := by
    refine ⟨hT.cls, hT.each, by simp only; omega, by have := hT.sts; simp only at this ⊢; omega, fun r hr => ?_⟩
    obtain ⟨⟨r', hr', hl⟩, ha⟩ := h4 r hr
    simp only
    rw [hlen]
    rw [he] at ha
    exact ⟨by rw [hl]; exact (hT.row r' hr').1, ha⟩
  refine ⟨hB, fun e => ?_, fun hV => ?_⟩
  · have hs : (leastSt (groupsN rows (k + 1)) rows i).2 = rows := by
      have := enc_inj hB hT e
      injection this
    rw [hs] at hcome
    refine ⟨hT, hcome, ?_⟩
    have hg := least_few rows h0 hcd k i hc he hs
    rw [hg] at hfin
    exact hfin
  · have hg : groupsN rows (k + 1) = List.range rows.length := hfin.unique hV.2.2
    rw [hg] at hc he ⊢
    rw [least_same rows hV.2.1 i hc he]

end Go.Proofs.YtnecjeambpikdaaGreatDoor
