/-
  What lies in memory, for the walks of this seat: rows of cells behind slices. Own work.
-/
import Derived.WalkKit
import Derived.WalkSpells
import Derived.WalkLawsBesides
import Derived.Deep.LoopGhost
import Derived.Deep.QuietTactic
import Derived.BigQuiet
import Derived.Deep.RegionWith
namespace Go.Proofs.YtnecjeambpikdaaGreatDoor
open Go.RowKit

theorem ret_bool {a b : Bool} (h : a = b) : Ending.returned (.bool a) = .returned (.bool b) := by rw [h]
theorem ret_int {k : IntKind} {a b : Int} (h : a = b) : Ending.returned (.int k a) = .returned (.int k b) := by rw [h]

/-- What is owned stays owned where nothing old has turned. -/
theorem own_below {w w' : World} {base : Nat} {e : TypeId} {size : Nat} {v : Value} {n : Nat} {xs : List Value} {B : Nat} (h : w.ownsRow base e size v n xs) (hb : Below B w w') (hB : w.heap.size ≤ B) : w'.ownsRow base e size v n xs := by
  obtain ⟨h1, h2⟩ := h
  refine ⟨h1, ?_⟩
  rcases h2 with h2 | ⟨g, cap, cur, hv, hg, hh, r⟩
  · exact Or.inl h2
  · refine Or.inr ⟨g, cap, cur, hv, hg, ?_, r⟩
    rw [hb.block g (by have := lt_of_block hh; omega)]; exact hh

/-- The base may be lower. -/
theorem own_base {w : World} {base base' : Nat} {e : TypeId} {size : Nat} {v : Value} {n : Nat} {xs : List Value} (h : w.ownsRow base e size v n xs) (hb : base' ≤ base) : w.ownsRow base' e size v n xs := by
  obtain ⟨h1, h2⟩ := h
  refine ⟨h1, ?_⟩
  rcases h2 with h2 | ⟨g, cap, cur, hv, hg, hh, r⟩
  · exact Or.inl h2
  · exact Or.inr ⟨g, cap, cur, hv, by omega, hh, r⟩

theorem own_shape {w : World} {base : Nat} {e : TypeId} {size : Nat} {v : Value} {n : Nat} {xs : List Value} (h : w.ownsRow base e size v n xs) : ∃ ao cap, v = .slice ao n cap ∧ n ≤ cap ∧ cap ≤ maxLen := by
  rcases h.2 with ⟨rfl, rfl⟩ | ⟨g, cap, cur, hv, _, _, r1, r2, _⟩
  · exact ⟨none, 0, rfl, Nat.le_refl _, Nat.zero_le _⟩
  · exact ⟨_, cap, hv, r1, r2⟩

/-- A row that is not empty lies at the head of a block. -/
theorem own_head {w : World} {base : Nat} {e : TypeId} {size : Nat} {v : Value} {n : Nat} {xs : List Value} (h : w.ownsRow base e size v n xs) (hn : 0 < n) :
    ∃ g cap, v = .slice (some ⟨g, 0, none⟩) n cap ∧ base ≤ g ∧ g < w.heap.size ∧ n ≤ cap ∧ cap ≤ maxLen ∧ (∀ j u, xs[j]? = some u → w.cell? ⟨g, j, none⟩ = some u) ∧ (∀ j, w.frozen? ⟨g, j, none⟩ = false) := by
  have hh := h
  rcases h.2 with ⟨rfl, rfl⟩ | ⟨g, cap, cur, rfl, h1, h2, h3, h4, h5, h6⟩
  · omega
  · refine ⟨g, cap, rfl, h1, lt_of_block h2, h3, h4, fun j u hj => ?_, fun j => hh.frozenAt j⟩
    have hl := h.1
    have : j < xs.length := by
      rcases Nat.lt_or_ge j xs.length with hx | hx
      · exact hx
      · rw [List.getElem?_eq_none hx] at hj; cases hj
    rw [hh.cellAt j (by omega), hj]

/-- Where a row lies: nowhere, or in one block. -/
theorem own_lt {w : World} {base : Nat} {e : TypeId} {size : Nat} {v : Value} {n : Nat} {xs : List Value} (h : w.ownsRow base e size v n xs) : ∀ k, v.ownBlock = some k → base ≤ k ∧ k < w.heap.size := h.lt

theorem below_trans' {B : Nat} {a b c : World} (h : Below B a b) (k : Below b.heap.size b c) (hB : B ≤ b.heap.size) : Below B a c := h.trans (k.mono hB)

/-- As it was below its own size: two steps. -/
theorem below2 {a b c : World} (h : Below a.heap.size a b) (k : Below b.heap.size b c) : Below a.heap.size a c := h.trans (k.mono h.size)

theorem getD_some {α : Type} (l : List α) (i : Nat) (d : α) (h : i < l.length) : l[i]? = some (l.getD i d) := by
  simp [List.getD_eq_getElem?_getD, List.getElem?_eq_getElem h]

theorem heap_push_new (w : World) (o : Obj) : (w.alloc o).heap[w.heap.size]? = some o := by
  show (w.heap.push o)[w.heap.size]? = _
  simp
theorem heap_push_old {w : World} {b : Nat} {o : Obj} (h : w.heap[b]? = some o) (o1 : Obj) : (w.alloc o1).heap[b]? = some o := by
  rw [Below.heap_alloc _ _ _ (lt_of_block h)]; exact h
theorem heap_two0 (w : World) (o1 o2 : Obj) : ((w.alloc o1).alloc o2).heap[w.heap.size]? = some o1 := heap_push_old (heap_push_new w o1) o2
theorem heap_two1 (w : World) (o1 o2 : Obj) : ((w.alloc o1).alloc o2).heap[w.heap.size + 1]? = some o2 := by
  have := heap_push_new (w.alloc o1) o2
  rwa [show (w.alloc o1).heap.size = w.heap.size + 1 from by simp] at this
theorem row_cell {w : World} {b : Nat} {c : Array Value} {t : TypeId} (h : w.heap[b]? = some (.cells c t (0, 0))) {j : Nat} {u : Value} (hj : c[j]? = some u) : w.cell? ⟨b, j, none⟩ = some u := by
  simp [World.cell?, h, hj]
theorem row_free {w : World} {b : Nat} {c : Array Value} {t : TypeId} (h : w.heap[b]? = some (.cells c t (0, 0))) (j : Nat) : w.frozen? ⟨b, j, none⟩ = false := by
  simp [World.frozen?, h]
theorem below_row {B : Nat} {a w : World} (h : Below B a w) {g : Nat} (hg : B ≤ g) (c : Array Value) : Below B a (w.setRow g c) :=
  h.trans ⟨rfl, rfl, rfl, by simp, fun k hk => by simp only [World.setRow, Array.getElem?_modify]; rw [if_neg (by omega)]⟩
/-- A slice of slices: the outer row's cells are slices, each of which owns its row. -/
def Rows2 {α : Type} (w : World) (base eo ei size : Nat) (enc : List α → List Value) (v : Value) (ll : List (List α)) : Prop :=
  ∃ vs : List Value, w.ownsRow base eo 1 v ll.length vs ∧ ∀ (i : Nat) (l : List α), ll[i]? = some l → ∃ u, vs[i]? = some u ∧ w.ownsRow base ei size u l.length (enc l)

theorem kept_trans {w w1 w2 : World} {row : Option Nat} (h : w.grownBy w1 row) (k : w1.grownBy w2 row) : w.grownBy w2 row :=
  ⟨k.os.trans h.os, k.tape.trans h.tape, k.output.trans h.output, Nat.le_trans h.size k.size, fun i hi hr => (k.block i (Nat.lt_of_lt_of_le hi h.size) hr).trans (h.block i hi hr)⟩
theorem kept_of_below {w w1 : World} (row : Option Nat) (h : Below w.heap.size w w1) : w.grownBy w1 row := ⟨h.os, h.tape, h.output, h.size, fun k hk _ => h.block k hk⟩
theorem kept_below {w w1 w2 : World} {row : Option Nat} (h : w.grownBy w1 row) (k : Below w1.heap.size w1 w2) : w.grownBy w2 row := kept_trans h (kept_of_below row k)
theorem kept_alloc {w w1 : World} {row : Option Nat} (h : w.grownBy w1 row) (o : Obj) : w.grownBy (w1.alloc o) row := kept_trans h (World.grownBy_alloc w1 o row)
theorem kept_drew {w w1 : World} {row : Option Nat} (h : w.grownBy w1 row) : w.grownBy w1.drew row := ⟨h.os, h.tape, h.output, h.size, h.block⟩
theorem kept_setCell {w w1 : World} {row : Option Nat} (h : w.grownBy w1 row) {p : Addr} (hp : w.heap.size ≤ p.block) (u : Value) : w.grownBy (w1.setCell p u) row :=
  ⟨h.os, h.tape, h.output, by simpa [World.setCell] using h.size, fun k hk hr => (heap_setCell_other _ _ _ _ (by omega)).trans (h.block k hk hr)⟩
theorem own_kept {w w' : World} {base : Nat} {e : TypeId} {size : Nat} {v : Value} {n : Nat} {xs : List Value} {row : Option Nat} (h : w.ownsRow base e size v n xs) (hg : w.grownBy w' row) (hne : ∀ k o, row = some k → w.heap[k]? = some o → ∀ c, o ≠ .cells c e (0, 0)) : w'.ownsRow base e size v n xs := by
  obtain ⟨h1, h2⟩ := h
  refine ⟨h1, ?_⟩
  rcases h2 with h2 | ⟨g, cap, cur, hv, hg', hh, r⟩
  · exact Or.inl h2
  · refine Or.inr ⟨g, cap, cur, hv, hg', ?_, r⟩
    rw [hg.block g (lt_of_block hh) (fun e => hne g _ e.symm hh _ rfl)]; exact hh
theorem Rows2.kept {α : Type} {w w' : World} {base eo ei size : Nat} {enc : List α → List Value} {v : Value} {ll : List (List α)} {row : Option Nat} (h : Rows2 w base eo ei size enc v ll) (hg : w.grownBy w' row) (hne : ∀ k o, row = some k → w.heap[k]? = some o → ∀ c e, o ≠ .cells c e (0, 0)) : Rows2 w' base eo ei size enc v ll := by
  obtain ⟨vs, h1, h2⟩ := h
  exact ⟨vs, own_kept h1 hg (fun k o a b c => hne k o a b c _), fun i l hl => (h2 i l hl).elim fun u hu => ⟨u, hu.1, own_kept hu.2 hg (fun k o a b c => hne k o a b c _)⟩⟩
theorem addr_add (b j : Nat) : (⟨b, 0, none⟩ : Addr).add j = ⟨b, j, none⟩ := by unfold Addr.add; split <;> simp_all
theorem hide {p : Prop} (h : p) : Hid p := h
theorem unhide {p : Prop} (h : Hid p) : p := h
theorem cast_beq (a b : Nat) : ((a : Int) == (b : Int)) = (a == b) := by
  by_cases h : a = b
  · subst h; simp
  · have : ¬ (a : Int) = (b : Int) := by omega
    rw [beq_eq_false_iff_ne.2 this, beq_eq_false_iff_ne.2 h]
theorem drop_cons {α : Type} {l : List α} {k : Nat} {x : α} (h : l[k]? = some x) : l.drop k = x :: l.drop (k + 1) := by
  have hk : k < l.length := by
    rcases Nat.lt_or_ge k l.length with hx | hx
    · exact hx
    · rw [List.getElem?_eq_none hx] at h; cases h
  rw [List.drop_eq_getElem_cons hk]
  rw [List.getElem?_eq_getElem hk] at h
  injection h with h
  rw [h]

/-- Numbers as cells of type int. -/
def ints (l : List Nat) : List Value := l.map fun (k : Nat) => Value.int .i64 (k : Int)
theorem ints_length (l : List Nat) : (ints l).length = l.length := by simp [ints]
theorem ints_get (l : List Nat) (i x : Nat) (h : l[i]? = some x) : (ints l)[i]? = some (.int .i64 (x : Int)) := by simp [ints, h]
theorem ints_append (l m : List Nat) : ints (l ++ m) = ints l ++ ints m := by simp [ints]
def bools (l : List Bool) : List Value := l.map Value.bool
theorem bools_length (l : List Bool) : (bools l).length = l.length := by simp [bools]
theorem bools_get (l : List Bool) (i : Nat) (x : Bool) (h : l[i]? = some x) : (bools l)[i]? = some (.bool x) := by simp [bools, h]
/-- Arrows as cells: two each. -/
def arrs (l : List (Nat × Bool)) : List Value := l.flatMap fun x => [Value.int .i64 (x.1 : Int), .bool x.2]
/-- Ranges as cells, of a kind: two each. -/
def rngs (k : IntKind) (l : List (Nat × Nat)) : List Value := l.flatMap fun x => [Value.int k (x.1 : Int), .int k (x.2 : Int)]
theorem pairs_get {α : Type} (f g : α → Value) : ∀ (l : List α) (i : Nat) (x : α), l[i]? = some x → (l.flatMap fun x => [f x, g x])[i * 2]? = some (f x) ∧ (l.flatMap fun x => [f x, g x])[i * 2 + 1]? = some (g x)
  | [], i, x, h => by simp at h
  | y :: l, 0, x, h => by simp at h; subst h; simp
  | y :: l, i + 1, x, h => by
    have := pairs_get f g l i x (by simpa using h)
    simp only [List.flatMap_cons]
    rw [show (i + 1) * 2 = i * 2 + 2 by omega]
    exact ⟨by simpa using this.1, by simpa using this.2⟩
theorem pairs_length {α : Type} (f g : α → Value) (l : List α) : (l.flatMap fun x => [f x, g x]).length = l.length * 2 := by
  induction l with
  | nil => rfl
  | cons a l ih => simp only [List.flatMap_cons, List.length_append, ih, List.length_cons, List.length_nil]; omega
theorem arrs_length (l : List (Nat × Bool)) : (arrs l).length = l.length * 2 := pairs_length _ _ l
theorem rngs_length (k : IntKind) (l : List (Nat × Nat)) : (rngs k l).length = l.length * 2 := pairs_length _ _ l
theorem arrs_get (l : List (Nat × Bool)) (i : Nat) (x : Nat × Bool) (h : l[i]? = some x) : (arrs l)[i * 2]? = some (.int .i64 (x.1 : Int)) ∧ (arrs l)[i * 2 + 1]? = some (.bool x.2) := pairs_get _ _ l i x h
theorem rngs_get (k : IntKind) (l : List (Nat × Nat)) (i : Nat) (x : Nat × Nat) (h : l[i]? = some x) : (rngs k l)[i * 2]? = some (.int k (x.1 : Int)) ∧ (rngs k l)[i * 2 + 1]? = some (.int k (x.2 : Int)) := pairs_get _ _ l i x h

theorem Rows2.below {α : Type} {w w' : World} {base eo ei size : Nat} {enc : List α → List Value} {v : Value} {ll : List (List α)} {B : Nat} (h : Rows2 w base eo ei size enc v ll) (hb : Below B w w') (hB : w.heap.size ≤ B) : Rows2 w' base eo ei size enc v ll := by
  obtain ⟨vs, h1, h2⟩ := h
  exact ⟨vs, own_below h1 hb hB, fun i l hl => (h2 i l hl).elim fun u hu => ⟨u, hu.1, own_below hu.2 hb hB⟩⟩

theorem Rows2.base {α : Type} {w : World} {base base' eo ei size : Nat} {enc : List α → List Value} {v : Value} {ll : List (List α)} (h : Rows2 w base eo ei size enc v ll) (hb : base' ≤ base) : Rows2 w base' eo ei size enc v ll := by
  obtain ⟨vs, h1, h2⟩ := h
  exact ⟨vs, own_base h1 hb, fun i l hl => (h2 i l hl).elim fun u hu => ⟨u, hu.1, own_base hu.2 hb⟩⟩

theorem Rows2.shape {α : Type} {w : World} {base eo ei size : Nat} {enc : List α → List Value} {v : Value} {ll : List (List α)} (h : Rows2 w base eo ei size enc v ll) : ∃ ao cap, v = .slice ao ll.length cap ∧ ll.length ≤ cap ∧ cap ≤ maxLen := by
  obtain ⟨vs, h1, h2⟩ := h
  exact own_shape h1

/-- A slice of slices that is not empty: its head; at each place a slice that owns its row. -/
theorem Rows2.head {α : Type} {w : World} {base eo ei size : Nat} {enc : List α → List Value} {v : Value} {ll : List (List α)} (h : Rows2 w base eo ei size enc v ll) (hn : 0 < ll.length) :
    ∃ g cap, v = .slice (some ⟨g, 0, none⟩) ll.length cap ∧ base ≤ g ∧ g < w.heap.size ∧ ∀ (i : Nat) (l : List α), ll[i]? = some l → ∃ ao c, w.cell? ⟨g, i, none⟩ = some (.slice ao l.length c) ∧ l.length ≤ c ∧ c ≤ maxLen ∧ w.ownsRow base ei size (.slice ao l.length c) l.length (enc l) := by
  obtain ⟨vs, h1, h2⟩ := h
  obtain ⟨g, cap, hv, hb, hlt, hc1, hc2, hcell, hfr⟩ := own_head h1 hn
  refine ⟨g, cap, hv, hb, hlt, fun i l hl => ?_⟩
  obtain ⟨u, hu, ho⟩ := h2 i l hl
  obtain ⟨ao, c, rfl, k1, k2⟩ := own_shape ho
  exact ⟨ao, c, hcell i _ hu, k1, k2, ho⟩

end Go.Proofs.YtnecjeambpikdaaGreatDoor
