import Derived.Test.YtnecjeambpikdaaGreatDoorWritten
import Derived.Test.YtnecjeambpikdaaGreatDoorSpans
import Derived.Test.YtnecjeambpikdaaGreatDoorArrows
import Derived.Test.YtnecjeambpikdaaGreatDoorCome
import Derived.Test.YtnecjeambpikdaaGreatDoorFewest
namespace Go.Proofs.YtnecjeambpikdaaGreatDoor
open Go.RowKit

theorem comeRow_lt : ∀ (r : List (Nat × Bool)) (met m : Nat), comeRow met r = some m → met ≤ m ∧ ∀ a ∈ r, a.1 < m
  | [], met, m, h => by simp [comeRow] at h; simp [h]
  | a :: r, met, m, h => by
    rw [comeRow] at h
    split at h
    · cases h
    · rename_i hlt
      obtain ⟨h1, h2⟩ := comeRow_lt r _ m h
      refine ⟨by split at h1 <;> omega, fun b hb => ?_⟩
      rcases List.mem_cons.1 hb with rfl | hb
      · split at h1 <;> omega
      · exact h2 b hb
theorem comeRows_lt : ∀ (rs : List (List (Nat × Bool))) (n met m : Nat), comeRows n met rs = some m → met ≤ m ∧ ∀ r ∈ rs, ∀ a ∈ r, a.1 < m
  | [], n, met, m, h => by simp [comeRows] at h; simp [h]
  | r :: rs, n, met, m, h => by
    rw [comeRows] at h
    split at h
    · cases h
    · split at h
      · cases h
      · rename_i m1 h1
        obtain ⟨g1, g2⟩ := comeRow_lt r met m1 h1
        obtain ⟨f1, f2⟩ := comeRows_lt rs _ m1 m h
        refine ⟨by omega, fun x hx a ha => ?_⟩
        rcases List.mem_cons.1 hx with rfl | hx
        · have := g2 a ha; omega
        · exact f2 x hx a ha
theorem come_lt {states : List (List (Nat × Bool))} (h : asTheyCome states = true) : ∀ r ∈ states, ∀ a ∈ r, a.1 < states.length := by
  rw [asTheyCome, beq_iff_eq] at h
  exact (comeRows_lt states 0 1 _ h).2

/-- Is it a table as there may be one? -/
def Valid (T : Tbl) : Prop := Bd T ∧ asTheyCome T.states = true ∧ IsFinal T.states (List.range T.states.length)

theorem line_class {T : Tbl} {parts : List ByteArray} {h : List UInt8} {k : Nat} {p : ByteArray} (e : parts.map (·.data.toList) = h :: T.lines ++ [[]]) (hk : k < T.classes.length) (hp : parts[1 + k]? = some p) :
    ∃ cl, T.classes[k]? = some cl ∧ p.data.toList = classLine cl := by
  have h1 := congrArg (·[1 + k]?) e
  simp only [List.getElem?_map, hp, Option.map_some] at h1
  rw [List.cons_append, Nat.add_comm 1 k, List.getElem?_cons_succ, Tbl.lines, List.append_assoc, List.getElem?_append_left (by simpa using hk), List.getElem?_map] at h1
  obtain ⟨cl, g1, g2⟩ := Option.map_eq_some_iff.1 h1.symm
  exact ⟨cl, g1, g2.symm⟩
theorem line_state {T : Tbl} {parts : List ByteArray} {h : List UInt8} {k : Nat} {p : ByteArray} (e : parts.map (·.data.toList) = h :: T.lines ++ [[]]) (hk : k < T.states.length) (hp : parts[1 + T.classes.length + k]? = some p) :
    ∃ cl, T.states[k]? = some cl ∧ p.data.toList = stateLine cl := by
  have h1 := congrArg (·[1 + T.classes.length + k]?) e
  simp only [List.getElem?_map, hp, Option.map_some] at h1
  rw [List.cons_append, show 1 + T.classes.length + k = (T.classes.length + k) + 1 by omega, List.getElem?_cons_succ, Tbl.lines, List.append_assoc, List.getElem?_append_right (by simp), List.length_map,
    Nat.add_sub_cancel_left, List.getElem?_append_left (by simpa using hk), List.getElem?_map] at h1
  obtain ⟨cl, g1, g2⟩ := Option.map_eq_some_iff.1 h1.symm
  exact ⟨cl, g1, g2.symm⟩

theorem info70 : (Tryz.prog.info? 70).map (fun i => (i.zero, i.size, i.bytes)) = some (some (.slice none 0 0), 1, 24) := by kernel_rfl

theorem own_new (w : World) (base : Nat) (e : TypeId) (n : Nat) (Z : Array Value) (hZ : Z.size = n) (hb : base ≤ w.heap.size) (hn : n ≤ maxLen) : (w.alloc (.cells Z e)).ownsRow base e 1 (.slice (some ⟨w.heap.size, 0, none⟩) n n) n Z.toList :=
  ⟨by simp [hZ], .inr ⟨w.heap.size, n, Z, rfl, hb, heap_push_new w _, Nat.le_refl _, hn, by omega, by rw [Nat.mul_one, ← hZ]; exact List.take_of_length_le (by simp)⟩⟩

/-- The outer row of a slice of slices that is being filled: so many are there. -/
def Filling {α : Type} (w : World) (base eo ei size : Nat) (enc : List α → List Value) (g N : Nat) (r : List (List α)) : Prop :=
  r.length ≤ N ∧ ∃ vs : List Value, vs.length = r.length ∧ w.ownsRow base eo 1 (.slice (some ⟨g, 0, none⟩) N N) N (vs ++ List.replicate (N - r.length) (.slice none 0 0)) ∧ ∀ (i : Nat) (l : List α), r[i]? = some l → ∃ u, vs[i]? = some u ∧ w.ownsRow base ei size u l.length (enc l)
theorem Filling.below {α : Type} {w w' : World} {base eo ei size : Nat} {enc : List α → List Value} {g N : Nat} {r : List (List α)} (h : Filling w base eo ei size enc g N r) (hb : Below w.heap.size w w') : Filling w' base eo ei size enc g N r := by
  obtain ⟨h0, vs, h1, h2, h3⟩ := h
  exact ⟨h0, vs, h1, own_below h2 hb (Nat.le_refl _), fun i l hl => (h3 i l hl).elim fun u hu => ⟨u, hu.1, own_below hu.2 hb (Nat.le_refl _)⟩⟩
theorem Filling.full {α : Type} {w : World} {base eo ei size : Nat} {enc : List α → List Value} {g N : Nat} {r : List (List α)} (h : Filling w base eo ei size enc g N r) (hr : r.length = N) : Rows2 w base eo ei size enc (.slice (some ⟨g, 0, none⟩) N N) r := by
  obtain ⟨h0, vs, h1, h2, h3⟩ := h
  rw [hr, Nat.sub_self, List.replicate_zero, List.append_nil] at h2
  exact ⟨vs, by rw [hr]; exact h2, h3⟩
theorem own_turn {w : World} {g j : Nat} {c : Array Value} {e' : TypeId} {u : Value} (hg : w.heap[g]? = some (.cells c e' (0, 0))) {base : Nat} {e : TypeId} {size : Nat} {v : Value} {n : Nat} {xs : List Value} (h : w.ownsRow base e size v n xs) (hne : e' ≠ e) :
    (w.setCell ⟨g, j, none⟩ u).ownsRow base e size v n xs := by
  refine own_kept (row := some g) h ⟨rfl, rfl, rfl, by simp, fun k _ hk => heap_setCell_other w ⟨g, j, none⟩ k u (fun e => hk (by simp [e]))⟩ ?_
  intro k o hk ho c' ho'
  injection hk with hk
  subst hk
  rw [hg, ho'] at ho
  injection ho with ho
  injection ho with _ ho
  exact hne ho
theorem Filling.block {α : Type} {w : World} {base eo ei size : Nat} {enc : List α → List Value} {g N : Nat} {r : List (List α)} (h : Filling w base eo ei size enc g N r) : ∃ c, w.heap[g]? = some (.cells c eo (0, 0)) ∧ base ≤ g := by
  obtain ⟨_, vs, _, h2, _⟩ := h
  rcases h2.2 with ⟨h, _⟩ | ⟨g', cap, cur, h, hb, hh, _⟩
  · cases h
  · injection h with h _ _
    injection h with h
    injection h with h
    subst h
    exact ⟨cur, hh, hb⟩
theorem Filling.put {α : Type} {w : World} {base eo ei size : Nat} {enc : List α → List Value} {g N : Nat} {r : List (List α)} (h : Filling w base eo ei size enc g N r) (hr : r.length < N) (hne : eo ≠ ei) {u : Value} {l : List α} (hu : w.ownsRow base ei size u l.length (enc l)) :
    Filling (w.setCell ⟨g, r.length, none⟩ u) base eo ei size enc g N (r ++ [l]) := by
  obtain ⟨c, hg, _⟩ := h.block
  obtain ⟨h0, vs, h1, h2, h3⟩ := h
  refine ⟨by simp; omega, vs ++ [u], by simp [h1], ?_, fun i l' hl => ?_⟩
  · have := (h2.stored r.length u).1
    rw [set_next vs r.length N _ u h1 hr] at this
    rw [List.length_append, List.length_singleton]
    exact this
  · rcases Nat.lt_or_ge i r.length with hi | hi
    · rw [List.getElem?_append_left hi] at hl
      obtain ⟨x, hx, ho⟩ := h3 i l' hl
      exact ⟨x, by rw [List.getElem?_append_left (by omega)]; exact hx, own_turn hg ho hne⟩
    · rw [List.getElem?_append_right hi] at hl
      have hi0 : i - r.length = 0 := by
        rcases Nat.eq_zero_or_pos (i - r.length) with h | h
        · exact h
        · rw [List.getElem?_eq_none (by simp; omega)] at hl; cases hl
      rw [hi0] at hl
      injection hl with hl
      subst hl
      exact ⟨u, by rw [List.getElem?_append_right (by omega), h1, hi0]; rfl, own_turn hg hu hne⟩
theorem Filling.turn {α : Type} {w : World} {base eo ei size : Nat} {enc : List α → List Value} {g N : Nat} {r : List (List α)} (h : Filling w base eo ei size enc g N r) {g' j : Nat} {c : Array Value} {e' : TypeId} {u : Value} (hg : w.heap[g']? = some (.cells c e' (0, 0))) (h1 : e' ≠ eo) (h2 : e' ≠ ei) :
    Filling (w.setCell ⟨g', j, none⟩ u) base eo ei size enc g N r := by
  obtain ⟨h0, vs, h3, h4, h5⟩ := h
  exact ⟨h0, vs, h3, own_turn hg h4 h1, fun i l hl => (h5 i l hl).elim fun x hx => ⟨x, hx.1, own_turn hg hx.2 h2⟩⟩
theorem Filling.next {α : Type} {w : World} {base eo ei size : Nat} {enc : List α → List Value} {g N : Nat} {r : List (List α)} (h : Filling w base eo ei size enc g N r) (hr : r.length < N) : w.cell? ⟨g, r.length, none⟩ = some (.slice none 0 0) ∧ w.frozen? ⟨g, r.length, none⟩ = false := by
  obtain ⟨_, vs, h1, h2, _⟩ := h
  refine ⟨?_, h2.frozenAt _⟩
  rw [h2.cellAt r.length (by omega)]
  exact get_next vs r.length N _ h1 hr

end Go.Proofs.YtnecjeambpikdaaGreatDoor
