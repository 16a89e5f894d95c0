/-
  The document's own way of telling states apart comes to the same groups. Plain mathematics; own work.
-/
import Derived.Test.YtnecjeambpikdaaGreatDoorGroups
namespace Go.Proofs.YtnecjeambpikdaaGreatDoor

/-- What is seen of a state: its part, and its arrows by parts. -/
def vv (st : List Arrows) (p : List Nat) (i : Nat) : Nat × List (Nat × Bool) := (p.getD i 0, vw (st.getD i []) p)

theorem map_range_get {β : Type} (st : List Arrows) (f : Arrows → β) : st.map f = (List.range st.length).map fun i => f (st.getD i []) := by
  apply List.ext_getElem?
  intro i
  rw [List.getElem?_map, List.getElem?_map]
  rcases Nat.lt_or_ge i st.length with h | h
  · rw [List.getElem?_range h, List.getElem?_eq_getElem h]
    simp [List.getD_eq_getElem?_getD, List.getElem?_eq_getElem h]
  · rw [List.getElem?_eq_none h, List.getElem?_eq_none (by simpa using h)]
    rfl

theorem part_of_view (st : List Arrows) (hc : Closed st) : ∀ (k i j : Nat), i < st.length → j < st.length → vw (st.getD i []) (groupsN st k) = vw (st.getD j []) (groupsN st k) → (groupsN st k).getD i 0 = (groupsN st k).getD j 0
  | 0, i, j, hi, hj, _ => by
    rw [groupsN]
    simp [List.getD_eq_getElem?_getD, hi, hj]
  | k + 1, i, j, hi, hj, h => by
    have hgi : st[i]? = some (st.getD i []) := by simp [List.getD_eq_getElem?_getD, List.getElem?_eq_getElem hi]
    have hgj : st[j]? = some (st.getD j []) := by simp [List.getD_eq_getElem?_getD, List.getElem?_eq_getElem hj]
    have h1 := view_mono st hc k _ _ (List.mem_of_getElem? hgi) (List.mem_of_getElem? hgj) h
    have h2 := (num_eq (st.map fun l => vw l (groupsN st k)) i j _ _ (by rw [List.getElem?_map, hgi]; rfl) (by rw [List.getElem?_map, hgj]; rfl)).2 h1
    exact getD_eq_of h2

theorem parts_step (st : List Arrows) (hc : Closed st) (k : Nat) : (numAll ((List.range st.length).map (vv st (groupsN st k)))).1 = groupsN st (k + 1) ∧ (numAll ((List.range st.length).map (vv st (groupsN st k)))).2.length = countN st (k + 1) := by
  have h : ∀ p ∈ (List.range st.length).map (fun i => (vv st (groupsN st k) i, vw (st.getD i []) (groupsN st k))), ∀ q ∈ (List.range st.length).map (fun i => (vv st (groupsN st k) i, vw (st.getD i []) (groupsN st k))), p.2 = q.2 ↔ p.1 = q.1 := by
    intro p hp q hq
    obtain ⟨i, hi, rfl⟩ := List.mem_map.1 hp
    obtain ⟨j, hj, rfl⟩ := List.mem_map.1 hq
    rw [List.mem_range] at hi hj
    simp only [vv, Prod.mk.injEq]
    exact ⟨fun e => ⟨part_of_view st hc k i j hi hj e, e⟩, fun e => e.2⟩
  have h1 := same_num _ h
  rw [List.map_map, List.map_map] at h1
  have e : groupsN st (k + 1) = (numAll ((List.range st.length).map fun i => vw (st.getD i []) (groupsN st k))).1 ∧ countN st (k + 1) = (numAll ((List.range st.length).map fun i => vw (st.getD i []) (groupsN st k))).2.length := by
    rw [groupsN, countN, map_range_get st (fun l => vw l (groupsN st k))]
    exact ⟨rfl, rfl⟩
  rw [e.1, e.2]
  exact h1

end Go.Proofs.YtnecjeambpikdaaGreatDoor
