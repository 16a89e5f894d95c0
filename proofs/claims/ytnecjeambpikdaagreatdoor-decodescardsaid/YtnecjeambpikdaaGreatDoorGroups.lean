/-
  States that are told apart round by round. Plain mathematics; own work.
-/
import Derived.Test.YtnecjeambpikdaaGreatDoorNum
namespace Go.Proofs.YtnecjeambpikdaaGreatDoor

abbrev Arrows := List (Nat × Bool)

/-- The groups behind k rounds. -/
def groupsN (states : List Arrows) : Nat → List Nat
  | 0 => List.replicate states.length 0
  | k + 1 => (numAll (states.map fun l => vw l (groupsN states k))).1
/-- How many there are. -/
def countN (states : List Arrows) : Nat → Nat
  | 0 => 0
  | k + 1 => (numAll (states.map fun l => vw l (groupsN states k))).2.length
/-- Every arrow leads to a state that is there. -/
def Closed (states : List Arrows) : Prop := ∀ r ∈ states, ∀ a ∈ r, a.1 < states.length

theorem groupsN_length (states : List Arrows) : ∀ k, (groupsN states k).length = states.length
  | 0 => by simp [groupsN]
  | k + 1 => by rw [groupsN, numAll_length]; simp

theorem countN_le (states : List Arrows) : ∀ k, countN states k ≤ states.length
  | 0 => Nat.zero_le _
  | k + 1 => by rw [countN]; exact Nat.le_trans (numAll_seen_le _) (by simp)

theorem groupsN_lt (states : List Arrows) (h : 0 < states.length) : ∀ k, ∀ x ∈ groupsN states k, x < states.length
  | 0 => by intro x hx; simp [groupsN] at hx; omega
  | k + 1 => by
    intro x hx
    have h1 := num_lt _ x hx
    have h2 := countN_le states (k + 1)
    rw [countN] at h2
    omega

theorem getD_eq_of {l : List Nat} {i j : Nat} (h : l[i]? = l[j]?) : l.getD i 0 = l.getD j 0 := by simp [List.getD_eq_getElem?_getD, h]
theorem get_eq_of {l : List Nat} {i j : Nat} (hi : i < l.length) (hj : j < l.length) (h : l.getD i 0 = l.getD j 0) : l[i]? = l[j]? := by
  simp [List.getD_eq_getElem?_getD, List.getElem?_eq_getElem hi, List.getElem?_eq_getElem hj] at h ⊢
  exact h

theorem vw_mono {l l' : Arrows} {gs hs : List Nat} (h : ∀ a ∈ l, ∀ b ∈ l', hs.getD a.1 0 = hs.getD b.1 0 → gs.getD a.1 0 = gs.getD b.1 0) (e : vw l hs = vw l' hs) : vw l gs = vw l' gs := by
  induction l generalizing l' with
  | nil => cases l' with
    | nil => rfl
    | cons b l' => simp [vw] at e
  | cons a l ih => cases l' with
    | nil => simp [vw] at e
    | cons b l' =>
      simp only [vw, List.map_cons, List.cons.injEq, Prod.mk.injEq] at e ⊢
      refine ⟨⟨h a (by simp) b (by simp) e.1.1, e.1.2⟩, ?_⟩
      exact ih (fun x hx y hy => h x (by simp [hx]) y (by simp [hy])) e.2

/-- Each round tells apart what was told apart. -/
theorem refine_get (states : List Arrows) (hc : Closed states) : ∀ k i j, i < states.length → j < states.length → (groupsN states (k + 1))[i]? = (groupsN states (k + 1))[j]? → (groupsN states k)[i]? = (groupsN states k)[j]? := by
  intro k
  induction k with
  | zero => intro i j hi hj _; simp [groupsN, hi, hj]
  | succ k ih =>
    intro i j hi hj h
    rw [groupsN] at h
    have ei : (states.map fun l => vw l (groupsN states (k + 1)))[i]? = some (vw states[i] (groupsN states (k + 1))) := by simp [List.getElem?_eq_getElem hi]
    have ej : (states.map fun l => vw l (groupsN states (k + 1)))[j]? = some (vw states[j] (groupsN states (k + 1))) := by simp [List.getElem?_eq_getElem hj]
    have hv := (num_eq _ i j _ _ ei ej).1 h
    have hv' : vw states[i] (groupsN states k) = vw states[j] (groupsN states k) := by
      refine vw_mono (fun a ha b hb e => ?_) hv
      have h1 := hc _ (List.getElem_mem hi) a ha
      have h2 := hc _ (List.getElem_mem hj) b hb
      exact getD_eq_of (ih _ _ h1 h2 (get_eq_of (by rw [groupsN_length]; exact h1) (by rw [groupsN_length]; exact h2) e))
    rw [groupsN]
    have fi : (states.map fun l => vw l (groupsN states k))[i]? = some (vw states[i] (groupsN states k)) := by simp [List.getElem?_eq_getElem hi]
    have fj : (states.map fun l => vw l (groupsN states k))[j]? = some (vw states[j] (groupsN states k)) := by simp [List.getElem?_eq_getElem hj]
    exact (num_eq _ i j _ _ fi fj).2 hv'

theorem view_mono (states : List Arrows) (hc : Closed states) (k : Nat) (l l' : Arrows) (hl : l ∈ states) (hl' : l' ∈ states) (e : vw l (groupsN states (k + 1)) = vw l' (groupsN states (k + 1))) : vw l (groupsN states k) = vw l' (groupsN states k) := by
  refine vw_mono (fun a ha b hb e => ?_) e
  have h1 := hc _ hl a ha
  have h2 := hc _ hl' b hb
  exact getD_eq_of (refine_get states hc k _ _ h1 h2 (get_eq_of (by rw [groupsN_length]; exact h1) (by rw [groupsN_length]; exact h2) e))

theorem pairs_fine (states : List Arrows) (hc : Closed states) (k : Nat) : ∀ p ∈ states.map (fun l => (vw l (groupsN states k), vw l (groupsN states (k + 1)))), ∀ q ∈ states.map (fun l => (vw l (groupsN states k), vw l (groupsN states (k + 1)))), p.2 = q.2 → p.1 = q.1 := by
  intro p hp q hq e
  obtain ⟨l, hl, rfl⟩ := List.mem_map.1 hp
  obtain ⟨l', hl', rfl⟩ := List.mem_map.1 hq
  exact view_mono states hc k l l' hl hl' e

theorem countN_mono (states : List Arrows) (hc : Closed states) : ∀ k, countN states k ≤ countN states (k + 1)
  | 0 => Nat.zero_le _
  | k + 1 => by
    have := fine_le _ (pairs_fine states hc k)
    simp only [List.map_map] at this
    exact this

theorem stable (states : List Arrows) (hc : Closed states) (k : Nat) (h : countN states (k + 2) = countN states (k + 1)) : groupsN states (k + 2) = groupsN states (k + 1) := by
  have hp := pairs_fine states hc k
  have he := fine_eq _ hp (by simp only [List.map_map]; exact h.symm)
  have := (same_num _ (fun p hp' q hq' => ⟨hp p hp' q hq', he p hp' q hq'⟩)).1
  simp only [List.map_map] at this
  exact this.symm

theorem stays {states : List Arrows} {k : Nat} (h : groupsN states (k + 1) = groupsN states k) : ∀ m, groupsN states (k + m) = groupsN states k
  | 0 => rfl
  | m + 1 => by
    have := stays h m
    rw [← Nat.add_assoc, groupsN, this]
    exact h

/-- The groups that no round parts any more. -/
def IsFinal (states : List Arrows) (G : List Nat) : Prop := ∃ k, ∀ m, groupsN states (k + m) = G

theorem IsFinal.unique {states : List Arrows} {G G' : List Nat} (h : IsFinal states G) (h' : IsFinal states G') : G = G' := by
  obtain ⟨k, hk⟩ := h
  obtain ⟨k', hk'⟩ := h'
  rw [← hk k', ← hk' k, Nat.add_comm]

theorem count_pos (states : List Arrows) (hn : 0 < states.length) (k : Nat) : 0 < countN states (k + 1) := by
  rw [countN]
  cases hs : states with
  | nil => simp [hs] at hn
  | cons l r =>
    have : vw l (groupsN (l :: r) k) ∈ (numAll ((l :: r).map fun l' => vw l' (groupsN (l :: r) k))).2 := (seen_mem _ _).2 (by simp)
    exact List.length_pos_of_mem this

/-- A stop of the program's: the count is as it was. -/
theorem final_of_count (states : List Arrows) (hc : Closed states) (hn : 0 < states.length) (k : Nat) (h : countN states (k + 1) = countN states k) : IsFinal states (groupsN states (k + 1)) := by
  cases k with
  | zero => have := count_pos states hn 0; rw [h] at this; simp [countN] at this
  | succ k =>
    have hs := stable states hc k h
    refine ⟨k + 1, fun m => ?_⟩
    rw [stays hs m, hs]

/-- A stop of the document's: the first count is one. -/
theorem final_of_one (states : List Arrows) (h : countN states 1 = 1) : IsFinal states (groupsN states 1) := by
  have e : groupsN states 1 = groupsN states 0 := by
    apply List.ext_getElem
    · rw [groupsN_length, groupsN_length]
    · intro i h1 h2
      have h3 := num_lt _ _ (List.getElem_mem h1)
      change _ < countN states 1 at h3
      rw [h] at h3
      simp [groupsN] at h2 ⊢
      simp [groupsN] at h3
      omega
  exact ⟨0, fun m => by rw [stays e m, e]⟩

/-- How many states 'fewest' makes. -/
def madeCount (G : List Nat) : Nat := G.foldl (fun c g => if g = c then c + 1 else c) 0

theorem madeCount_snoc (G : List Nat) (g : Nat) : madeCount (G ++ [g]) = if g = madeCount G then madeCount G + 1 else madeCount G := by
  unfold madeCount
  rw [List.foldl_append]
  rfl

theorem madeCount_num {α : Type} [BEq α] [LawfulBEq α] (vs : List α) : madeCount (numAll vs).1 = (numAll vs).2.length := by
  refine snoc_ind (P := fun vs => madeCount (numAll vs).1 = (numAll vs).2.length) (by simp [numAll, madeCount]) (fun l x ih => ?_) vs
  rw [numAll_snoc, numStep]
  by_cases h : (numAll l).2.contains x = true
  · rw [if_pos h, madeCount_snoc, ih, if_neg]
    have := idx_lt l x ((seen_mem l x).1 (by simpa using h))
    omega
  · rw [if_neg h, madeCount_snoc, ih, if_pos rfl]; simp

theorem madeCount_range (n : Nat) : madeCount (List.range n) = n := by
  induction n with
  | zero => rfl
  | succ n ih => rw [List.range_succ, madeCount_snoc, ih, if_pos rfl]

theorem num_range {α : Type} [BEq α] [LawfulBEq α] (vs : List α) (h : (numAll vs).2.length = vs.length) : (numAll vs).1 = List.range vs.length := by
  revert h
  refine snoc_ind (P := fun vs => (numAll vs).2.length = vs.length → (numAll vs).1 = List.range vs.length) (by simp [numAll]) (fun l x ih h => ?_) vs
  rw [numAll_snoc, numStep] at h ⊢
  have hle := numAll_seen_le l
  by_cases hx : (numAll l).2.contains x = true
  · rw [if_pos hx] at h; simp at h; omega
  · rw [if_neg hx] at h ⊢
    simp at h
    simp [ih h, List.range_succ, h]

/-- The program's test: as few as can be. -/
theorem few_iff (states : List Arrows) (k : Nat) : madeCount (groupsN states (k + 1)) = states.length ↔ groupsN states (k + 1) = List.range states.length := by
  constructor
  · intro h
    rw [groupsN, madeCount_num] at h
    rw [groupsN, num_range _ (by rw [h]; simp)]; simp
  · intro h; rw [h, madeCount_range]

end Go.Proofs.YtnecjeambpikdaaGreatDoor
