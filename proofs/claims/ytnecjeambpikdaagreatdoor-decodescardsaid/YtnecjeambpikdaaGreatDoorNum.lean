/-
  Numbering by first occurrence; partitions that become finer. Plain mathematics; own work.
-/
import Derived.Test.YtnecjeambpikdaaGreatDoorPure
namespace Go.Proofs.YtnecjeambpikdaaGreatDoor

section
variable {α : Type} [BEq α] [LawfulBEq α] {β : Type} [BEq β] [LawfulBEq β]

theorem snoc_ind {γ : Type} {P : List γ → Prop} (h0 : P []) (h1 : ∀ l x, P l → P (l ++ [x])) (l : List γ) : P l := by
  rw [← List.reverse_reverse l]
  induction l.reverse with
  | nil => exact h0
  | cons a l ih => rw [List.reverse_cons]; exact h1 _ _ ih

theorem seen_mem (vs : List α) : ∀ v, v ∈ (numAll vs).2 ↔ v ∈ vs := by
  refine snoc_ind (P := fun vs => ∀ v, v ∈ (numAll vs).2 ↔ v ∈ vs) (fun v => by simp [numAll]) (fun l x ih v => ?_) vs
  rw [numAll_snoc, numStep]
  by_cases h : (numAll l).2.contains x = true
  · rw [if_pos h]
    have hx : x ∈ l := (ih x).1 (by simpa using h)
    simp only [ih, List.mem_append, List.mem_singleton]
    exact ⟨Or.inl, fun h => h.elim id (fun e => e ▸ hx)⟩
  · rw [if_neg h]
    simp [ih]

theorem seen_nodup (vs : List α) : (numAll vs).2.Nodup := by
  refine snoc_ind (P := fun vs => (numAll vs).2.Nodup) (by simp [numAll]) (fun l x ih => ?_) vs
  rw [numAll_snoc, numStep]
  by_cases h : (numAll l).2.contains x = true
  · rw [if_pos h]; exact ih
  · rw [if_neg h]
    have hx : x ∉ (numAll l).2 := by simpa using h
    rw [List.nodup_append]
    refine ⟨ih, by simp, fun a ha b hb => ?_⟩
    simp at hb
    subst hb
    exact fun e => hx (e ▸ ha)

/-- The numbers are the places in what was seen. -/
theorem num_idx (vs : List α) : (numAll vs).1 = vs.map fun v => (numAll vs).2.idxOf v := by
  refine snoc_ind (P := fun vs => (numAll vs).1 = vs.map fun v => (numAll vs).2.idxOf v) (by simp [numAll]) (fun l x ih => ?_) vs
  rw [numAll_snoc, numStep]
  by_cases h : (numAll l).2.contains x = true
  · rw [if_pos h]; simp [← ih]
  · rw [if_neg h]
    have hx : x ∉ (numAll l).2 := by simpa using h
    simp only [List.map_append, List.map_cons, List.map_nil]
    rw [List.idxOf_append, if_neg hx]
    congr 1
    · rw [ih]
      apply List.map_congr_left
      intro v hv
      rw [List.idxOf_append, if_pos ((seen_mem l v).2 hv)]
    · simp

theorem num_get (vs : List α) (i : Nat) (v : α) (h : vs[i]? = some v) : (numAll vs).1[i]? = some ((numAll vs).2.idxOf v) := by
  rw [num_idx, List.getElem?_map, h]; rfl

theorem idx_lt (vs : List α) (v : α) (h : v ∈ vs) : (numAll vs).2.idxOf v < (numAll vs).2.length := List.idxOf_lt_length_of_mem ((seen_mem vs v).2 h)

theorem idx_inj {l : List α} {a b : α} (ha : a ∈ l) (h : l.idxOf a = l.idxOf b) : a = b := by
  have h1 : l.idxOf a < l.length := List.idxOf_lt_length_of_mem ha
  have e1 : l[l.idxOf a]? = some a := by
    rw [List.getElem?_eq_getElem h1]; simp
  have h2 : l.idxOf b < l.length := h ▸ h1
  have e2 : l[l.idxOf b]? = some b := by
    rw [List.getElem?_eq_getElem h2]; simp
  rw [h, e2] at e1
  injection e1 with e1
  exact e1.symm

/-- Two states have one number just if they are seen alike. -/
theorem num_eq (vs : List α) (i j : Nat) (a b : α) (hi : vs[i]? = some a) (hj : vs[j]? = some b) : (numAll vs).1[i]? = (numAll vs).1[j]? ↔ a = b := by
  rw [num_get vs i a hi, num_get vs j b hj]
  constructor
  · intro h
    injection h with h
    exact idx_inj ((seen_mem vs a).2 (List.mem_of_getElem? hi)) h
  · rintro rfl; rfl

theorem num_lt (vs : List α) : ∀ x ∈ (numAll vs).1, x < (numAll vs).2.length := by
  intro x hx
  rw [num_idx, List.mem_map] at hx
  obtain ⟨v, hv, rfl⟩ := hx
  exact idx_lt vs v hv

/-- Fine views determine coarse ones: then there are no more coarse ones; and if there are as many, the numbers are the same. -/
theorem fine_le (ps : List (α × β)) (h : ∀ p ∈ ps, ∀ q ∈ ps, p.2 = q.2 → p.1 = q.1) : (numAll (ps.map Prod.fst)).2.length ≤ (numAll (ps.map Prod.snd)).2.length := by
  revert h
  refine snoc_ind (P := fun ps => (∀ p ∈ ps, ∀ q ∈ ps, p.2 = q.2 → p.1 = q.1) → (numAll (ps.map Prod.fst)).2.length ≤ (numAll (ps.map Prod.snd)).2.length) (by simp [numAll]) (fun l x ih h => ?_) ps
  have ih' := ih (fun p hp q hq => h p (by simp [hp]) q (by simp [hq]))
  simp only [List.map_append, List.map_cons, List.map_nil, numAll_snoc, numStep]
  by_cases h2 : (numAll (l.map Prod.snd)).2.contains x.2 = true
  · have h1 : (numAll (l.map Prod.fst)).2.contains x.1 = true := by
      have : x.2 ∈ l.map Prod.snd := (seen_mem _ _).1 (by simpa using h2)
      obtain ⟨p, hp, e⟩ := List.mem_map.1 this
      have := h p (by simp [hp]) x (by simp) e
      have : x.1 ∈ l.map Prod.fst := List.mem_map.2 ⟨p, hp, this⟩
      simpa using (seen_mem _ _).2 this
    rw [if_pos h1, if_pos h2]; exact ih'
  · rw [if_neg h2]
    by_cases h1 : (numAll (l.map Prod.fst)).2.contains x.1 = true
    · rw [if_pos h1]; simp; omega
    · rw [if_neg h1]; simp; omega

theorem fine_eq (ps : List (α × β)) (h : ∀ p ∈ ps, ∀ q ∈ ps, p.2 = q.2 → p.1 = q.1) (hc : (numAll (ps.map Prod.fst)).2.length = (numAll (ps.map Prod.snd)).2.length) :
    ∀ p ∈ ps, ∀ q ∈ ps, p.1 = q.1 → p.2 = q.2 := by
  revert h hc
  refine snoc_ind (P := fun ps => (∀ p ∈ ps, ∀ q ∈ ps, p.2 = q.2 → p.1 = q.1) → (numAll (ps.map Prod.fst)).2.length = (numAll (ps.map Prod.snd)).2.length → ∀ p ∈ ps, ∀ q ∈ ps, p.1 = q.1 → p.2 = q.2) (by simp) (fun l x ih h hc => ?_) ps
  have h' : ∀ p ∈ l, ∀ q ∈ l, p.2 = q.2 → p.1 = q.1 := fun p hp q hq => h p (by simp [hp]) q (by simp [hq])
  have hle := fine_le l h'
  simp only [List.map_append, List.map_cons, List.map_nil, numAll_snoc, numStep] at hc
  have key : (numAll (l.map Prod.fst)).2.length = (numAll (l.map Prod.snd)).2.length ∧ ((numAll (l.map Prod.fst)).2.contains x.1 = true → (numAll (l.map Prod.snd)).2.contains x.2 = true) := by
    by_cases h2 : (numAll (l.map Prod.snd)).2.contains x.2 = true
    · have h1 : (numAll (l.map Prod.fst)).2.contains x.1 = true := by
        have : x.2 ∈ l.map Prod.snd := (seen_mem _ _).1 (by simpa using h2)
        obtain ⟨p, hp, e⟩ := List.mem_map.1 this
        have := h p (by simp [hp]) x (by simp) e
        have : x.1 ∈ l.map Prod.fst := List.mem_map.2 ⟨p, hp, this⟩
        simpa using (seen_mem _ _).2 this
      rw [if_pos h1, if_pos h2] at hc
      exact ⟨hc, fun _ => h2⟩
    · rw [if_neg h2] at hc
      by_cases h1 : (numAll (l.map Prod.fst)).2.contains x.1 = true
      · rw [if_pos h1] at hc; simp at hc; omega
      · rw [if_neg h1] at hc; simp at hc; exact ⟨hc, fun e => absurd e h1⟩
  have ih' := ih h' key.1
  have hx : ∀ p ∈ l, p.1 = x.1 → p.2 = x.2 := by
    intro p hp e
    have h1 : (numAll (l.map Prod.fst)).2.contains x.1 = true := by
      have : x.1 ∈ l.map Prod.fst := List.mem_map.2 ⟨p, hp, e⟩
      simpa using (seen_mem _ _).2 this
    have h2 : x.2 ∈ l.map Prod.snd := (seen_mem _ _).1 (by simpa using key.2 h1)
    obtain ⟨q, hq, eq⟩ := List.mem_map.1 h2
    have : q.1 = x.1 := h q (by simp [hq]) x (by simp) eq
    rw [← eq]
    exact ih' p hp q hq (e.trans this.symm)
  intro p hp q hq e
  simp only [List.mem_append, List.mem_singleton] at hp hq
  rcases hp with hp | rfl <;> rcases hq with hq | rfl
  · exact ih' p hp q hq e
  · exact hx p hp e
  · exact (hx q hq e.symm).symm
  · rfl

/-- Views that tell the same states apart give the same numbers. -/
theorem same_num (ps : List (α × β)) (h : ∀ p ∈ ps, ∀ q ∈ ps, p.2 = q.2 ↔ p.1 = q.1) : (numAll (ps.map Prod.fst)).1 = (numAll (ps.map Prod.snd)).1 ∧ (numAll (ps.map Prod.fst)).2.length = (numAll (ps.map Prod.snd)).2.length := by
  have : ∃ S : List (α × β), (numAll (ps.map Prod.fst)).2 = S.map Prod.fst ∧ (numAll (ps.map Prod.snd)).2 = S.map Prod.snd ∧ (∀ p ∈ S, p ∈ ps) ∧ (numAll (ps.map Prod.fst)).1 = (numAll (ps.map Prod.snd)).1 := by
    revert h
    refine snoc_ind (P := fun ps => (∀ p ∈ ps, ∀ q ∈ ps, p.2 = q.2 ↔ p.1 = q.1) → ∃ S : List (α × β), (numAll (ps.map Prod.fst)).2 = S.map Prod.fst ∧ (numAll (ps.map Prod.snd)).2 = S.map Prod.snd ∧ (∀ p ∈ S, p ∈ ps) ∧ (numAll (ps.map Prod.fst)).1 = (numAll (ps.map Prod.snd)).1) (fun _ => ⟨[], by simp [numAll]⟩) (fun l x ih h => ?_) ps
    obtain ⟨S, e1, e2, hS, e3⟩ := ih (fun p hp q hq => h p (by simp [hp]) q (by simp [hq]))
    simp only [List.map_append, List.map_cons, List.map_nil, numAll_snoc, numStep]
    have hm : (numAll (l.map Prod.fst)).2.contains x.1 = true ↔ (numAll (l.map Prod.snd)).2.contains x.2 = true := by
      simp only [List.contains_iff_mem, seen_mem, List.mem_map]
      constructor
      · rintro ⟨p, hp, e⟩; exact ⟨p, hp, (h p (by simp [hp]) x (by simp)).2 e⟩
      · rintro ⟨p, hp, e⟩; exact ⟨p, hp, (h p (by simp [hp]) x (by simp)).1 e⟩
    have hidx : ∀ (T : List (α × β)), (∀ p ∈ T, p ∈ l) → (T.map Prod.fst).idxOf x.1 = (T.map Prod.snd).idxOf x.2 := by
      intro T hT
      induction T with
      | nil => rfl
      | cons p T ihT =>
        simp only [List.map_cons, List.idxOf_cons]
        have hp := h p (by simp [hT p (by simp)]) x (by simp)
        have := ihT (fun q hq => hT q (by simp [hq]))
        by_cases e : p.1 = x.1
        · rw [beq_iff_eq.2 e, beq_iff_eq.2 (hp.2 e)]; rfl
        · rw [beq_eq_false_iff_ne.2 e, beq_eq_false_iff_ne.2 (fun e' => e (hp.1 e')), this]
    by_cases h1 : (numAll (l.map Prod.fst)).2.contains x.1 = true
    · rw [if_pos h1, if_pos (hm.1 h1)]
      refine ⟨S, e1, e2, fun p hp => by simp [hS p hp], ?_⟩
      simp only
      rw [e3, e1, e2, hidx S hS]
    · rw [if_neg h1, if_neg (fun e => h1 (hm.2 e))]
      refine ⟨S ++ [x], by simp [e1], by simp [e2], fun p hp => ?_, ?_⟩
      · simp only [List.mem_append, List.mem_singleton] at hp ⊢
        exact hp.imp_left (hS p)
      · simp only
        rw [e3, e1, e2]; simp
  obtain ⟨S, e1, e2, _, e3⟩ := this
  exact ⟨e3, by rw [e1, e2]; simp⟩
end

end Go.Proofs.YtnecjeambpikdaaGreatDoor
