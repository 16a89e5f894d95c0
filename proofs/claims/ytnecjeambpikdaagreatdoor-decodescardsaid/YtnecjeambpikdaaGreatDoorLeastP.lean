/-
  The table with as few states as can be, numbered as they come. Plain mathematics; own work.
-/
import Derived.Test.YtnecjeambpikdaaGreatDoorPartsP
namespace Go.Proofs.YtnecjeambpikdaaGreatDoor

/-- Which new state an old one is; it may be a new one. -/
def rowStep (p order : List Nat) (x : Nat) : Nat × List Nat :=
  if (order.map fun y => p.getD y 0).idxOf (p.getD x 0) = order.length then (order.length, order ++ [x]) else ((order.map fun y => p.getD y 0).idxOf (p.getD x 0), order)
/-- One row. -/
def leastRow (p : List Nat) : List Nat → List (Nat × Bool) → List Nat × List (Nat × Bool)
  | order, [] => (order, [])
  | order, a :: r => ((leastRow p (rowStep p order a.1).2 r).1, ((rowStep p order a.1).1, a.2) :: (leastRow p (rowStep p order a.1).2 r).2)
theorem leastRow_snoc (p : List Nat) : ∀ (l : List (Nat × Bool)) (order : List Nat) (a : Nat × Bool), leastRow p order (l ++ [a]) = ((rowStep p (leastRow p order l).1 a.1).2, (leastRow p order l).2 ++ [((rowStep p (leastRow p order l).1 a.1).1, a.2)])
  | [], order, a => by simp [leastRow]
  | b :: l, order, a => by rw [List.cons_append, leastRow, leastRow_snoc p l, leastRow]; rfl
/-- The new states so far, and their rows. -/
def leastSt (p : List Nat) (st : List Arrows) : Nat → List Nat × List Arrows
  | 0 => ([0], [])
  | i + 1 => ((leastRow p (leastSt p st i).1 (st.getD ((leastSt p st i).1.getD i 0) [])).1, (leastSt p st i).2 ++ [(leastRow p (leastSt p st i).1 (st.getD ((leastSt p st i).1.getD i 0) [])).2])

theorem nodup_bound : ∀ (N : Nat) (l : List Nat), l.Nodup → (∀ x ∈ l, x < N) → l.length ≤ N
  | 0, l, _, h => by
    cases l with
    | nil => simp
    | cons a r => exact absurd (h a (by simp)) (by omega)
  | N + 1, l, hn, h => by
    have h1 := nodup_bound N (l.erase N) (hn.erase N) (fun x hx => by
      have h2 := h x (List.mem_of_mem_erase hx)
      have h3 : x ≠ N := fun e => by
        subst e
        exact absurd hx (by rw [hn.mem_erase_iff]; simp)
      omega)
    by_cases hm : N ∈ l
    · rw [List.length_erase_of_mem hm] at h1; omega
    · rw [List.erase_of_not_mem hm] at h1; omega

/-- What holds of the new states. -/
structure Ord (p : List Nat) (N : Nat) (order : List Nat) : Prop where
  pos : 0 < order.length
  lt : ∀ x ∈ order, x < N
  nd : (order.map fun y => p.getD y 0).Nodup

theorem Ord.step {p : List Nat} {N : Nat} {order : List Nat} (h : Ord p N order) {x : Nat} (hx : x < N) :
    Ord p N (rowStep p order x).2 ∧ (rowStep p order x).1 ≤ order.length ∧ (rowStep p order x).2.length = (if (rowStep p order x).1 = order.length then order.length + 1 else order.length) ∧ order <+: (rowStep p order x).2 := by
  unfold rowStep
  split
  · rename_i he
    refine ⟨⟨by simp, fun y hy => ?_, ?_⟩, Nat.le_refl _, by simp, List.prefix_append _ _⟩
    · rw [List.mem_append, List.mem_singleton] at hy
      rcases hy with hy | rfl
      · exact h.lt y hy
      · exact hx
    · rw [List.map_append, List.nodup_append]
      refine ⟨h.nd, by simp, ?_⟩
      intro a ha b hb
      simp at hb
      subst hb
      intro e
      subst e
      have := List.idxOf_lt_length_of_mem ha
      rw [List.length_map] at this
      simp only [List.getD_eq_getElem?_getD] at this he
      omega
  · rename_i he
    have hle : (order.map fun y => p.getD y 0).idxOf (p.getD x 0) ≤ order.length := by
      have := List.idxOf_le_length (a := p.getD x 0) (l := order.map fun y => p.getD y 0)
      rwa [List.length_map] at this
    exact ⟨h, hle, rfl, List.prefix_refl _⟩

theorem Ord.row {p : List Nat} {N : Nat} : ∀ (l : List (Nat × Bool)) {order : List Nat}, Ord p N order → (∀ a ∈ l, a.1 < N) →
    Ord p N (leastRow p order l).1 ∧ (leastRow p order l).2.length = l.length ∧ (∀ a ∈ (leastRow p order l).2, a.1 < (leastRow p order l).1.length) ∧ comeRow order.length (leastRow p order l).2 = some (leastRow p order l).1.length ∧ order <+: (leastRow p order l).1
  | [], order, h, _ => ⟨h, rfl, by simp [leastRow], by simp [leastRow, comeRow], List.prefix_refl _⟩
  | a :: l, order, h, hl => by
    obtain ⟨s1, s2, s3, s4⟩ := h.step (hl a (by simp))
    obtain ⟨r1, r2, r3, r4, r5⟩ := Ord.row l s1 (fun b hb => hl b (by simp [hb]))
    rw [leastRow]
    have hle := r5.length_le
    refine ⟨r1, by simp [r2], ?_, ?_, s4.trans r5⟩
    · intro b hb
      rcases List.mem_cons.1 hb with rfl | hb
      · simp only
        rw [s3] at hle
        split at hle <;> omega
      · exact r3 b hb
    · rw [comeRow, if_neg (by simp only; omega)]
      simp only
      rw [← s3]
      exact r4

theorem comeRows_snoc (r : List (Nat × Bool)) : ∀ (rs : List (List (Nat × Bool))) (n met : Nat), comeRows n met (rs ++ [r]) = (comeRows n met rs).bind fun m => if n + rs.length = m then none else comeRow m r
  | [], n, met => by
    simp only [List.nil_append, comeRows, Option.bind_some, List.length_nil, Nat.add_zero]
    split
    · rfl
    · cases comeRow met r <;> rfl
  | x :: rs, n, met => by
    rw [List.cons_append, comeRows, comeRows]
    split
    · rfl
    · cases comeRow met x with
      | none => rfl
      | some m =>
        simp only
        rw [comeRows_snoc r rs (n + 1) m]
        congr 1
        funext m'
        rw [List.length_cons, show n + 1 + rs.length = n + (rs.length + 1) by omega]

theorem leastSt_length (p : List Nat) (st : List Arrows) : ∀ i, (leastSt p st i).2.length = i
  | 0 => rfl
  | i + 1 => by rw [leastSt]; simp [leastSt_length p st i]

/-- The loop has come to i. -/
def Came (p : List Nat) (st : List Arrows) (i : Nat) : Prop := ∀ j, j < i → j < (leastSt p st j).1.length

theorem least_inv (p : List Nat) (st : List Arrows) (h0 : 0 < st.length) (hc : Closed st) : ∀ i, Came p st i → Ord p st.length (leastSt p st i).1 ∧ i ≤ (leastSt p st i).1.length ∧ comeRows 0 1 (leastSt p st i).2 = some (leastSt p st i).1.length ∧
    (∀ r ∈ (leastSt p st i).2, (∃ r' ∈ st, r.length = r'.length) ∧ ∀ a ∈ r, a.1 < (leastSt p st i).1.length)
  | 0, _ => ⟨⟨by simp [leastSt], by simp [leastSt]; omega, by simp [leastSt]⟩, Nat.zero_le _, rfl, by simp [leastSt]⟩
  | i + 1, hcm => by
    obtain ⟨h1, h2, h3, h4⟩ := least_inv p st h0 hc i (fun j hj => hcm j (by omega))
    have hi := hcm i (by omega)
    have hx := getD_some (leastSt p st i).1 i 0 hi
    have hxl := h1.lt _ (List.mem_of_getElem? hx)
    have hrow := getD_some st _ [] hxl
    have hrm := List.mem_of_getElem? hrow
    obtain ⟨r1, r2, r3, r4, r5⟩ := Ord.row (st.getD ((leastSt p st i).1.getD i 0) []) h1 (fun a ha => hc _ hrm a ha)
    have hle := r5.length_le
    rw [leastSt]
    simp only
    refine ⟨r1, by omega, ?_, ?_⟩
    · rw [comeRows_snoc, h3, Option.bind_some, if_neg (by rw [leastSt_length]; omega)]
      exact r4
    · intro r hr
      rw [List.mem_append, List.mem_singleton] at hr
      rcases hr with hr | rfl
      · obtain ⟨g1, g2⟩ := h4 r hr
        exact ⟨g1, fun a ha => by have := g2 a ha; omega⟩
      · exact ⟨⟨_, hrm, r2⟩, r3⟩
where
  getD_some {α : Type} (l : List α) (i : Nat) (d : α) (h : i < l.length) : l[i]? = some (l.getD i d) := by
    simp [List.getD_eq_getElem?_getD, List.getElem?_eq_getElem h]

theorem least_le (p : List Nat) (st : List Arrows) (h0 : 0 < st.length) (hc : Closed st) (hp : ∀ x ∈ p, x < st.length) (hpl : p.length = st.length) (i : Nat) (h : Came p st i) : (leastSt p st i).1.length ≤ st.length := by
  obtain ⟨h1, _, _, _⟩ := least_inv p st h0 hc i h
  have := nodup_bound st.length _ h1.nd (fun x hx => by
    obtain ⟨y, hy, rfl⟩ := List.mem_map.1 hx
    have hyl := h1.lt y hy
    exact hp _ (List.mem_of_getElem? (least_inv.getD_some p y 0 (by omega))))
  rwa [List.length_map] at this

/-- It is as they come. -/
theorem least_come (p : List Nat) (st : List Arrows) (h0 : 0 < st.length) (hc : Closed st) (i : Nat) (h : Came p st i) (he : (leastSt p st i).1.length = i) : asTheyCome (leastSt p st i).2 = true := by
  obtain ⟨_, _, h3, _⟩ := least_inv p st h0 hc i h
  rw [asTheyCome, h3, leastSt_length, he]
  simp

theorem rowStep_range {N m x : Nat} (hm : m ≤ N) (hx : x < N) (hle : x ≤ m) : rowStep (List.range N) (List.range m) x = (x, List.range (if x = m then m + 1 else m)) := by
  have hmap : (List.range m).map (fun y => (List.range N).getD y 0) = List.range m := by
    apply List.ext_getElem?
    intro j
    rw [List.getElem?_map]
    rcases Nat.lt_or_ge j m with hj | hj
    · rw [List.getElem?_range hj]
      simp [List.getD_eq_getElem?_getD, List.getElem?_range (by omega : j < N)]
    · rw [List.getElem?_eq_none (by simpa using hj)]
      rfl
  have hgx : (List.range N).getD x 0 = x := by simp [List.getD_eq_getElem?_getD, List.getElem?_range hx]
  unfold rowStep
  rw [hmap, hgx]
  by_cases h : x = m
  · subst h
    have : (List.range x).idxOf x = x := by
      have h1 := List.idxOf_eq_length (a := x) (l := List.range x) (by simp)
      rw [List.length_range] at h1
      exact h1
    rw [this, List.length_range, if_pos rfl, if_pos rfl, List.range_succ]
  · have h1 : (List.range m).idxOf x = x := by
      have hlt : x < m := by omega
      have : (List.range m)[x]? = some x := List.getElem?_range hlt
      refine idx_eq' _ x x this (fun j hj e => ?_)
      rw [List.getElem?_range (by omega)] at e
      injection e with e
      omega
    rw [h1, List.length_range, if_neg h, if_neg h]
where
  idx_eq' : ∀ (l : List Nat) (k : Nat) (v : Nat), l[k]? = some v → (∀ j, j < k → l[j]? ≠ some v) → l.idxOf v = k
    | [], k, v, h, _ => by simp at h
    | a :: l, 0, v, h, _ => by simp at h; subst h; simp
    | a :: l, k + 1, v, h, hn => by
      have ha : a ≠ v := fun e => hn 0 (by omega) (by simp [e])
      have := idx_eq' l k v (by simpa using h) (fun j hj => by have := hn (j + 1) (by omega); simpa using this)
      rw [List.idxOf_cons, beq_eq_false_iff_ne.2 ha]
      simp [this]

theorem comeRow_le' : ∀ (r : List (Nat × Bool)) (met m : Nat), comeRow met r = some m → met ≤ m ∧ ∀ a ∈ r, a.1 < m
  | [], met, m, h => by simp [comeRow] at h; simp [h]
  | a :: r, met, m, h => by
    rw [comeRow] at h
    split at h
    · cases h
    · rename_i hlt
      obtain ⟨h1, h2⟩ := comeRow_le' r _ m h
      refine ⟨by split at h1 <;> omega, fun b hb => ?_⟩
      rcases List.mem_cons.1 hb with rfl | hb
      · split at h1 <;> omega
      · exact h2 b hb
theorem leastRow_range (N : Nat) : ∀ (l : List (Nat × Bool)) (met m : Nat), m ≤ N → comeRow met l = some m → leastRow (List.range N) (List.range met) l = (List.range m, l)
  | [], met, m, _, h => by simp [comeRow] at h; subst h; rfl
  | a :: l, met, m, hm, h => by
    have hlt := comeRow_le' (a :: l) met m h
    rw [comeRow] at h
    split at h
    · cases h
    · rename_i hna
      have h2 := leastRow_range N l _ m hm h
      have hs := rowStep_range (N := N) (m := met) (x := a.1) (by omega) (by have := hlt.2 a (by simp); omega) (by omega)
      rw [leastRow, hs]
      simp only
      rw [h2]
theorem comeRows_mid : ∀ (rs : List (List (Nat × Bool))) (i n met : Nat) {N : Nat}, comeRows n met rs = some N → i ≤ rs.length → ∃ m, comeRows n met (rs.take i) = some m ∧ m ≤ N ∧ (i < rs.length → n + i ≠ m ∧ ∃ m', comeRow m (rs.getD i []) = some m' ∧ m' ≤ N)
  | [], i, n, met, N, h, hi => by
    simp [comeRows] at h
    simp at hi
    subst hi
    exact ⟨met, rfl, by omega, by simp⟩
  | r :: rs, 0, n, met, N, h, _ => by
    rw [comeRows] at h
    split at h
    · cases h
    · rename_i hne
      cases hr : comeRow met r with
      | none => rw [hr] at h; cases h
      | some m1 =>
        rw [hr] at h
        simp only at h
        obtain ⟨m2, g1, g2, _⟩ := comeRows_mid rs 0 (n + 1) m1 h (Nat.zero_le _)
        rw [List.take_zero, comeRows] at g1
        injection g1 with g1
        have hle := (comeRow_le' r met m1 hr).1
        exact ⟨met, rfl, by omega, fun _ => ⟨by omega, m1, hr, by omega⟩⟩
  | r :: rs, i + 1, n, met, N, h, hi => by
    rw [comeRows] at h
    rw [List.take_succ_cons, comeRows]
    split at h
    · cases h
    · rename_i hne
      rw [if_neg hne]
      cases hr : comeRow met r with
      | none => rw [hr] at h; cases h
      | some m1 =>
        rw [hr] at h
        simp only at h ⊢
        obtain ⟨m2, g1, g2, g3⟩ := comeRows_mid rs i (n + 1) m1 h (by simp at hi; omega)
        refine ⟨m2, g1, g2, fun hlt => ?_⟩
        obtain ⟨f1, f2⟩ := g3 (by simp at hlt; omega)
        exact ⟨by omega, by simpa using f2⟩

theorem least_range_st (st : List Arrows) (hc : asTheyCome st = true) : ∀ i, i ≤ st.length → Came (List.range st.length) st i → ∃ m, comeRows 0 1 (st.take i) = some m ∧ leastSt (List.range st.length) st i = (List.range m, st.take i)
  | 0, _, _ => ⟨1, rfl, rfl⟩
  | i + 1, hi, hcm => by
    rw [asTheyCome, beq_iff_eq] at hc
    obtain ⟨m, h1, h2⟩ := least_range_st st (by rw [asTheyCome, beq_iff_eq]; exact hc) i (by omega) (fun j hj => hcm j (by omega))
    have hil := hcm i (by omega)
    rw [h2] at hil
    simp only [List.length_range] at hil
    obtain ⟨m', g1, g2, g3⟩ := comeRows_mid st i 0 1 hc (by omega)
    rw [h1] at g1
    injection g1 with g1
    subst g1
    obtain ⟨_, m2, f1, f2⟩ := g3 (by omega)
    have hgi : (List.range m).getD i 0 = i := by simp [List.getD_eq_getElem?_getD, List.getElem?_range hil]
    have hst : st[i]? = some (st.getD i []) := least_inv.getD_some st i [] (by omega)
    have htk : st.take (i + 1) = st.take i ++ [st.getD i []] := by rw [List.take_add_one, hst]; rfl
    refine ⟨m2, ?_, ?_⟩
    · rw [htk, comeRows_snoc, h1, Option.bind_some, if_neg (by rw [List.length_take]; omega)]
      exact f1
    · rw [leastSt, h2]
      simp only
      rw [hgi, leastRow_range st.length (st.getD i []) m m2 f2 f1, htk]

/-- A table that is as few as can be and as they come is its own least. -/
theorem least_same (st : List Arrows) (hc : asTheyCome st = true) (i : Nat) (h : Came (List.range st.length) st i) (he : (leastSt (List.range st.length) st i).1.length = i) : (leastSt (List.range st.length) st i).2 = st := by
  have hi : i ≤ st.length := by
    rcases Nat.lt_or_ge st.length i with hgt | hle
    · exfalso
      obtain ⟨m, h1, h2⟩ := least_range_st st hc st.length (Nat.le_refl _) (fun j hj => h j (by omega))
      have h3 := h st.length hgt
      rw [h2] at h3
      rw [List.take_length] at h1
      rw [asTheyCome, beq_iff_eq, h1] at hc
      injection hc with hc
      simp only [List.length_range] at h3
      omega
    · exact hle
  obtain ⟨m, h1, h2⟩ := least_range_st st hc i hi h
  rw [h2] at he
  simp only [List.length_range] at he
  subst he
  rcases Nat.lt_or_ge m st.length with hlt | hge
  · exfalso
    rw [asTheyCome, beq_iff_eq] at hc
    obtain ⟨m', g1, g2, g3⟩ := comeRows_mid st m 0 1 hc (by omega)
    rw [h1] at g1
    injection g1 with g1
    have := (g3 hlt).1
    omega
  · rw [h2]
    exact List.take_of_length_le hge

/-- If it is its own least, there are as few as can be. -/
theorem least_few (st : List Arrows) (h0 : 0 < st.length) (hc : Closed st) (k i : Nat) (h : Came (groupsN st (k + 1)) st i) (he : (leastSt (groupsN st (k + 1)) st i).1.length = i) (hs : (leastSt (groupsN st (k + 1)) st i).2 = st) : groupsN st (k + 1) = List.range st.length := by
  have hi : i = st.length := by rw [← hs, leastSt_length]
  obtain ⟨h1, _, _, _⟩ := least_inv _ st h0 hc i h
  have hlen : (numAll (st.map fun l => vw l (groupsN st k))).2.length = (st.map fun l => vw l (groupsN st k)).length := by
    have hle : (numAll (st.map fun l => vw l (groupsN st k))).2.length ≤ (st.map fun l => vw l (groupsN st k)).length := numAll_seen_le _
    have hge := nodup_bound (numAll (st.map fun l => vw l (groupsN st k))).2.length _ h1.nd (fun x hx => by
      obtain ⟨y, hy, rfl⟩ := List.mem_map.1 hx
      have hyl := h1.lt y hy
      exact num_lt _ _ (List.mem_of_getElem? (least_inv.getD_some (groupsN st (k + 1)) y 0 (by rw [groupsN_length]; exact hyl))))
    rw [List.length_map, he, hi] at hge
    rw [List.length_map] at hle ⊢
    omega
  have := num_range _ hlen
  rw [List.length_map] at this
  exact this

end Go.Proofs.YtnecjeambpikdaaGreatDoor
