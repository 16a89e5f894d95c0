/-
  A table and its text. Plain mathematics; own work.
-/
import Derived.Test.YtnecjeambpikdaaGreatDoorTwo
namespace Go.Proofs.YtnecjeambpikdaaGreatDoor

/-- What a table is. -/
structure Tbl where
  classes : List (List (Nat × Nat))
  states : List (List (Nat × Bool))

/-- Its lines but the first. -/
def Tbl.lines (T : Tbl) : List (List UInt8) := T.classes.map classLine ++ T.states.map stateLine
/-- Its text. -/
def enc (T : Tbl) : List UInt8 := headLine T.classes.length T.states.length ++ 10 :: T.lines.flatMap fun l => l ++ [10]

structure Bd (T : Tbl) : Prop where
  cls : T.classes.length ≤ 6
  each : ∀ c ∈ T.classes, classOk c
  pos : 1 ≤ T.states.length
  sts : T.states.length ≤ 256
  row : ∀ r ∈ T.states, r.length = T.classes.length + 1 ∧ ∀ a ∈ r, a.1 < T.states.length

theorem join_flat (c : UInt8) : ∀ (h : List UInt8) (ls : List (List UInt8)), joinC c (h :: ls ++ [[]]) = h ++ c :: ls.flatMap fun l => l ++ [c]
  | h, [] => by simp [joinC]
  | h, l :: ls => by
    have := join_flat c l ls
    rw [List.cons_append, List.cons_append, joinC, ← List.cons_append, this]
    simp
theorem enc_lines (T : Tbl) : enc T = joinC 10 (headLine T.classes.length T.states.length :: T.lines ++ [[]]) := by rw [join_flat]; rfl

theorem join_no {c d : UInt8} (hd : c ≠ d) : ∀ ls : List (List UInt8), (∀ l ∈ ls, c ∉ l) → c ∉ joinC d ls
  | [], _ => by simp [joinC]
  | [l], h => by simpa [joinC] using h l (by simp)
  | l :: m :: r, h => by
    have := join_no hd (m :: r) (fun x hx => h x (by simp [hx]))
    have h1 := h l (by simp)
    rw [joinC]
    intro hm
    rw [List.mem_append, List.mem_cons] at hm
    rcases hm with hm | hm | hm
    · exact h1 hm
    · exact hd hm
    · exact this hm

theorem class_no {l : List (Nat × Nat)} (h : classOk l) : (10 : UInt8) ∉ classLine l := by
  refine join_no (by decide) _ (fun x hx => ?_)
  obtain ⟨y, hy, rfl⟩ := List.mem_map.1 hx
  exact span_no (h.2.2 y hy) dig10 (by decide)
theorem state_no {l : List (Nat × Bool)} (h : ∀ a ∈ l, a.1 ≤ 16777215) : (10 : UInt8) ∉ stateLine l := by
  refine join_no (by decide) _ (fun x hx => ?_)
  obtain ⟨y, hy, rfl⟩ := List.mem_map.1 hx
  exact arrow_no (h y hy) dig10 (by decide) (by decide)
theorem head_no {c n : Nat} (hc : c ≤ 6) (hn : n ≤ 256) : (10 : UInt8) ∉ headLine c n := by
  refine join_no (by decide) _ (fun x hx => ?_)
  simp only [List.mem_cons, List.mem_nil_iff, or_false] at hx
  rcases hx with rfl | rfl | rfl
  · decide
  · exact (dec_canon c (by omega)).no dig10
  · exact (dec_canon n (by omega)).no dig10

theorem Bd.arrow {T : Tbl} (h : Bd T) : ∀ r ∈ T.states, ∀ a ∈ r, a.1 ≤ 16777215 := fun r hr a ha => by
  have := (h.row r hr).2 a ha
  have := h.sts
  omega
theorem Bd.lines_no {T : Tbl} (h : Bd T) : ∀ l ∈ headLine T.classes.length T.states.length :: T.lines ++ [[]], (10 : UInt8) ∉ l := by
  intro l hl
  rw [List.cons_append, List.mem_cons, List.mem_append, List.mem_singleton, Tbl.lines, List.mem_append] at hl
  rcases hl with rfl | (hl | hl) | rfl
  · exact head_no h.cls h.sts
  · obtain ⟨c, hc, rfl⟩ := List.mem_map.1 hl
    exact class_no (h.each c hc)
  · obtain ⟨r, hr, rfl⟩ := List.mem_map.1 hl
    exact state_no (h.arrow r hr)
  · simp

theorem join_inj (c : UInt8) {ls ms : List (List UInt8)} (h1 : ls ≠ []) (h2 : ms ≠ []) (k1 : ∀ l ∈ ls, c ∉ l) (k2 : ∀ l ∈ ms, c ∉ l) (h : joinC c ls = joinC c ms) : ls = ms := by
  have a := split_join c ls (ls.length + ms.length) h1 k1 (by omega)
  have b := split_join c ms (ls.length + ms.length) h2 k2 (by omega)
  rw [h] at a
  exact a.symm.trans b
theorem dec_inj {a b : Nat} (ha : a ≤ 16777215) (hb : b ≤ 16777215) (h : Lib.decDigits a = Lib.decDigits b) : a = b := by
  have h1 := (dec_canon a ha).val
  rw [h, (dec_canon b hb).val] at h1
  injection h1 with h1
  exact h1.symm
theorem hex_inj {a b : Nat} (ha : a ≤ 16777215) (hb : b ≤ 16777215) (h : hexOf a = hexOf b) : a = b := by
  have h1 := (hex_canon a ha).val
  rw [h, (hex_canon b hb).val] at h1
  injection h1 with h1
  exact h1.symm
theorem span_inj {x y : Nat × Nat} (hx : spanOk x.1 x.2 = true) (hy : spanOk y.1 y.2 = true) (h : spanText x = spanText y) : x = y := by
  obtain ⟨l1, l2⟩ := spanOk_le hx
  obtain ⟨m1, m2⟩ := spanOk_le hy
  have a := cut_join 45 (hexOf x.1) (hexOf x.2) ((hex_canon x.1 (by omega)).no dig45)
  have b := cut_join 45 (hexOf y.1) (hexOf y.2) ((hex_canon y.1 (by omega)).no dig45)
  have e : hexOf x.1 ++ 45 :: hexOf x.2 = hexOf y.1 ++ 45 :: hexOf y.2 := h
  rw [e, b] at a
  simp only [Prod.mk.injEq, and_true] at a
  exact Prod.ext (hex_inj (by omega) (by omega) a.1.symm) (hex_inj (by omega) (by omega) a.2.symm)
theorem arrow_inj {x y : Nat × Bool} (hx : x.1 ≤ 16777215) (hy : y.1 ≤ 16777215) (h : arrowText x = arrowText y) : x = y := by
  obtain ⟨a1, a2⟩ := arrow_cut x hx
  obtain ⟨b1, b2⟩ := arrow_cut y hy
  rw [h] at a1 a2
  rw [b1] at a1
  exact Prod.ext (dec_inj hx hy a1.symm) (a2.symm.trans b2)
theorem map_inj {α β : Type} (f : α → β) : ∀ (l m : List α), (∀ a ∈ l, ∀ b ∈ m, f a = f b → a = b) → l.map f = m.map f → l = m
  | [], [], _, _ => rfl
  | [], b :: m, _, h => by simp at h
  | a :: l, [], _, h => by simp at h
  | a :: l, b :: m, hi, h => by
    simp only [List.map_cons, List.cons.injEq] at h
    rw [hi a (by simp) b (by simp) h.1, map_inj f l m (fun x hx y hy => hi x (by simp [hx]) y (by simp [hy])) h.2]
theorem class_inj {l m : List (Nat × Nat)} (hl : classOk l) (hm : classOk m) (h : classLine l = classLine m) : l = m := by
  have := join_inj 32 (ls := l.map spanText) (ms := m.map spanText) (fun e => by rw [List.map_eq_nil_iff] at e; have := hl.1; rw [e] at this; simp at this) (fun e => by rw [List.map_eq_nil_iff] at e; have := hm.1; rw [e] at this; simp at this)
    (fun x hx => by obtain ⟨y, hy, rfl⟩ := List.mem_map.1 hx; exact span_no (hl.2.2 y hy) dig32 (by decide)) (fun x hx => by obtain ⟨y, hy, rfl⟩ := List.mem_map.1 hx; exact span_no (hm.2.2 y hy) dig32 (by decide)) h
  exact map_inj _ _ _ (fun a ha b hb e => span_inj (hl.2.2 a ha) (hm.2.2 b hb) e) this
theorem state_inj {l m : List (Nat × Bool)} (h1 : 0 < l.length) (h2 : 0 < m.length) (hl : ∀ a ∈ l, a.1 ≤ 16777215) (hm : ∀ a ∈ m, a.1 ≤ 16777215) (h : stateLine l = stateLine m) : l = m := by
  have := join_inj 32 (ls := l.map arrowText) (ms := m.map arrowText) (fun e => by rw [List.map_eq_nil_iff] at e; rw [e] at h1; simp at h1) (fun e => by rw [List.map_eq_nil_iff] at e; rw [e] at h2; simp at h2)
    (fun x hx => by obtain ⟨y, hy, rfl⟩ := List.mem_map.1 hx; exact arrow_no (hl y hy) dig32 (by decide) (by decide)) (fun x hx => by obtain ⟨y, hy, rfl⟩ := List.mem_map.1 hx; exact arrow_no (hm y hy) dig32 (by decide) (by decide)) h
  exact map_inj _ _ _ (fun a ha b hb e => arrow_inj (hl a ha) (hm b hb) e) this
theorem headLine_inj {a b c d : Nat} (ha : a ≤ 6) (hb : b ≤ 256) (hc : c ≤ 6) (hd : d ≤ 256) (h : headLine a b = headLine c d) : a = c ∧ b = d := by
  have := join_inj 32 (by simp) (by simp) (head_parts a b ha hb) (head_parts c d hc hd) h
  simp only [List.cons.injEq, true_and, and_true] at this
  exact ⟨dec_inj (by omega) (by omega) this.1, dec_inj (by omega) (by omega) this.2⟩

/-- A table's text is no other's. -/
theorem enc_inj {T U : Tbl} (hT : Bd T) (hU : Bd U) (h : enc T = enc U) : T = U := by
  rw [enc_lines, enc_lines] at h
  have := join_inj 10 (by simp) (by simp) hT.lines_no hU.lines_no h
  rw [List.cons_append, List.cons_append, List.cons.injEq] at this
  obtain ⟨h1, h2⟩ := this
  have h3 := List.append_inj_left' h2 rfl
  obtain ⟨e1, e2⟩ := headLine_inj hT.cls hT.sts hU.cls hU.sts h1
  obtain ⟨f1, f2⟩ := List.append_inj h3 (by simp [e1])
  have g1 : T.classes = U.classes := map_inj _ _ _ (fun a ha b hb e => class_inj (hT.each a ha) (hU.each b hb) e) f1
  have g2 : T.states = U.states := map_inj _ _ _ (fun a ha b hb e => state_inj (by rw [(hT.row a ha).1]; omega) (by rw [(hU.row b hb).1]; omega) (hT.arrow a ha) (hU.arrow b hb) e) f2
  cases T
  cases U
  simp only at g1 g2
  rw [g1, g2]

theorem join_len (c : UInt8) (m : Nat) : ∀ ls : List (List UInt8), (∀ l ∈ ls, l.length ≤ m) → (joinC c ls).length ≤ ls.length * (m + 1)
  | [], _ => by simp [joinC]
  | [l], h => by have := h l (by simp); simp [joinC]; omega
  | l :: k :: r, h => by
    have h1 := h l (by simp)
    have h2 := join_len c m (k :: r) (fun x hx => h x (by simp [hx]))
    rw [joinC, List.length_append, List.length_cons]
    rw [List.length_cons, Nat.succ_mul]
    omega
theorem span_len {x : Nat × Nat} (h : spanOk x.1 x.2 = true) : (spanText x).length ≤ 17 := by
  obtain ⟨l1, l2⟩ := spanOk_le h
  have := (hex_canon x.1 (by omega)).len
  have := (hex_canon x.2 (by omega)).len
  rw [spanText, List.length_append, List.length_cons]
  omega
theorem arrow_len {x : Nat × Bool} (h : x.1 ≤ 16777215) : (arrowText x).length ≤ 9 := by
  have := (dec_canon x.1 h).len
  rw [arrowText, List.length_append, List.length_singleton]
  omega

end Go.Proofs.YtnecjeambpikdaaGreatDoor
