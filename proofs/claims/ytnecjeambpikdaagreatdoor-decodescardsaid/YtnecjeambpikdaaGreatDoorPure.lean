/-
  The plain functions of this seat's proof: tables, how their states are numbered and told apart. Own work; nothing of the program is named here.
-/
namespace Go.Proofs.YtnecjeambpikdaaGreatDoor

/-- One row of arrows: how many states are met behind it; none: an arrow leads too far. -/
def comeRow : Nat → List (Nat × Bool) → Option Nat
  | met, [] => some met
  | met, a :: r => if met < a.1 then none else comeRow (if a.1 = met then met + 1 else met) r
def comeRows : Nat → Nat → List (List (Nat × Bool)) → Option Nat
  | _, met, [] => some met
  | n, met, row :: rest => if n = met then none else match comeRow met row with
    | none => none
    | some m => comeRows (n + 1) m rest
/-- Are the states numbered as they come, each of them met? -/
def asTheyCome (states : List (List (Nat × Bool))) : Bool := comeRows 0 1 states == some states.length

/-- What is to be seen of a state while groups alone are told apart. -/
def vw (l : List (Nat × Bool)) (gs : List Nat) : List (Nat × Bool) := l.map fun a => (gs.getD a.1 0, a.2)

/-- Views are numbered as they are seen: the numbers so far, and what was seen. -/
def numStep {α : Type} [BEq α] (st : List Nat × List α) (v : α) : List Nat × List α :=
  if st.2.contains v then (st.1 ++ [st.2.idxOf v], st.2) else (st.1 ++ [st.2.length], st.2 ++ [v])
def numAll {α : Type} [BEq α] (vs : List α) : List Nat × List α := vs.foldl numStep ([], [])

theorem numAll_snoc {α : Type} [BEq α] (vs : List α) (v : α) : numAll (vs ++ [v]) = numStep (numAll vs) v := by simp [numAll]

theorem numAll_length {α : Type} [BEq α] (vs : List α) : (numAll vs).1.length = vs.length := by
  have : ∀ (vs : List α) (st : List Nat × List α), (vs.foldl numStep st).1.length = st.1.length + vs.length := by
    intro vs
    induction vs with
    | nil => intro st; simp
    | cons v vs ih =>
      intro st
      rw [List.foldl_cons, ih]
      unfold numStep
      split <;> simp <;> omega
  simp [numAll, this]

theorem numAll_seen_le {α : Type} [BEq α] (vs : List α) : (numAll vs).2.length ≤ vs.length := by
  have : ∀ (vs : List α) (st : List Nat × List α), (vs.foldl numStep st).2.length ≤ st.2.length + vs.length := by
    intro vs
    induction vs with
    | nil => intro st; simp
    | cons v vs ih =>
      intro st
      rw [List.foldl_cons]
      refine Nat.le_trans (ih _) ?_
      unfold numStep
      split <;> simp <;> omega
  simpa [numAll] using this vs ([], [])

end Go.Proofs.YtnecjeambpikdaaGreatDoor
