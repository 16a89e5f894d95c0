/-
  What is known of a table's text while the document's reader reads it: what was read so far, and what is still to come of every table whose text it is. Own work.
-/
import Derived.Test.YtnecjeambpikdaaGreatDoorNumB
namespace Go.Proofs.YtnecjeambpikdaaGreatDoor
open Go.RowKit

/-- What is known of a text while it is read. -/
structure Kn (s : List UInt8) (S : ByteArray) (ok : Bool) (P : List UInt8) (A : Prop) (R : Tbl → List UInt8 → Prop) : Prop where
  snd : ok = true → A ∧ s = P ++ S.data.toList
  cmp : ∀ T, Bd T → s = enc T → ok = true ∧ R T S.data.toList

section
variable {s P : List UInt8} {S t : ByteArray} {ok : Bool} {A : Prop} {R : Tbl → List UInt8 → Prop} {w w' : World} {fb base most n : Nat}
theorem Kn.skip {R' : Tbl → List UInt8 → Prop} (h : Kn s S ok P A R) (hk : Skipped fb S t ok w w') (hr : ok = true → A → ∀ T r, Bd T → R T r → ∃ r', r = t.data.toList ++ r' ∧ R' T r') :
    ∃ S' ok', FeedAt w' fb S' ok' ∧ S'.size ≤ S.size ∧ (ok' = true → ok = true) ∧ w.grownBy w' (some fb) ∧ Kn s S' ok' (P ++ t.data.toList) A R' := by
  obtain ⟨S', ok', h1, h2, h3, h4, h5⟩ := hk
  refine ⟨S', ok', h1, h2, fun e => (h3 e).1, h5, fun e => ?_, fun T hT hs => ?_⟩
  · obtain ⟨e1, e2⟩ := h3 e
    obtain ⟨a, b⟩ := h.snd e1
    exact ⟨a, by rw [b, e2, List.append_assoc]⟩
  · obtain ⟨e1, e2⟩ := h.cmp T hT hs
    obtain ⟨r', e3, e4⟩ := hr e1 (h.snd e1).1 T _ hT e2
    obtain ⟨g1, g2⟩ := h4 r' e1 e3
    exact ⟨g1, by rw [g2]; exact e4⟩
theorem Kn.num {R' : Nat → Tbl → List UInt8 → Prop} (h : Kn s S ok P A R) (hk : Numbered base most fb S ok w n w') (hr : ok = true → A → ∀ T r, Bd T → R T r → ∃ m r', m ≤ most ∧ r = digs base m ++ r' ∧ (∀ c r'', r' = c :: r'' → digOf c = none) ∧ R' m T r') :
    n ≤ most ∧ ∃ S' ok', FeedAt w' fb S' ok' ∧ S'.size ≤ S.size ∧ (ok' = true → ok = true) ∧ w.grownBy w' (some fb) ∧ Kn s S' ok' (P ++ digs base n) A (R' n) := by
  obtain ⟨S', ok', h1, h2, hm, h3, h4, h5⟩ := hk
  refine ⟨hm, S', ok', h1, h2, fun e => (h3 e).1, h5, fun e => ?_, fun T hT hs => ?_⟩
  · obtain ⟨e1, e2⟩ := h3 e
    obtain ⟨a, b⟩ := h.snd e1
    exact ⟨a, by rw [b, e2, List.append_assoc]⟩
  · obtain ⟨e1, e2⟩ := h.cmp T hT hs
    obtain ⟨m, r', e0, e3, e5, e4⟩ := hr e1 (h.snd e1).1 T _ hT e2
    obtain ⟨g1, g2, g3⟩ := h4 m r' e1 e0 e3 e5
    exact ⟨g1, by rw [g3, g2]; exact e4⟩
theorem Kn.bad (h : Kn s S ok P A R) {A' : Prop} {P' : List UInt8} {R' : Tbl → List UInt8 → Prop} (hr : ok = true → A → ∀ T, Bd T → ¬ R T S.data.toList) : Kn s S false P' A' R' := by
  refine ⟨by simp, fun T hT hs => ?_⟩
  obtain ⟨e1, e2⟩ := h.cmp T hT hs
  exact (hr e1 (h.snd e1).1 T hT e2).elim
theorem Kn.turn (h : Kn s S ok P A R) {A' : Prop} {P' : List UInt8} {R' : Tbl → List UInt8 → Prop} (ha : ok = true → A → A') (hp : ok = true → A → P = P') (hr : ok = true → A → ∀ T, Bd T → R T S.data.toList → R' T S.data.toList) : Kn s S ok P' A' R' := by
  refine ⟨fun e => ?_, fun T hT hs => ?_⟩
  · obtain ⟨a, b⟩ := h.snd e
    exact ⟨ha e a, by rw [b, hp e a]⟩
  · obtain ⟨e1, e2⟩ := h.cmp T hT hs
    exact ⟨e1, hr e1 (h.snd e1).1 T hT e2⟩
end

def restC (cs : List (List (Nat × Nat))) : List UInt8 := cs.flatMap fun c => classLine c ++ [10]
def restS (st : List (List (Nat × Bool))) : List UInt8 := st.flatMap fun c => stateLine c ++ [10]
def hd (k n : Nat) : List UInt8 := headLine k n ++ [10]
theorem restC_snoc (cs : List (List (Nat × Nat))) (c : List (Nat × Nat)) : restC (cs ++ [c]) = restC cs ++ classLine c ++ [10] := by simp [restC]
theorem restS_snoc (cs : List (List (Nat × Bool))) (c : List (Nat × Bool)) : restS (cs ++ [c]) = restS cs ++ stateLine c ++ [10] := by simp [restS]
theorem enc_parts (T : Tbl) : enc T = hd T.classes.length T.states.length ++ (restC T.classes ++ restS T.states) := by
  simp [enc, hd, Tbl.lines, restC, restS, List.flatMap_append, List.flatMap_map]
theorem join_snoc (c : UInt8) (x : List UInt8) : ∀ L : List (List UInt8), joinC c (L ++ [x]) = L.flatMap (· ++ [c]) ++ x
  | [] => by simp [joinC]
  | [a] => by simp [joinC]
  | a :: b :: r => by
    have := join_snoc c x (b :: r)
    rw [List.cons_append, List.cons_append, joinC, ← List.cons_append, this]
    simp
/-- What comes behind a piece. -/
def tl (c : UInt8) (L : List (List UInt8)) : List UInt8 := match L with
  | [] => []
  | _ :: _ => c :: joinC c L
theorem join_cons (c : UInt8) (x : List UInt8) : ∀ L : List (List UInt8), joinC c (x :: L) = x ++ tl c L
  | [] => by simp [joinC, tl]
  | a :: r => by rw [joinC]; simp only [tl]
theorem digs16 (n : Nat) : digs 16 n = hexOf n := rfl
theorem digs10 (n : Nat) : digs 10 n = Lib.decDigits n := rfl

/-! The head. -/
def RH1 (T : Tbl) (r : List UInt8) : Prop := r = Lib.decDigits T.classes.length ++ (32 :: (Lib.decDigits T.states.length ++ (10 :: (restC T.classes ++ restS T.states))))
def RH2 (k : Nat) (T : Tbl) (r : List UInt8) : Prop := T.classes.length = k ∧ r = 32 :: (Lib.decDigits T.states.length ++ (10 :: (restC T.classes ++ restS T.states)))
def RH3 (k : Nat) (T : Tbl) (r : List UInt8) : Prop := T.classes.length = k ∧ r = Lib.decDigits T.states.length ++ (10 :: (restC T.classes ++ restS T.states))
def RH4 (k n : Nat) (T : Tbl) (r : List UInt8) : Prop := T.classes.length = k ∧ T.states.length = n ∧ r = 10 :: (restC T.classes ++ restS T.states)
def tClv : List UInt8 := [99, 108, 101, 97, 118, 101, 32]
theorem hd_eq (k n : Nat) : hd k n = tClv ++ Lib.decDigits k ++ [32] ++ Lib.decDigits n ++ [10] := by simp [hd, headLine, joinC, tClv]

/-- Classes that are read, one behind the other. -/
def RC (k n : Nat) (cls : List (List (Nat × Nat))) (T : Tbl) (r : List UInt8) : Prop := T.classes.length = k ∧ T.states.length = n ∧ ∃ cs, T.classes = cls ++ cs ∧ r = restC cs ++ restS T.states
def KC (s : List UInt8) (k n : Nat) (cls : List (List (Nat × Nat))) (S : ByteArray) (ok : Bool) : Prop := Kn s S ok (hd k n ++ restC cls) (1 ≤ n ∧ n ≤ 256 ∧ k ≤ 6 ∧ ∀ c ∈ cls, classOk c) (RC k n cls)

theorem kn_start (s : ByteArray) : Kn s.data.toList s true [] True (fun T r => r = enc T) := ⟨fun _ => ⟨trivial, by simp⟩, fun T _ h => ⟨rfl, h⟩⟩
theorem rh1 (T : Tbl) (r : List UInt8) (h : r = enc T) : ∃ r', r = tClv ++ r' ∧ RH1 T r' := ⟨_, by rw [h, enc_parts, hd_eq]; simp, rfl⟩
theorem no_dig {d : UInt8} (hd : digOf d = none) (l : List UInt8) : ∀ c r', d :: l = c :: r' → digOf c = none := fun c r' e => by injection e with e; rw [← e]; exact hd
theorem rh2 (T : Tbl) (r : List UInt8) (hT : Bd T) (h : RH1 T r) : ∃ m r', m ≤ 6 ∧ r = digs 10 m ++ r' ∧ (∀ c r'', r' = c :: r'' → digOf c = none) ∧ RH2 m T r' := ⟨T.classes.length, _, hT.cls, h, no_dig (by decide) _, rfl, rfl⟩
theorem rh3 (k : Nat) (T : Tbl) (r : List UInt8) (h : RH2 k T r) : ∃ r', r = [32] ++ r' ∧ RH3 k T r' := ⟨_, h.2, h.1, rfl⟩
theorem rh4 (k : Nat) (T : Tbl) (r : List UInt8) (hT : Bd T) (h : RH3 k T r) : ∃ m r', m ≤ 256 ∧ r = digs 10 m ++ r' ∧ (∀ c r'', r' = c :: r'' → digOf c = none) ∧ RH4 k m T r' := ⟨T.states.length, _, hT.sts, h.2, no_dig (by decide) _, h.1, rfl, rfl⟩
theorem rh5 (k n : Nat) (T : Tbl) (r : List UInt8) (h : RH4 k n T r) : ∃ r', r = [10] ++ r' ∧ RC k n [] T r' := ⟨_, h.2.2, h.1, h.2.1, T.classes, rfl, rfl⟩
theorem kc_start {s : List UInt8} {k n : Nat} {S : ByteArray} {ok : Bool} (hk : k ≤ 6) (hn : n ≤ 256) (h0 : n ≠ 0) (h : Kn s S ok ([] ++ tClv ++ digs 10 k ++ [32] ++ digs 10 n ++ [10]) True (RC k n [])) : KC s k n [] S ok :=
  h.turn (fun _ _ => ⟨by omega, hn, hk, by simp⟩) (fun _ _ => by rw [hd_eq, digs10, digs10]; simp [restC]) (fun _ _ _ _ h => h)

/-! The ranges of a class. -/
def txt (cur : List (Nat × Nat)) (more : Bool) : List UInt8 := if more then cur.flatMap (fun x => spanText x ++ [32]) else classLine cur
def RR (k n : Nat) (cls : List (List (Nat × Nat))) (cur : List (Nat × Nat)) (more : Bool) (T : Tbl) (r : List UInt8) : Prop :=
  T.classes.length = k ∧ T.states.length = n ∧ ∃ l cs, T.classes = cls ++ (cur ++ l) :: cs ∧ (more = true ↔ l ≠ []) ∧ r = classLine l ++ 10 :: (restC cs ++ restS T.states)
def AR (k n : Nat) (cls : List (List (Nat × Nat))) (cur : List (Nat × Nat)) (more : Bool) : Prop := (1 ≤ n ∧ n ≤ 256 ∧ k ≤ 6 ∧ ∀ c ∈ cls, classOk c) ∧ (∀ x ∈ cur, spanOk x.1 x.2 = true) ∧ cur.length ≤ 6 ∧ (more = false → cur ≠ [])
def KR (s : List UInt8) (k n : Nat) (cls : List (List (Nat × Nat))) (cur : List (Nat × Nat)) (more : Bool) (S : ByteArray) (ok : Bool) : Prop := Kn s S ok (hd k n ++ restC cls ++ txt cur more) (AR k n cls cur more) (RR k n cls cur more)
theorem KC.begin_ {s : List UInt8} {k n : Nat} {cls : List (List (Nat × Nat))} {S : ByteArray} {ok : Bool} (h : KC s k n cls S ok) (hl : cls.length < k) : KR s k n cls [] true S ok := by
  refine Kn.turn h (fun _ a => ⟨a, by simp, by simp, by simp⟩) (fun _ _ => by simp [txt]) (fun _ _ T hT hr => ?_)
  obtain ⟨h1, h2, cs, h3, h4⟩ := hr
  cases cs with
  | nil => rw [h3] at h1; simp at h1; omega
  | cons c cs =>
    refine ⟨h1, h2, c, cs, by simpa using h3, ?_, by rw [h4]; simp [restC]⟩
    have := (hT.each c (by rw [h3]; simp)).1
    constructor
    · intro _ e; rw [e] at this; simp at this
    · intro _; rfl
/-- There are six at most. -/
theorem KR.six {s : List UInt8} {k n : Nat} {cls : List (List (Nat × Nat))} {cur : List (Nat × Nat)} {S : ByteArray} {ok : Bool} (h : KR s k n cls cur true S ok) (h6 : 6 ≤ cur.length) {A' : Prop} {P' : List UInt8} {R' : Tbl → List UInt8 → Prop} : Kn s S false P' A' R' := by
  refine Kn.bad h (fun _ _ T hT hr => ?_)
  obtain ⟨_, _, l, cs, h3, h4, _⟩ := hr
  have h5 := h4.1 rfl
  have := (hT.each (cur ++ l) (by rw [h3]; simp)).2.1
  rw [List.length_append] at this
  have : 0 < l.length := List.length_pos_iff.2 h5
  omega
def AL (k n : Nat) (cls : List (List (Nat × Nat))) (cur : List (Nat × Nat)) : Prop := (1 ≤ n ∧ n ≤ 256 ∧ k ≤ 6 ∧ ∀ c ∈ cls, classOk c) ∧ (∀ x ∈ cur, spanOk x.1 x.2 = true) ∧ cur.length + 1 ≤ 6
def RL0 (k n : Nat) (cls : List (List (Nat × Nat))) (cur : List (Nat × Nat)) (T : Tbl) (r : List UInt8) : Prop :=
  T.classes.length = k ∧ T.states.length = n ∧ ∃ lo hi l cs, T.classes = cls ++ (cur ++ (lo, hi) :: l) :: cs ∧ r = hexOf lo ++ (45 :: (hexOf hi ++ (tl 32 (l.map spanText) ++ 10 :: (restC cs ++ restS T.states))))
def RL1 (k n : Nat) (cls : List (List (Nat × Nat))) (cur : List (Nat × Nat)) (lo : Nat) (T : Tbl) (r : List UInt8) : Prop :=
  T.classes.length = k ∧ T.states.length = n ∧ ∃ hi l cs, T.classes = cls ++ (cur ++ (lo, hi) :: l) :: cs ∧ r = 45 :: (hexOf hi ++ (tl 32 (l.map spanText) ++ 10 :: (restC cs ++ restS T.states)))
def RL2 (k n : Nat) (cls : List (List (Nat × Nat))) (cur : List (Nat × Nat)) (lo : Nat) (T : Tbl) (r : List UInt8) : Prop :=
  T.classes.length = k ∧ T.states.length = n ∧ ∃ hi l cs, T.classes = cls ++ (cur ++ (lo, hi) :: l) :: cs ∧ r = hexOf hi ++ (tl 32 (l.map spanText) ++ 10 :: (restC cs ++ restS T.states))
def RL3 (k n : Nat) (cls : List (List (Nat × Nat))) (cur : List (Nat × Nat)) (lo hi : Nat) (T : Tbl) (r : List UInt8) : Prop :=
  T.classes.length = k ∧ T.states.length = n ∧ ∃ l cs, T.classes = cls ++ (cur ++ (lo, hi) :: l) :: cs ∧ r = tl 32 (l.map spanText) ++ 10 :: (restC cs ++ restS T.states)
/-- A range begins. -/
def K0 (s : List UInt8) (k n : Nat) (cls : List (List (Nat × Nat))) (cur : List (Nat × Nat)) (S : ByteArray) (ok : Bool) : Prop := Kn s S ok (hd k n ++ restC cls ++ txt cur true) (AL k n cls cur) (RL0 k n cls cur)
theorem KR.more {s : List UInt8} {k n : Nat} {cls : List (List (Nat × Nat))} {cur : List (Nat × Nat)} {S : ByteArray} {ok : Bool} (h : KR s k n cls cur true S ok) (h6 : cur.length < 6) : K0 s k n cls cur S ok := by
  refine Kn.turn h (fun _ a => ⟨a.1, a.2.1, by omega⟩) (fun _ _ => rfl) (fun _ _ T hT hr => ?_)
  obtain ⟨h1, h2, l, cs, h3, h4, h5⟩ := hr
  cases l with
  | nil => exact (h4.1 rfl rfl).elim
  | cons x l =>
    refine ⟨h1, h2, x.1, x.2, l, cs, h3, ?_⟩
    rw [h5, classLine, List.map_cons, join_cons]
    simp [spanText]
theorem span_le {lo hi : Nat} (h : spanOk lo hi = true) : lo ≤ 1114111 ∧ hi ≤ 1114111 := by
  unfold spanOk Lib.validRune at h
  simp at h
  omega
theorem rl1 (k n : Nat) (cls : List (List (Nat × Nat))) (cur : List (Nat × Nat)) (T : Tbl) (r : List UInt8) (hT : Bd T) (h : RL0 k n cls cur T r) : ∃ m r', m ≤ 1114111 ∧ r = digs 16 m ++ r' ∧ (∀ c r'', r' = c :: r'' → digOf c = none) ∧ RL1 k n cls cur m T r' := by
  obtain ⟨h1, h2, lo, hi, l, cs, h3, h4⟩ := h
  have := span_le ((hT.each (cur ++ (lo, hi) :: l) (by rw [h3]; simp)).2.2 (lo, hi) (by simp))
  exact ⟨lo, _, this.1, h4, no_dig (by decide) _, h1, h2, hi, l, cs, h3, rfl⟩
theorem rl2 (k n : Nat) (cls : List (List (Nat × Nat))) (cur : List (Nat × Nat)) (lo : Nat) (T : Tbl) (r : List UInt8) (h : RL1 k n cls cur lo T r) : ∃ r', r = [45] ++ r' ∧ RL2 k n cls cur lo T r' := by
  obtain ⟨h1, h2, hi, l, cs, h3, h4⟩ := h
  exact ⟨_, h4, h1, h2, hi, l, cs, h3, rfl⟩
theorem tl_nodig (L : List (List UInt8)) (X : List UInt8) : ∀ c r'', tl 32 L ++ 10 :: X = c :: r'' → digOf c = none := by
  cases L with
  | nil => exact no_dig (by decide) _
  | cons a L => exact no_dig (by decide) _
theorem rl3 (k n : Nat) (cls : List (List (Nat × Nat))) (cur : List (Nat × Nat)) (lo : Nat) (T : Tbl) (r : List UInt8) (hT : Bd T) (h : RL2 k n cls cur lo T r) : ∃ m r', m ≤ 1114111 ∧ r = digs 16 m ++ r' ∧ (∀ c r'', r' = c :: r'' → digOf c = none) ∧ RL3 k n cls cur lo m T r' := by
  obtain ⟨h1, h2, hi, l, cs, h3, h4⟩ := h
  have := span_le ((hT.each (cur ++ (lo, hi) :: l) (by rw [h3]; simp)).2.2 (lo, hi) (by simp))
  exact ⟨hi, _, this.2, h4, tl_nodig _ _, h1, h2, l, cs, h3, rfl⟩
/-- A range is read. -/
def K3 (s : List UInt8) (k n : Nat) (cls : List (List (Nat × Nat))) (cur : List (Nat × Nat)) (lo hi : Nat) (S : ByteArray) (ok : Bool) : Prop := Kn s S ok (hd k n ++ restC cls ++ txt cur true ++ spanText (lo, hi)) (AL k n cls cur ∧ spanOk lo hi = true) (RL3 k n cls cur lo hi)
theorem k3_good {s : List UInt8} {k n : Nat} {cls : List (List (Nat × Nat))} {cur : List (Nat × Nat)} {lo hi : Nat} {S : ByteArray} {ok : Bool} (h : Kn s S ok (hd k n ++ restC cls ++ txt cur true ++ digs 16 lo ++ [45] ++ digs 16 hi) (AL k n cls cur) (RL3 k n cls cur lo hi)) (hok : spanOk lo hi = true) : K3 s k n cls cur lo hi S ok :=
  h.turn (fun _ a => ⟨a, hok⟩) (fun _ _ => by simp [spanText, digs16]) (fun _ _ _ _ h => h)
theorem k3_bad {s : List UInt8} {k n : Nat} {cls : List (List (Nat × Nat))} {cur : List (Nat × Nat)} {lo hi : Nat} {S : ByteArray} {ok : Bool} (h : Kn s S ok (hd k n ++ restC cls ++ txt cur true ++ digs 16 lo ++ [45] ++ digs 16 hi) (AL k n cls cur) (RL3 k n cls cur lo hi)) (hok : spanOk lo hi = false) : K3 s k n cls cur lo hi S false := by
  refine h.bad (fun _ _ T hT hr => ?_)
  obtain ⟨h1, h2, l, cs, h3, h4⟩ := hr
  have := (hT.each (cur ++ (lo, hi) :: l) (by rw [h3]; simp)).2.2 (lo, hi) (by simp)
  rw [hok] at this
  cases this
/-- What is seen behind it. -/
theorem K3.blank {s : List UInt8} {k n : Nat} {cls : List (List (Nat × Nat))} {cur : List (Nat × Nat)} {lo hi : Nat} {S : ByteArray} {ok : Bool} {w w' : World} {fb : Nat} {t : ByteArray} (h : K3 s k n cls cur lo hi S ok) (hh : S.data.toList.head? = some 32) (ht : t.data.toList = [32]) (hk : Skipped fb S t ok w w') :
    ∃ S' ok', FeedAt w' fb S' ok' ∧ S'.size ≤ S.size ∧ (ok' = true → ok = true) ∧ w.grownBy w' (some fb) ∧ KR s k n cls (cur ++ [(lo, hi)]) true S' ok' := by
  have h' : Kn s S ok (hd k n ++ restC cls ++ txt cur true ++ spanText (lo, hi)) (AL k n cls cur ∧ spanOk lo hi = true) (fun T r => r = S.data.toList ∧ RL3 k n cls cur lo hi T r) := ⟨h.snd, fun T hT hs => ⟨(h.cmp T hT hs).1, rfl, (h.cmp T hT hs).2⟩⟩
  obtain ⟨S', ok', g1, g2, g3, g4, g5⟩ := h'.skip (R' := RR k n cls (cur ++ [(lo, hi)]) true) hk (fun _ _ T r hT hr => by
    obtain ⟨e, h1, h2, l, cs, h3, h4⟩ := hr
    rw [← e, h4] at hh
    cases l with
    | nil => simp [tl] at hh
    | cons x l =>
      refine ⟨classLine (x :: l) ++ 10 :: (restC cs ++ restS T.states), by rw [h4, ht]; simp [tl, classLine], h1, h2, x :: l, cs, by simpa using h3, by simp, rfl⟩)
  refine ⟨S', ok', g1, g2, g3, g4, Kn.turn g5 (fun _ a => ⟨a.1.1, fun x hx => ?_, by simpa using a.1.2.2, by simp⟩) (fun _ _ => by simp [txt, ht]) (fun _ _ _ _ h => h)⟩
  rw [List.mem_append, List.mem_singleton] at hx
  rcases hx with hx | rfl
  · exact a.1.2.1 x hx
  · exact a.2
theorem K3.none_ {s : List UInt8} {k n : Nat} {cls : List (List (Nat × Nat))} {cur : List (Nat × Nat)} {lo hi : Nat} {S : ByteArray} {ok : Bool} (h : K3 s k n cls cur lo hi S ok) (hh : S.data.toList.head? ≠ some 32) : KR s k n cls (cur ++ [(lo, hi)]) false S ok := by
  refine Kn.turn h (fun _ a => ⟨a.1.1, fun x hx => ?_, by simpa using a.1.2.2, by simp⟩) (fun _ _ => ?_) (fun _ _ T hT hr => ?_)
  · rw [List.mem_append, List.mem_singleton] at hx
    rcases hx with hx | rfl
    · exact a.1.2.1 x hx
    · exact a.2
  · simp only [txt, classLine, List.map_append, List.map_cons, List.map_nil, join_snoc, List.flatMap_map]
    simp
  · obtain ⟨h1, h2, l, cs, h3, h4⟩ := hr
    rw [h4] at hh
    cases l with
    | nil => exact ⟨h1, h2, [], cs, by simpa using h3, by simp, by rw [h4]; simp [tl, classLine, joinC]⟩
    | cons x l => simp [tl] at hh
theorem KR.done {s : List UInt8} {k n : Nat} {cls : List (List (Nat × Nat))} {cur : List (Nat × Nat)} {more : Bool} {S : ByteArray} {ok : Bool} {w w' : World} {fb : Nat} {t : ByteArray} (h : KR s k n cls cur more S ok) (hm : ok = true → more = false) (ht : t.data.toList = [10]) (hk : Skipped fb S t ok w w') :
    ∃ S' ok', FeedAt w' fb S' ok' ∧ S'.size ≤ S.size ∧ (ok' = true → ok = true) ∧ w.grownBy w' (some fb) ∧ KC s k n (cls ++ [cur]) S' ok' := by
  obtain ⟨S', ok', g1, g2, g3, g4, g5⟩ := Kn.skip h (R' := RC k n (cls ++ [cur])) hk (fun e _ T r hT hr => by
    obtain ⟨h1, h2, l, cs, h3, h4, h5⟩ := hr
    rw [hm e] at h4
    cases l with
    | nil => exact ⟨restC cs ++ restS T.states, by rw [h5, ht]; simp [classLine, joinC], h1, h2, cs, by simpa using h3, rfl⟩
    | cons x l => have := h4.2 (by simp); cases this)
  refine ⟨S', ok', g1, g2, g3, g4, Kn.turn g5 (fun e a => ⟨a.1.1, a.1.2.1, a.1.2.2.1, fun c hc => ?_⟩) (fun e _ => ?_) (fun _ _ _ _ h => h)⟩
  · rw [List.mem_append, List.mem_singleton] at hc
    rcases hc with hc | rfl
    · exact a.1.2.2.2 c hc
    · exact ⟨List.length_pos_iff.2 (a.2.2.2 (hm (g3 e))), a.2.2.1, a.2.1⟩
  · rw [hm (g3 e), ht, restC_snoc]; simp [txt]

/-! The states. -/
def AS (k n : Nat) (cls : List (List (Nat × Nat))) (rows : List (List (Nat × Bool))) : Prop := (1 ≤ n ∧ n ≤ 256 ∧ k ≤ 6 ∧ ∀ c ∈ cls, classOk c) ∧ cls.length = k ∧ ∀ r ∈ rows, r.length = k + 1 ∧ ∀ a ∈ r, a.1 < n
def RS (n : Nat) (cls : List (List (Nat × Nat))) (rows : List (List (Nat × Bool))) (T : Tbl) (r : List UInt8) : Prop := T.classes = cls ∧ T.states.length = n ∧ ∃ st, T.states = rows ++ st ∧ r = restS st
def KS (s : List UInt8) (k n : Nat) (cls : List (List (Nat × Nat))) (rows : List (List (Nat × Bool))) (S : ByteArray) (ok : Bool) : Prop := Kn s S ok (hd k n ++ restC cls ++ restS rows) (AS k n cls rows) (RS n cls rows)
theorem KC.states {s : List UInt8} {k n : Nat} {cls : List (List (Nat × Nat))} {S : ByteArray} {ok : Bool} (h : KC s k n cls S ok) (hl : ok = true → cls.length = k) : KS s k n cls [] S ok := by
  refine Kn.turn h (fun e a => ⟨a, hl e, by simp⟩) (fun _ _ => by simp [restS]) (fun e _ T hT hr => ?_)
  obtain ⟨h1, h2, cs, h3, h4⟩ := hr
  have : cs = [] := by
    have h5 := hl e
    rw [h3, List.length_append] at h1
    exact List.eq_nil_of_length_eq_zero (by omega)
  subst this
  exact ⟨by simpa using h3, h2, T.states, rfl, by rw [h4]; simp [restC]⟩
def AA (k n : Nat) (cls : List (List (Nat × Nat))) (rows : List (List (Nat × Bool))) (row : List (Nat × Bool)) : Prop := AS k n cls rows ∧ ∀ a ∈ row, a.1 < n
def RA (n : Nat) (cls : List (List (Nat × Nat))) (rows : List (List (Nat × Bool))) (row : List (Nat × Bool)) (T : Tbl) (r : List UInt8) : Prop :=
  T.classes = cls ∧ T.states.length = n ∧ ∃ l st, T.states = rows ++ (row ++ l) :: st ∧ r = (if row = [] then stateLine l else tl 32 (l.map arrowText)) ++ 10 :: restS st
def KA (s : List UInt8) (k n : Nat) (cls : List (List (Nat × Nat))) (rows : List (List (Nat × Bool))) (row : List (Nat × Bool)) (S : ByteArray) (ok : Bool) : Prop := Kn s S ok (hd k n ++ restC cls ++ restS rows ++ stateLine row) (AA k n cls rows row) (RA n cls rows row)
theorem KS.begin_ {s : List UInt8} {k n : Nat} {cls : List (List (Nat × Nat))} {rows : List (List (Nat × Bool))} {S : ByteArray} {ok : Bool} (h : KS s k n cls rows S ok) (hl : rows.length < n) : KA s k n cls rows [] S ok := by
  refine Kn.turn h (fun _ a => ⟨a, by simp⟩) (fun _ _ => by simp [stateLine, joinC]) (fun _ _ T hT hr => ?_)
  obtain ⟨h1, h2, st, h3, h4⟩ := hr
  cases st with
  | nil => rw [h3] at h2; simp at h2; omega
  | cons c st => exact ⟨h1, h2, c, st, by simpa using h3, by rw [h4]; simp [restS]⟩
def RA0 (n : Nat) (cls : List (List (Nat × Nat))) (rows : List (List (Nat × Bool))) (row : List (Nat × Bool)) (T : Tbl) (r : List UInt8) : Prop :=
  T.classes = cls ∧ T.states.length = n ∧ ∃ m b l st, T.states = rows ++ (row ++ (m, b) :: l) :: st ∧ r = Lib.decDigits m ++ ((if b then 47 else 126) :: (tl 32 (l.map arrowText) ++ 10 :: restS st))
def RA1 (n : Nat) (cls : List (List (Nat × Nat))) (rows : List (List (Nat × Bool))) (row : List (Nat × Bool)) (m : Nat) (T : Tbl) (r : List UInt8) : Prop :=
  T.classes = cls ∧ T.states.length = n ∧ ∃ b l st, T.states = rows ++ (row ++ (m, b) :: l) :: st ∧ r = (if b then 47 else 126) :: (tl 32 (l.map arrowText) ++ 10 :: restS st)
/-- An arrow begins. -/
def KA0 (s : List UInt8) (k n : Nat) (cls : List (List (Nat × Nat))) (rows : List (List (Nat × Bool))) (row : List (Nat × Bool)) (S : ByteArray) (ok : Bool) : Prop := Kn s S ok (hd k n ++ restC cls ++ restS rows ++ row.flatMap (fun x => arrowText x ++ [32])) (AA k n cls rows row) (RA0 n cls rows row)
theorem row_more {k n : Nat} {cls : List (List (Nat × Nat))} {rows : List (List (Nat × Bool))} {row l : List (Nat × Bool)} {st : List (List (Nat × Bool))} {T : Tbl} (hT : Bd T) (hc : T.classes = cls) (ha : AA k n cls rows row) (hl : row.length < k + 1) (h : T.states = rows ++ (row ++ l) :: st) : l ≠ [] := by
  intro e
  have := (hT.row (row ++ l) (by rw [h]; simp)).1
  rw [hc, ha.1.2.1, e] at this
  simp at this
  omega
theorem KA.first {s : List UInt8} {k n : Nat} {cls : List (List (Nat × Nat))} {rows : List (List (Nat × Bool))} {S : ByteArray} {ok : Bool} (h : KA s k n cls rows [] S ok) : KA0 s k n cls rows [] S ok := by
  refine Kn.turn h (fun _ a => a) (fun _ _ => by simp [stateLine, joinC]) (fun _ a T hT hr => ?_)
  obtain ⟨h1, h2, l, st, h3, h4⟩ := hr
  have hne := row_more hT h1 a (by simp) h3
  cases l with
  | nil => exact (hne rfl).elim
  | cons x l => exact ⟨h1, h2, x.1, x.2, l, st, h3, by rw [h4, if_pos rfl, stateLine, List.map_cons, join_cons]; simp [arrowText]⟩
theorem KA.later {s : List UInt8} {k n : Nat} {cls : List (List (Nat × Nat))} {rows : List (List (Nat × Bool))} {row : List (Nat × Bool)} {S : ByteArray} {ok : Bool} {w w' : World} {fb : Nat} {t : ByteArray} (h : KA s k n cls rows row S ok) (hl : row.length < k + 1) (h0 : row ≠ []) (ht : t.data.toList = [32]) (hk : Skipped fb S t ok w w') :
    ∃ S' ok', FeedAt w' fb S' ok' ∧ S'.size ≤ S.size ∧ (ok' = true → ok = true) ∧ w.grownBy w' (some fb) ∧ KA0 s k n cls rows row S' ok' := by
  obtain ⟨S', ok', g1, g2, g3, g4, g5⟩ := Kn.skip h (R' := RA0 n cls rows row) hk (fun e a T r hT hr => by
    obtain ⟨h1, h2, l, st, h3, h4⟩ := hr
    have hne := row_more hT h1 a hl h3
    cases l with
    | nil => exact (hne rfl).elim
    | cons x l =>
      rw [if_neg h0] at h4
      exact ⟨joinC 32 ((x :: l).map arrowText) ++ 10 :: restS st, by rw [h4, ht]; simp [tl], h1, h2, x.1, x.2, l, st, h3, by rw [List.map_cons, join_cons]; simp [arrowText]⟩)
  refine ⟨S', ok', g1, g2, g3, g4, Kn.turn g5 (fun e a => a) (fun e _ => ?_) (fun _ _ _ _ h => h)⟩
  obtain ⟨row', x, rfl⟩ : ∃ row' x, row = row' ++ [x] := ⟨row.dropLast, row.getLast h0, (List.dropLast_concat_getLast _).symm⟩
  rw [ht]
  simp only [stateLine, List.map_append, List.map_cons, List.map_nil, join_snoc, List.flatMap_map]
  simp
theorem ra1 (n : Nat) (hn : 1 ≤ n) (cls : List (List (Nat × Nat))) (rows : List (List (Nat × Bool))) (row : List (Nat × Bool)) (T : Tbl) (r : List UInt8) (hT : Bd T) (h : RA0 n cls rows row T r) : ∃ m r', m ≤ n - 1 ∧ r = digs 10 m ++ r' ∧ (∀ c r'', r' = c :: r'' → digOf c = none) ∧ RA1 n cls rows row m T r' := by
  obtain ⟨h1, h2, m, b, l, st, h3, h4⟩ := h
  have := (hT.row (row ++ (m, b) :: l) (by rw [h3]; simp)).2 (m, b) (by simp)
  rw [h2] at this
  exact ⟨m, _, by simp only at this; omega, h4, no_dig (by cases b <;> decide) _, h1, h2, b, l, st, h3, rfl⟩
def KA1 (s : List UInt8) (k n : Nat) (cls : List (List (Nat × Nat))) (rows : List (List (Nat × Bool))) (row : List (Nat × Bool)) (m : Nat) (S : ByteArray) (ok : Bool) : Prop := Kn s S ok (hd k n ++ restC cls ++ restS rows ++ row.flatMap (fun x => arrowText x ++ [32]) ++ digs 10 m) (AA k n cls rows row) (RA1 n cls rows row m)
theorem KA1.mark {s : List UInt8} {k n : Nat} {cls : List (List (Nat × Nat))} {rows : List (List (Nat × Bool))} {row : List (Nat × Bool)} {m : Nat} {S : ByteArray} {ok : Bool} {w w' : World} {fb : Nat} {t : ByteArray} {b : Bool} (h : KA1 s k n cls rows row m S ok) (hm : m ≤ n - 1) (hn : 1 ≤ n) (hb : b = true ↔ S.data.toList.head? = some 47) (ht : t.data.toList = [if b then 47 else 126]) (hk : Skipped fb S t ok w w') :
    ∃ S' ok', FeedAt w' fb S' ok' ∧ S'.size ≤ S.size ∧ (ok' = true → ok = true) ∧ w.grownBy w' (some fb) ∧ KA s k n cls rows (row ++ [(m, b)]) S' ok' := by
  have h' : Kn s S ok (hd k n ++ restC cls ++ restS rows ++ row.flatMap (fun x => arrowText x ++ [32]) ++ digs 10 m) (AA k n cls rows row) (fun T r => r = S.data.toList ∧ RA1 n cls rows row m T r) := ⟨h.snd, fun T hT hs => ⟨(h.cmp T hT hs).1, rfl, (h.cmp T hT hs).2⟩⟩
  obtain ⟨S', ok', g1, g2, g3, g4, g5⟩ := h'.skip (R' := RA n cls rows (row ++ [(m, b)])) hk (fun _ _ T r hT hr => by
    obtain ⟨e, h1, h2, b', l, st, h3, h4⟩ := hr
    have hbb : b' = b := by
      rw [← e, h4] at hb
      cases b' <;> cases b <;> simp at hb ⊢
    subst hbb
    exact ⟨_, by rw [h4, ht]; rfl, h1, h2, l, st, by simpa using h3, by rw [if_neg (by simp)]; rfl⟩)
  refine ⟨S', ok', g1, g2, g3, g4, Kn.turn g5 (fun _ a => ⟨a.1, fun x hx => ?_⟩) (fun _ _ => ?_) (fun _ _ _ _ h => h)⟩
  · rw [List.mem_append, List.mem_singleton] at hx
    rcases hx with hx | rfl
    · exact a.2 x hx
    · simp only; omega
  · rw [ht, digs10]
    simp only [stateLine, List.map_append, List.map_cons, List.map_nil, join_snoc, List.flatMap_map]
    simp [arrowText]
theorem KA.done {s : List UInt8} {k n : Nat} {cls : List (List (Nat × Nat))} {rows : List (List (Nat × Bool))} {row : List (Nat × Bool)} {S : ByteArray} {ok : Bool} {w w' : World} {fb : Nat} {t : ByteArray} (h : KA s k n cls rows row S ok) (hl : ok = true → row.length = k + 1) (ht : t.data.toList = [10]) (hk : Skipped fb S t ok w w') :
    ∃ S' ok', FeedAt w' fb S' ok' ∧ S'.size ≤ S.size ∧ (ok' = true → ok = true) ∧ w.grownBy w' (some fb) ∧ KS s k n cls (rows ++ [row]) S' ok' := by
  obtain ⟨S', ok', g1, g2, g3, g4, g5⟩ := Kn.skip h (R' := RS n cls (rows ++ [row])) hk (fun e a T r hT hr => by
    obtain ⟨h1, h2, l, st, h3, h4⟩ := hr
    have hln : l = [] := by
      have := (hT.row (row ++ l) (by rw [h3]; simp)).1
      rw [h1, a.1.2.1, List.length_append, hl e] at this
      exact List.eq_nil_of_length_eq_zero (by omega)
    subst hln
    refine ⟨restS st, ?_, h1, h2, st, by simpa using h3, rfl⟩
    rw [h4, ht]
    split <;> simp [stateLine, joinC, tl])
  refine ⟨S', ok', g1, g2, g3, g4, Kn.turn g5 (fun e a => ⟨a.1.1, a.1.2.1, fun r hr => ?_⟩) (fun e _ => ?_) (fun _ _ _ _ h => h)⟩
  · rw [List.mem_append, List.mem_singleton] at hr
    rcases hr with hr | rfl
    · exact a.1.2.2 r hr
    · exact ⟨hl (g3 e), a.2⟩
  · rw [ht, restS_snoc]; simp
/-- At the end. -/
theorem KS.yes {s : List UInt8} {k n : Nat} {cls : List (List (Nat × Nat))} {rows : List (List (Nat × Bool))} {S : ByteArray} {ok : Bool} (h : KS s k n cls rows S ok) (ho : ok = true) (hS : S.data.toList = []) (hl : rows.length = n) : Bd ⟨cls, rows⟩ ∧ s = enc ⟨cls, rows⟩ := by
  obtain ⟨a, b⟩ := h.snd ho
  obtain ⟨⟨a1, a2, a3, a4⟩, a5, a6⟩ := a
  refine ⟨⟨by simp only; omega, a4, by simp only; omega, by simp only; omega, fun r hr => ?_⟩, ?_⟩
  · simp only
    rw [a5, hl]
    exact a6 r hr
  · rw [b, enc_parts, hS]
    simp [a5, hl]
theorem KS.no {s : List UInt8} {k n : Nat} {cls : List (List (Nat × Nat))} {rows : List (List (Nat × Bool))} {S : ByteArray} {ok : Bool} (h : KS s k n cls rows S ok) (hl : ok = true → rows.length = n) (hn : ok = true → S.data.toList ≠ []) : ∀ T, Bd T → s ≠ enc T := by
  intro T hT hs
  obtain ⟨e, h1, h2, st, h3, h4⟩ := h.cmp T hT hs
  have : st = [] := by
    rw [h3, List.length_append, hl e] at h2
    exact List.eq_nil_of_length_eq_zero (by omega)
  exact hn e (by rw [h4, this]; rfl)

end Go.Proofs.YtnecjeambpikdaaGreatDoor
