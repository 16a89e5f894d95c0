import Derived.Test.YtnecjeambpikdaaGreatDoorEnv
import Derived.Test.YtnecjeambpikdaaGreatDoorPu10
namespace Go.Proofs.YtnecjeambpikdaaGreatDoor
open Go.RowKit

/-- What internal/strconv.ParseUint comes to, at bases 10 and 16. -/
def PuSaid (base : Nat) : Prop := ∀ (t : ByteArray) (w : World), t.size ≠ 0 → t.size ≤ 1000000 →
    Calls Tryz.prog 69 #[.string t, .int .i64 (base : Int), .int .i64 24] w fun e w' => ∃ (n kind : Nat), e = .returned (.tuple #[.int .u64 (n : Int), errOf kind]) ∧ kind ≤ 2 ∧ n ≤ 16777215 ∧
      (∀ m, m ≤ 16777215 → valB base 0 t.data.toList = some m → kind = 0 ∧ n = m) ∧ Below w.heap.size w w'

set_option maxHeartbeats 2000000 in
set_option maxRecDepth 100000 in
theorem pub_walk (base : Nat) (hp : PuSaid base) (t : ByteArray) (ht : t.size ≤ 1000000) (w : World) (hE : Env w) :
    Calls Tryz.prog 55 #[.string t, .int .i64 (base : Int), .int .i64 24] w fun e w' => ∃ (n : Nat) (ev : Value), e = .returned (.tuple #[.int .u64 (n : Int), ev]) ∧ n ≤ 16777215 ∧ (ev = .nilIface ∨ ∃ te pe, ev = .iface te pe) ∧
      (∀ m, m ≤ 16777215 → t.size ≠ 0 → valB base 0 t.data.toList = some m → ev = .nilIface ∧ n = m) ∧ Below w.heap.size w w' := by
  have H : Calls Tryz.prog 69 #[.string t, .int .i64 (base : Int), .int .i64 24] w fun e w' => ∃ (n kind : Nat), e = .returned (.tuple #[.int .u64 (n : Int), errOf kind]) ∧ kind ≤ 2 ∧ n ≤ 16777215 ∧
      (∀ m, m ≤ 16777215 → t.size ≠ 0 → valB base 0 t.data.toList = some m → kind = 0 ∧ n = m) ∧ Below w.heap.size w w' := by
    by_cases h0 : t.size = 0
    · have : t = ⟨#[]⟩ := by
        cases t with | mk d => simp only [ByteArray.size] at h0; rw [Array.size_eq_zero_iff.1 h0]
      subst this
      refine (Tryz.internal_strconv_ParseUint_empty (base : Int) 24 w).mono ?_
      rintro e w' ⟨rfl, rfl⟩
      exact ⟨0, 2, rfl, by omega, by omega, fun m hm h0 => absurd rfl h0, Below.refl _ _⟩
    · exact (hp t w h0 ht).mono fun e w' ⟨n, k, h1, h2, h3, h4, h5⟩ => ⟨n, k, h1, h2, h3, fun m hm _ hv => h4 m hm hv, h5⟩
  have HH := hide H
  clear H
  obtain ⟨ev1, hs1, hs2⟩ := hE.syn
  obtain ⟨ev2, hr1, hr2⟩ := hE.rng
  have HS1 := hide hs1
  have HS2 := hide hs2
  have HR1 := hide hr1
  have HR2 := hide hr2
  clear hs1 hs2 hr1 hr2
  go_enter Tryz.func55, Tryz.ntmps55
  go_wp2_with fail
  refine HH.out.mono ?_
  rintro e w1 ⟨n, kind, rfl, hk, hn, hv, hb⟩
  have HV := hide hv
  have HB := hide hb
  clear hv hb HH
  have h3 : kind = 0 ∨ kind = 1 ∨ kind = 2 := by omega
  rcases h3 with rfl | rfl | rfl
  · rw [show errOf 0 = Value.nilIface from rfl]
    go_wp2
    go_ret2
    exact ⟨n, .nilIface, rfl, hn, .inl rfl, fun m hm h0 hv => ⟨rfl, (HV.out m hm h0 hv).2⟩, HB.out⟩
  · rw [show errOf 1 = Value.iface 142 (.int .i64 1) from rfl]
    go_wp2_with fail
    refine (Tryz.strconv_toError_range _ t _ _ ev2 w1 (by omega) (cell_later HB.out HR1.out) HR2.out).mono ?_
    rintro e w2 ⟨N, rfl, _, _, hb2⟩
    have HB2 := hide hb2
    clear hb2
    go_wp2
    go_ret2
    exact ⟨n, _, rfl, hn, .inr ⟨_, _, rfl⟩, fun m hm h0 hv => absurd (HV.out m hm h0 hv).1 (by omega), below2 HB.out HB2.out⟩
  · rw [show errOf 2 = Value.iface 142 (.int .i64 2) from rfl]
    go_wp2_with fail
    refine (Tryz.strconv_toError_syntax _ t _ _ ev1 w1 (by omega) (cell_later HB.out HS1.out) HS2.out).mono ?_
    rintro e w2 ⟨N, rfl, _, _, hb2⟩
    have HB2 := hide hb2
    clear hb2
    go_wp2
    go_ret2
    exact ⟨n, _, rfl, hn, .inr ⟨_, _, rfl⟩, fun m hm h0 hv => absurd (HV.out m hm h0 hv).1 (by omega), below2 HB.out HB2.out⟩

set_option maxHeartbeats 2000000 in
set_option maxRecDepth 100000 in
/-- readNumber: a number, and whether it is one. -/
theorem number_walk (base : Nat) (hp : PuSaid base) (t : ByteArray) (ht : t.size ≤ 1000000) (w : World) (hE : Env w) :
    Calls Tryz.prog 41 #[.string t, .int .i64 (base : Int)] w fun e w' => ∃ (n : Nat) (ok : Bool), e = .returned (.tuple #[.int .i64 (n : Int), .bool ok]) ∧ n ≤ 16777215 ∧
      (∀ m, m ≤ 16777215 → t.size ≠ 0 → valB base 0 t.data.toList = some m → ok = true ∧ n = m) ∧ Below w.heap.size w w' := by
  have HH := hide (pub_walk base hp t ht w hE)
  go_enter Tryz.func41, Tryz.ntmps41
  go_wp2_with fail
  refine HH.out.mono ?_
  rintro e w1 ⟨n, ev, rfl, hn, hev, hv, hb⟩
  have HV := hide hv
  have HB := hide hb
  clear hv hb HH
  rcases hev with rfl | ⟨te, pe, rfl⟩
  · go_wp2
    go_quiet (fail)
    go_wp2
    go_ret2
    exact ⟨n, true, rfl, hn, fun m hm h0 hv => ⟨rfl, (HV.out m hm h0 hv).2⟩, below_drewN HB.out _⟩
  · go_wp2
    go_quiet (fail)
    go_wp2
    go_ret2
    exact ⟨n, false, rfl, hn, fun m hm h0 hv => absurd (HV.out m hm h0 hv).1 (by simp), below_drewN HB.out _⟩

end Go.Proofs.YtnecjeambpikdaaGreatDoor
