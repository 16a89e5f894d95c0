import Derived.Test.YtnecjeambpikdaaGreatDoorProg
import Derived.Test.YtnecjeambpikdaaGreatDoorMem
import Derived.Test.YtnecjeambpikdaaGreatDoorDigits
import Derived.Laws.IdiomStrings
namespace Go.Proofs.YtnecjeambpikdaaGreatDoor
open Go.RowKit

set_option maxHeartbeats 4000000 in
set_option maxRecDepth 100000 in
theorem tz16 (w : World) (h : w.cell? ⟨7, 15, none⟩ = some (.int .u8 4)) : Calls Tryz.prog 101 #[.int .u64 16] w fun e w' => e = .returned (.int .i64 4) ∧ w' = w := by
  have he : bits BinOp.and IntKind.u64 16 (IntKind.u64.wrap (-16)) = 16 := by decide +kernel
  have he2 : IntKind.u64.wrap (16 * 285870213051353865) / 288230376151711744 = 15 := by decide +kernel
  go_enter Tryz.func101, Tryz.ntmps101
  go_wp2
  go_ret
  exact ⟨rfl, rfl⟩

set_option maxHeartbeats 4000000 in
set_option maxRecDepth 100000 in
theorem pow16 (w : World) : Calls Tryz.prog 94 #[.int .i64 16] w fun e w' => e = .returned (.bool true) ∧ w' = w := by
  go_enter Tryz.func94, Tryz.ntmps94
  go_wp2
  go_ret
  exact ⟨ret_bool (by decide), rfl⟩

set_option maxHeartbeats 4000000 in
set_option maxRecDepth 100000 in
theorem tz (w : World) (h : w.cell? ⟨7, 15, none⟩ = some (.int .u8 4)) : Calls Tryz.prog 95 #[.int .u64 16] w fun e w' => e = .returned (.int .i64 4) ∧ w' = w := by
  go_enter Tryz.func95, Tryz.ntmps95
  go_wp2_with (go_at_call 101; refine (tz16 _ h).mono ?_; rintro e w' ⟨rfl, rfl⟩)
  go_ret
  exact ⟨rfl, rfl⟩

theorem digs_all : ∀ k : Fin 16, ((⟨#[48, 49, 50, 51, 52, 53, 54, 55, 56, 57, 97, 98, 99, 100, 101, 102, 103, 104, 105, 106, 107, 108, 109, 110, 111, 112, 113, 114, 115, 116, 117, 118, 119, 120, 121, 122]⟩ : ByteArray)[k.val]'(Nat.lt_of_lt_of_le k.isLt (by decide))) = hexd k.val := by decide +kernel
theorem digs_idx (k : Nat) (h : k < 16) (hb : k < (⟨#[48, 49, 50, 51, 52, 53, 54, 55, 56, 57, 97, 98, 99, 100, 101, 102, 103, 104, 105, 106, 107, 108, 109, 110, 111, 112, 113, 114, 115, 116, 117, 118, 119, 120, 121, 122]⟩ : ByteArray).size) : ((⟨#[48, 49, 50, 51, 52, 53, 54, 55, 56, 57, 97, 98, 99, 100, 101, 102, 103, 104, 105, 106, 107, 108, 109, 110, 111, 112, 113, 114, 115, 116, 117, 118, 119, 120, 121, 122]⟩ : ByteArray)[k]'hb) = hexd k := digs_all ⟨k, h⟩

theorem and15 (u : Nat) (h : u ≤ 16777215) : bits BinOp.and IntKind.u64 (u : Int) 15 = ((u % 16 : Nat) : Int) := by
  have := bits_and_u64_nat u 15 (by omega) (by omega)
  rw [show (15 : Nat) = 2 ^ 4 - 1 from rfl, Nat.and_two_pow_sub_one_eq_mod] at this
  exact this

/-- What holds of the row of digits at the loop's head. -/
structure HexInv (n u i f : Nat) (l : List UInt8) (c : Array Value) : Prop where
  size : c.size = 65
  at_ : i = 59 + f
  len : l.length + f = 6
  cells : ∀ j x, l[j]? = some x → c[i + j]? = some (.int .u8 (x.toNat : Int))
  all : hexF f u ++ l = hexOf n
  bound : u < 16 ^ (f + 1)

theorem hexInv_store {c : Array Value} {i : Nat} {l : List UInt8} (x : UInt8) (hs : c.size = 65) (hi : i + 1 ≤ 65) (h : ∀ j y, l[j]? = some y → c[i + 1 + j]? = some (.int .u8 (y.toNat : Int))) :
    ∀ j y, (x :: l)[j]? = some y → (c.setIfInBounds i (.int .u8 (x.toNat : Int)))[i + j]? = some (.int .u8 (y.toNat : Int)) := by
  intro j y hj
  cases j with
  | zero =>
    simp at hj
    subst hj
    rw [Nat.add_zero, Array.getElem?_setIfInBounds]
    simp [hs]; omega
  | succ j =>
    simp at hj
    have := h j y hj
    rw [Array.getElem?_setIfInBounds, if_neg (by omega)]
    rw [show i + (j + 1) = i + 1 + j by omega]; exact this

theorem HexInv.next {n u i f : Nat} {l : List UInt8} {c : Array Value} (h : HexInv n u i f l c) (hu : ¬ u < 16) : ∃ f', f = f' + 1 ∧ 1 ≤ i ∧ HexInv n (u / 16) (i - 1) f' (hexd (u % 16) :: l) (c.setIfInBounds (i - 1) (.int .u8 ((hexd (u % 16)).toNat : Int))) := by
  cases f with
  | zero => have := h.bound; simp at this; omega
  | succ f' =>
    have h1 := h.at_
    have h2 := h.len
    refine ⟨f', rfl, by omega, by simp [h.size], by omega, by simp; omega, ?_, ?_, ?_⟩
    · exact hexInv_store _ h.size (by omega) (by rw [show i - 1 + 1 = i by omega]; exact h.cells)
    · rw [← h.all, hexF_big f' u hu]; simp
    · have := h.bound
      rw [Nat.pow_succ] at this
      exact Nat.div_lt_of_lt_mul (by rw [Nat.mul_comm]; exact this)

theorem HexInv.last {n u i f : Nat} {l : List UInt8} {c : Array Value} (h : HexInv n u i f l c) (hu : u < 16) : 59 ≤ i ∧ i ≤ 65 ∧ (hexOf n).length = 66 - i ∧ (∀ j x, (hexOf n)[j]? = some x → (c.setIfInBounds (i - 1) (.int .u8 ((hexd u).toNat : Int)))[i - 1 + j]? = some (.int .u8 (x.toNat : Int))) := by
  have h1 := h.at_
  have h2 := h.len
  have h3 := h.all
  rw [hexF_small f u hu] at h3
  refine ⟨by omega, by omega, by rw [← h3]; simp; omega, ?_⟩
  rw [← h3]
  exact hexInv_store _ h.size (by omega) (by rw [show i - 1 + 1 = i by omega]; exact h.cells)

theorem alen151 : Tryz.prog.arrayLen 151 = 65 := by kernel_rfl
theorem elem151 : Tryz.prog.elem 151 = 5 := by kernel_rfl
theorem size5 (w : World) : (sizeOf 5).run Tryz.prog w = .ok 1 w := by kernel_rfl
theorem slice151 (b i : Nat) (h1 : 59 ≤ i) (h2 : i ≤ 65) (w : World) : (Instr.sliceAt 151 (.pointer (some ⟨b, 0, none⟩)) (some (.int .i64 ((i : Int) - 1))) none none).run Tryz.prog w = .ok (.slice (some ⟨b, i - 1, none⟩) (66 - i) (66 - i)) w := by
  have hu : Tryz.prog.underlying 151 = some (.array (Tryz.prog.arrayLen 151) (Tryz.prog.elem 151)) := by rw [alen151, elem151]; exact Tryz.underlying151
  rw [run_sliceAt_array_l w 151 _ hu .i64 ((i : Int) - 1) (by omega) (by rw [alen151]; omega), elem151, size5, alen151]
  have e : ((i : Int) - 1).toNat = i - 1 := by omega
  simp only [slicedAt, Result.andThen, e]
  rw [if_neg (by omega), Nat.mul_one, addr_add, show 65 - (i - 1) = 66 - i by omega]

theorem hex_back (w : World) (c : Array Value) {u : Nat} (n i : Nat) (hl : (hexOf n).length = 66 - i) (hc : ∀ j x, (hexOf n)[j]? = some x → (c.setIfInBounds (i - 1) (.int .u8 ((hexd u).toNat : Int)))[i - 1 + j]? = some (.int .u8 (x.toNat : Int))) :
    (convert 88 9 (.slice (some ⟨w.heap.size, i - 1, none⟩) (66 - i) (66 - i))).run Tryz.prog (w.alloc (.cells (c.setIfInBounds (i - 1) (.int .u8 ((hexd u).toNat : Int))) 151)) = .ok (.string ⟨(hexOf n).toArray⟩) (w.alloc (.cells (c.setIfInBounds (i - 1) (.int .u8 ((hexd u).toNat : Int))) 151)) := by
  have h := run_convert_bytes_back (P := Tryz.prog) (w.alloc (.cells (c.setIfInBounds (i - 1) (.int .u8 ((hexd u).toNat : Int))) 151)) 88 9 5 ⟨w.heap.size, i - 1, none⟩ (66 - i) (hexOf n) Tryz.underlying88 Tryz.underlying5 Tryz.underlying9 (fun j hj => by
    have : (⟨w.heap.size, i - 1, none⟩ : Addr).add j = ⟨w.heap.size, i - 1 + j, none⟩ := by unfold Addr.add; split <;> simp_all
    rw [this]
    exact row_cell (heap_push_new w _) (hc j _ (List.getElem?_eq_getElem hj)))
  rwa [hl] at h

set_option maxHeartbeats 4000000 in
set_option maxRecDepth 100000 in
theorem fmt_walk (n : Nat) (hn : n ≤ 16777215) (w : World) (h7 : w.cell? ⟨7, 15, none⟩ = some (.int .u8 4)) :
    Calls Tryz.prog 78 #[.slice none 0 0, .int .u64 (n : Int), .int .i64 16, .bool false, .bool false] w fun e w' => e = .returned (.tuple #[.slice none 0 0, .string ⟨(hexOf n).toArray⟩]) ∧ Below w.heap.size w w' := by
  have h7a : ∀ o, (w.alloc o).cell? ⟨7, 15, none⟩ = some (.int .u8 4) := fun o => cell_later ((Below.refl _ _).alloc (Nat.le_refl _) o) h7
  have H7A := hide h7a
  clear h7a
  go_enter Tryz.func78, Tryz.ntmps78
  go_wp2_with (first | (go_at_call 94; refine (pow16 _).mono ?_; rintro e w' ⟨rfl, rfl⟩) | (go_at_call 95; refine (tz _ (H7A.out _)).mono ?_; rintro e w' ⟨rfl, rfl⟩))
  go_loopw [1, 13] (fun vu vi wr => ∃ (u i f : Nat) (l : List UInt8) (c : Array Value), vu = .int .u64 u ∧ vi = .int .i64 i ∧ u ≤ 16777215 ∧ 59 ≤ i ∧ i ≤ 65 ∧ wr = w.alloc (.cells c 151) ∧ Hid (HexInv n u i f l c)) (fun vu _ _ => (intOf vu).toNat)
  case atStart => exact ⟨n, 65, 6, [], _, rfl, rfl, hn, by omega, by omega, rfl, ⟨rfl, rfl, rfl, by simp, by simp [hexOf], by omega⟩⟩
  case round =>
    obtain ⟨u, i, f, l, c, rfl, rfl, hu, hi1, hi2, rfl, hinv⟩ := hrel
    have hand := and15 u hu
    by_cases hlt : u < 16
    · obtain ⟨hl1, hl2, hll, hlc⟩ := hinv.out.last hlt
      obtain ⟨v0, hv0⟩ : ∃ v, c[i - 1]? = some v := ⟨_, Array.getElem?_eq_getElem (by rw [hinv.out.size]; omega)⟩
      have hcell : (w.alloc (.cells c 151)).cell? ⟨w.heap.size, i - 1, none⟩ = some v0 := row_cell (heap_push_new w _) hv0
      have HLL := hide hll
      have HLC := hide hlc
      clear hll hlc
      have hsl := slice151 w.heap.size i hl1 hl2
      go_wp2
      rw [digs_idx u hlt, hex_back w c n i HLL.out HLC.out]
      simp only [Result.andThen]
      rw [Oper.upon_value]
      go_wp2
      go_ret2
      exact ⟨rfl, (Below.refl _ _).alloc (Nat.le_refl _) _⟩
    · have hm16 : u % 16 < 16 := Nat.mod_lt _ (by decide)
      obtain ⟨v0, hv0⟩ : ∃ v, c[i - 1]? = some v := ⟨_, Array.getElem?_eq_getElem (by rw [hinv.out.size]; omega)⟩
      have hcell : (w.alloc (.cells c 151)).cell? ⟨w.heap.size, i - 1, none⟩ = some v0 := row_cell (heap_push_new w _) hv0
      go_wp2
      obtain ⟨f', rfl, _, hnext⟩ := hinv.out.next hlt
      have hat := hnext.at_
      have HN := hide hnext
      go_roundw
      case rel =>
        refine ⟨u / 16, i - 1, f', hexd (u % 16) :: l, _, by go_num, by rw [show ((i - 1 : Nat) : Int) = (i : Int) - 1 from by omega], by omega, by omega, by omega, rfl, ?_⟩
        rw [digs_idx _ hm16]
        exact HN.out
      case measure => simp [intOf]; omega

set_option maxHeartbeats 4000000 in
set_option maxRecDepth 100000 in
theorem ifmt_walk (n : Nat) (hn : n ≤ 16777215) (w : World) (h7 : w.cell? ⟨7, 15, none⟩ = some (.int .u8 4)) :
    Calls Tryz.prog 63 #[.int .i64 (n : Int), .int .i64 16] w fun e w' => e = .returned (.string ⟨(hexOf n).toArray⟩) ∧ Below w.heap.size w w' := by
  have H7 := hide h7
  clear h7
  have hneg : decide ((n : Int) < 0) = false := by simp
  go_enter Tryz.func63, Tryz.ntmps63
  go_wp2_with fail
  refine (fmt_walk n hn w H7.out).mono ?_
  rintro e w1 ⟨rfl, hb⟩
  have HB := hide hb
  clear hb
  go_wp2
  go_ret
  exact ⟨rfl, HB.out⟩

set_option maxHeartbeats 4000000 in
set_option maxRecDepth 100000 in
/-- strconv.FormatInt at base 16. -/
theorem formatInt_walk (n : Nat) (hn : n ≤ 16777215) (w : World) (h7 : w.cell? ⟨7, 15, none⟩ = some (.int .u8 4)) :
    Calls Tryz.prog 49 #[.int .i64 (n : Int), .int .i64 16] w fun e w' => e = .returned (.string ⟨(hexOf n).toArray⟩) ∧ Below w.heap.size w w' := by
  have H7 := hide h7
  clear h7
  go_enter Tryz.func49, Tryz.ntmps49
  go_wp2_with fail
  refine (ifmt_walk n hn w H7.out).mono ?_
  rintro e w1 ⟨rfl, hb⟩
  have HB := hide hb
  clear hb
  go_wp2
  go_ret
  exact ⟨rfl, HB.out⟩

set_option maxHeartbeats 4000000 in
set_option maxRecDepth 100000 in
/-- cleaveref.hex -/
theorem hex_walk (n : Nat) (hn : n ≤ 16777215) (w : World) (h7 : w.cell? ⟨7, 15, none⟩ = some (.int .u8 4)) :
    Calls Tryz.prog 30 #[.int .i64 (n : Int)] w fun e w' => e = .returned (.string ⟨(hexOf n).toArray⟩) ∧ Below w.heap.size w w' := by
  have H7 := hide h7
  clear h7
  go_enter Tryz.func30, Tryz.ntmps30
  go_wp2_with fail
  refine (formatInt_walk n hn w H7.out).mono ?_
  rintro e w1 ⟨rfl, hb⟩
  have HB := hide hb
  clear hb
  go_wp2
  go_ret
  exact ⟨rfl, HB.out⟩

end Go.Proofs.YtnecjeambpikdaaGreatDoor
