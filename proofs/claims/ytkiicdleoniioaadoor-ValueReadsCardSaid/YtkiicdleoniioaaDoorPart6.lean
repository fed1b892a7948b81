/- The contracts of wire's Reader: take. -/
import Derived.Test.YtkiicdleoniioaaDoorPart5
import Derived.WalkKit
import Derived.Laws.BitsAllLaws
namespace Go.Proofs.YtkiicdleoniioaaDoor
open Go.RowKit
set_option linter.unusedVariables false

/-- Block p is a Reader with the bytes bs left, which lie in block g, and the error er. -/
def Rd (w : World) (p g : Nat) (bs : List UInt8) (er : Int) : Prop :=
  ∃ ao cap, w.heap[p]? = some (.cells #[.slice ao bs.length cap, .int .i64 er] 57 (0, 0)) ∧ bs.length ≤ cap ∧ cap ≤ 9223372036854775807 ∧ Lies w g ao bs ∧ g < w.heap.size

/-- A block of a Reader's two cells holds no bytes. -/
theorem Lies.ne {w : World} {p g : Nat} {bs : List UInt8} {ao bo : Option Addr} {n cap : Nat} {er : Int} (h : Lies w g ao bs) (hp : w.heap[p]? = some (.cells #[.slice bo n cap, .int .i64 er] 57 (0, 0))) (e : bs ≠ []) : p ≠ g := by
  rintro rfl
  rcases h with h | ⟨off, ha, h⟩
  · exact e h
  · have := h 0 (List.length_pos_iff.2 e)
    rw [cell_of_block hp] at this
    match off, this with
    | 0, this => simp at this
    | 1, this => simp at this
    | k + 2, this => simp at this

/-- The Reader with its first field laid anew. -/
theorem Rd.left {w : World} {p g : Nat} {bs cs : List UInt8} {er : Int} {ao bo : Option Addr} {cap c2 : Nat} (hp : w.heap[p]? = some (.cells #[.slice ao bs.length cap, .int .i64 er] 57 (0, 0)))
    (hL : Lies w g bo cs) (h1 : cs.length ≤ c2) (h2 : c2 ≤ 9223372036854775807) (hg : g < w.heap.size) : Rd (w.setCell ⟨p, 0, none⟩ (.slice bo cs.length c2)) p g cs er := by
  refine ⟨bo, c2, ?_, h1, h2, hL.keep fun e => heap_setCell_other _ _ _ _ ?_, by rw [size_setCell]; exact hg⟩
  · rw [heap_setCell_same _ _ _ _ hp]; rfl
  · exact hL.ne hp e

/-- What take leaves. -/
def TakePost (p g n : Nat) (bs : List UInt8) (er : Int) (w : World) (e : Ending) (w' : World) : Prop :=
  ∃ ao cap, e = .returned (.slice ao n cap) ∧ Lies w' g ao (bs.take n) ∧ Rd w' p g (bs.drop n) er ∧ Touch (· = p) w w'

theorem takePost {p g n : Nat} {bs : List UInt8} {er : Int} {w : World} {ao bo : Option Addr} {cap c2 : Nat} (hp : w.heap[p]? = some (.cells #[.slice ao bs.length cap, .int .i64 er] 57 (0, 0)))
    (hL : Lies w g ao bs) (hb : Lies w g bo (bs.drop n)) (h1 : bs.length - n ≤ c2) (h2 : c2 ≤ 9223372036854775807) (hg : g < w.heap.size) (c : Nat) :
    TakePost p g n bs er w (.returned (.slice ao n c)) (w.setCell ⟨p, 0, none⟩ (.slice bo (bs.length - n) c2)) := by
  have e : bs.length - n = (bs.drop n).length := by simp
  rw [e] at h1 ⊢
  exact ⟨ao, c, rfl, (hL.take n).keep fun e => heap_setCell_other _ _ _ _ (fun hh => hL.ne hp (fun e' => e (by simp [e'])) hh), Rd.left hp hb h1 h2 hg, (Touch.refl _ _).setCell _ _ fun _ => rfl⟩

set_option maxHeartbeats 400000 in
theorem take_short (p g n : Nat) (bs : List UInt8) (er : Int) (w : World) (h : Rd w p g bs er) (hn : bs.length < n) (hb : n < 18446744073709551616) (m : Int) (hm : m = n) :
    Calls Tryd.prog 71 #[.pointer (some ⟨p, 0, none⟩), .int .u64 m] w fun e w' => e = .panicked [thrown 10] ∧ w' = w := by
  subst hm
  obtain ⟨ao, cap, hp, hl, hc, hL, hg⟩ := h
  have c0 : w.cell? ⟨p, 0, none⟩ = some (.slice ao bs.length cap) := by rw [cell_of_block hp]; rfl
  have hF := fail_any 10 w (by decide)
  have H : Hid (Calls Tryd.prog 83 #[.int .i64 10] w _) := hF
  clear hF hL hp
  go_enter Tryd.func71, Tryd.ntmps71
  go_wp2_with (go_at_call 83; refine H.out.mono ?_; rintro e w1 ⟨rfl, rfl⟩)
  exact ⟨rfl, rfl, rfl⟩

set_option maxHeartbeats 400000 in
theorem take_ok (p g n : Nat) (bs : List UInt8) (er : Int) (w : World) (h : Rd w p g bs er) (hn : n ≤ bs.length) (m : Int) (hm : m = n) :
    Calls Tryd.prog 71 #[.pointer (some ⟨p, 0, none⟩), .int .u64 m] w (TakePost p g n bs er w) := by
  subst hm
  obtain ⟨ao, cap, hp, hl, hc, hL, hg⟩ := h
  have c0 : w.cell? ⟨p, 0, none⟩ = some (.slice ao bs.length cap) := by rw [cell_of_block hp]; rfl
  have z0 : w.frozen? ⟨p, 0, none⟩ = false := free_of_block hp
  have HL : Hid (Lies w g ao bs) := hL
  have HP : Hid (w.heap[p]? = some (.cells #[.slice ao bs.length cap, .int .i64 er] 57 (0, 0))) := hp
  clear hL hp
  go_enter Tryd.func71, Tryd.ntmps71
  go_wp2_with fail
  · go_ret
    exact takePost HP.out HL.out (.inl (by simp; omega)) (by omega) (by omega) hg _
  · go_ret
    exact takePost HP.out HL.out (HL.out.map n) (by omega) (by omega) hg _
end Go.Proofs.YtkiicdleoniioaaDoor

/- Arithmetic of bytes and words as the walks spell it. They speak of no program. -/
namespace Go.Proofs.YtkiicdleoniioaaDoor
open Go.RowKit
set_option linter.unusedVariables false

theorem u8_low7 (b : UInt8) : bits .andNot .u8 (b.toNat : Int) 128 = ((b.toNat % 128 : Nat) : Int) := by
  have h : ∀ x : Fin 256, bits .andNot .u8 ((x : Nat) : Int) 128 = ((x % 128 : Nat) : Int) := by decide +kernel
  exact h ⟨b.toNat, b.toNat_lt⟩

theorem wrap_u64_small (n : Int) (h0 : 0 ≤ n) (h : n < 18446744073709551616) : IntKind.u64.wrap n = n := by
  rw [IntKind.wrap_u64]; omega

/-- A number of m bits, and one behind it. -/
theorem u64_join (a c m : Nat) (ha : a < 2 ^ m) (hc : c * 2 ^ m + a < 18446744073709551616) : bits .or .u64 (a : Int) (IntKind.u64.wrap ((c : Int) * 2 ^ m)) = ((a + c * 2 ^ m : Nat) : Int) := by
  have e : ((c : Int) * 2 ^ m) = ((c * 2 ^ m : Nat) : Int) := by push_cast; rfl
  rw [e, wrap_u64_small _ (by omega) (by omega), u64_or_nat _ _ (by omega) (by omega), Nat.or_comm, ← Nat.shiftLeft_eq, ← Nat.shiftLeft_add_eq_or_of_lt ha, Nat.add_comm]

theorem num_step (b : UInt8) (k N : Nat) (hk : k ≤ 8) (hN : N < 2 ^ (7 * k)) :
    bits .or .u64 (N : Int) (IntKind.u64.wrap (IntKind.u64.wrap (bits .andNot .u8 (b.toNat : Int) 128) * 2 ^ (7 * k))) = ((N + b.toNat % 128 * 2 ^ (7 * k) : Nat) : Int) ∧ N + b.toNat % 128 * 2 ^ (7 * k) < 2 ^ (7 * (k + 1)) := by
  have h1 : b.toNat % 128 < 128 := Nat.mod_lt _ (by decide)
  have h2 : N + b.toNat % 128 * 2 ^ (7 * k) < 2 ^ (7 * (k + 1)) := by
    have : 2 ^ (7 * (k + 1)) = 128 * 2 ^ (7 * k) := by rw [show 7 * (k + 1) = 7 * k + 7 from by omega, Nat.pow_add]; omega
    have : (b.toNat % 128 + 1) * 2 ^ (7 * k) ≤ 128 * 2 ^ (7 * k) := Nat.mul_le_mul_right _ (by omega)
    rw [Nat.add_mul] at this; omega
  have h3 : 2 ^ (7 * (k + 1)) ≤ 2 ^ 63 := Nat.pow_le_pow_right (by decide) (by omega)
  refine ⟨?_, h2⟩
  rw [u8_low7, wrap_u64_small (b.toNat % 128 : Nat) (by omega) (by omega)]
  exact u64_join _ _ _ hN (by have : (2:Nat) ^ 63 = 9223372036854775808 := by decide
                              omega)

theorem num_last (b : UInt8) (N : Nat) (hb : b.toNat ≤ 1) (hN : N < 2 ^ (7 * 9)) :
    bits .or .u64 (N : Int) (IntKind.u64.wrap (IntKind.u64.wrap (bits .andNot .u8 (b.toNat : Int) 128) * 9223372036854775808)) = ((N + b.toNat * 2 ^ (7 * 9) : Nat) : Int) ∧ N + b.toNat * 2 ^ (7 * 9) < 18446744073709551616 := by
  have e : (7 * 9) = 63 := rfl
  rw [e] at *
  have h63 : (2:Nat) ^ 63 = 9223372036854775808 := by decide
  have hs : N + b.toNat * 2 ^ 63 < 18446744073709551616 := by rw [h63] at *; omega
  refine ⟨?_, hs⟩
  rw [u8_low7, Nat.mod_eq_of_lt (by omega), wrap_u64_small (b.toNat : Nat) (by omega) (by omega)]
  have := u64_join N b.toNat 63 hN (by omega)
  rw [show ((2 : Int) ^ 63) = 9223372036854775808 from by decide] at this
  exact this

/-- The number whose sign stands in the lowest bit. -/
def zz (v : Nat) : Int := if v % 2 = 0 then (v / 2 : Nat) else -((v / 2 : Nat) : Int) - 1

theorem wrap64_small (n : Int) (h0 : -9223372036854775808 ≤ n) (h1 : n < 9223372036854775808) : wrap64 n = n := by
  rw [wrap64]; omega

theorem i64_xor_zero (a : Nat) (h : a < 9223372036854775808) : bits .xor .i64 (a : Int) 0 = a := by
  show IntKind.i64.wrap ((BitVec.ofInt 64 (a : Int) ^^^ BitVec.ofInt 64 0).toNat : Int) = _
  have e : BitVec.ofInt 64 0 = 0#64 := by decide
  rw [e, BitVec.xor_zero, ofInt_u64 a (by omega), IntKind.wrap_i64]; omega
theorem i64_xor_ones (a : Nat) (h : a < 9223372036854775808) : bits .xor .i64 (a : Int) (-1) = -(a : Int) - 1 := by
  show IntKind.i64.wrap ((BitVec.ofInt 64 (a : Int) ^^^ BitVec.ofInt 64 (-1)).toNat : Int) = _
  have e : BitVec.ofInt 64 (-1) = BitVec.allOnes 64 := by decide
  rw [e, BitVec.xor_allOnes, BitVec.toNat_not, ofInt_u64 a (by omega), IntKind.wrap_i64]; omega

theorem u64_and_one (v : Nat) (h : v < 18446744073709551616) : bits .and .u64 (v : Int) 1 = ((v % 2 : Nat) : Int) := by
  have := u64_and_nat v 1 h (by decide)
  rw [Nat.and_one_is_mod] at this
  exact this

theorem zz_eq (v : Nat) (h : v ≤ 18446744073709551615) : bits .xor .i64 ((v : Int) / 2) (wrap64 (-wrap64 (bits .and .u64 (v : Int) 1))) = zz v := by
  rw [u64_and_one v (by omega)]
  have e : ((v : Int) / 2) = ((v / 2 : Nat) : Int) := by omega
  rw [e]
  unfold zz
  by_cases h2 : v % 2 = 0
  · rw [if_pos h2, h2, wrap64_small ((0 : Nat) : Int) (by omega) (by omega), wrap64_small _ (by omega) (by omega)]
    exact i64_xor_zero _ (by omega)
  · rw [if_neg h2, show v % 2 = 1 from by omega, wrap64_small ((1 : Nat) : Int) (by omega) (by omega), wrap64_small _ (by omega) (by omega)]
    exact i64_xor_ones _ (by omega)
end Go.Proofs.YtkiicdleoniioaaDoor
