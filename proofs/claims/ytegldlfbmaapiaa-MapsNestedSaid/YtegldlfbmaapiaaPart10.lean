/- Arithmetic of bytes and words as the walks spell it. They speak of no program. -/
import Derived.WalkKit
import Derived.Laws.BitsAllLaws
import Derived.Test.YtegldlfbmaapiaaPart9
import Derived.Deep.RegionHeld3
import Derived.Deep.MidRow
import Derived.Deep.DeepCutAuto
namespace Go.Proofs.Ytegldlfbmaapiaa
open Go.RowKit
set_option linter.unusedVariables false

theorem u8_low7 (b : UInt8) : bits .andNot .u8 (b.toNat : Int) 128 = ((b.toNat % 128 : Nat) : Int) := by
  have h : ∀ x : Fin 256, bits .andNot .u8 ((x : Nat) : Int) 128 = ((x % 128 : Nat) : Int) := by decide +kernel
  exact h ⟨b.toNat, b.toNat_lt⟩

theorem wrap_u64_small (n : Int) (h0 : 0 ≤ n) (h : n < 18446744073709551616) : IntKind.u64.wrap n = n := by
  rw [IntKind.wrap_u64]; omega

/-- A number of m bits, and one behind it. -/
theorem u64_join (a c m : Nat) (ha : a < 2 ^ m) (hc : c * 2 ^ m + a < 18446744073709551616) : bits .or .u64 (a : Int) (IntKind.u64.wrap ((c : Int) * 2 ^ m)) = ((a + c * 2 ^ m : Nat) : Int) := by
  have e : ((c : Int) * 2 ^ m) = ((c * 2 ^ m : Nat) : Int) := by push_cast; rfl
  rw [e, wrap_u64_small _ (by omega) (by omega), u64_or_nat _ _ (by omega) (by omega), Nat.or_comm, ← Nat.shiftLeft_eq, ← Nat.shiftLeft_add_eq_or_of_lt ha, Nat.add_comm]

theorem num_step (b : UInt8) (k N : Nat) (hk : k ≤ 8) (hN : N < 2 ^ (7 * k)) :
    bits .or .u64 (N : Int) (IntKind.u64.wrap (IntKind.u64.wrap (bits .andNot .u8 (b.toNat : Int) 128) * 2 ^ (7 * k))) = ((N + b.toNat % 128 * 2 ^ (7 * k) : Nat) : Int) ∧ N + b.toNat % 128 * 2 ^ (7 * k) < 2 ^ (7 * (k + 1)) := by
  have h1 : b.toNat % 128 < 128 := Nat.mod_lt _ (by decide)
  have h2 : N + b.toNat % 128 * 2 ^ (7 * k) < 2 ^ (7 * (k + 1)) := by
    have : 2 ^ (7 * (k + 1)) = 128 * 2 ^ (7 * k) := by rw [show 7 * (k + 1) = 7 * k + 7 from by omega, Nat.pow_add]; omega
    have : (b.toNat % 128 + 1) * 2 ^ (7 * k) ≤ 128 * 2 ^ (7 * k) := Nat.mul_le_mul_right _ (by omega)
    rw [Nat.add_mul] at this; omega
  have h3 : 2 ^ (7 * (k + 1)) ≤ 2 ^ 63 := Nat.pow_le_pow_right (by decide) (by omega)
  refine ⟨?_, h2⟩
  rw [u8_low7, wrap_u64_small (b.toNat % 128 : Nat) (by omega) (by omega)]
  exact u64_join _ _ _ hN (by have : (2:Nat) ^ 63 = 9223372036854775808 := by decide
                              omega)

theorem num_last (b : UInt8) (N : Nat) (hb : b.toNat ≤ 1) (hN : N < 2 ^ (7 * 9)) :
    bits .or .u64 (N : Int) (IntKind.u64.wrap (IntKind.u64.wrap (bits .andNot .u8 (b.toNat : Int) 128) * 9223372036854775808)) = ((N + b.toNat * 2 ^ (7 * 9) : Nat) : Int) ∧ N + b.toNat * 2 ^ (7 * 9) < 18446744073709551616 := by
  have e : (7 * 9) = 63 := rfl
  rw [e] at *
  have h63 : (2:Nat) ^ 63 = 9223372036854775808 := by decide
  have hs : N + b.toNat * 2 ^ 63 < 18446744073709551616 := by rw [h63] at *; omega
  refine ⟨?_, hs⟩
  rw [u8_low7, Nat.mod_eq_of_lt (by omega), wrap_u64_small (b.toNat : Nat) (by omega) (by omega)]
  have := u64_join N b.toNat 63 hN (by omega)
  rw [show ((2 : Int) ^ 63) = 9223372036854775808 from by decide] at this
  exact this

/-- The number whose sign stands in the lowest bit. -/
def zz (v : Nat) : Int := if v % 2 = 0 then (v / 2 : Nat) else -((v / 2 : Nat) : Int) - 1

theorem wrap64_small (n : Int) (h0 : -9223372036854775808 ≤ n) (h1 : n < 9223372036854775808) : wrap64 n = n := by
  rw [wrap64]; omega

theorem i64_xor_zero (a : Nat) (h : a < 9223372036854775808) : bits .xor .i64 (a : Int) 0 = a := by
  show IntKind.i64.wrap ((BitVec.ofInt 64 (a : Int) ^^^ BitVec.ofInt 64 0).toNat : Int) = _
  have e : BitVec.ofInt 64 0 = 0#64 := by decide
  rw [e, BitVec.xor_zero, ofInt_u64 a (by omega), IntKind.wrap_i64]; omega
theorem i64_xor_ones (a : Nat) (h : a < 9223372036854775808) : bits .xor .i64 (a : Int) (-1) = -(a : Int) - 1 := by
  show IntKind.i64.wrap ((BitVec.ofInt 64 (a : Int) ^^^ BitVec.ofInt 64 (-1)).toNat : Int) = _
  have e : BitVec.ofInt 64 (-1) = BitVec.allOnes 64 := by decide
  rw [e, BitVec.xor_allOnes, BitVec.toNat_not, ofInt_u64 a (by omega), IntKind.wrap_i64]; omega

theorem u64_and_one (v : Nat) (h : v < 18446744073709551616) : bits .and .u64 (v : Int) 1 = ((v % 2 : Nat) : Int) := by
  have := u64_and_nat v 1 h (by decide)
  rw [Nat.and_one_is_mod] at this
  exact this

theorem zz_eq (v : Nat) (h : v ≤ 18446744073709551615) : bits .xor .i64 ((v : Int) / 2) (wrap64 (-wrap64 (bits .and .u64 (v : Int) 1))) = zz v := by
  rw [u64_and_one v (by omega)]
  have e : ((v : Int) / 2) = ((v / 2 : Nat) : Int) := by omega
  rw [e]
  unfold zz
  by_cases h2 : v % 2 = 0
  · rw [if_pos h2, h2, wrap64_small ((0 : Nat) : Int) (by omega) (by omega), wrap64_small _ (by omega) (by omega)]
    exact i64_xor_zero _ (by omega)
  · rw [if_neg h2, show v % 2 = 1 from by omega, wrap64_small ((1 : Nat) : Int) (by omega) (by omega), wrap64_small _ (by omega) (by omega)]
    exact i64_xor_ones _ (by omega)
end Go.Proofs.Ytegldlfbmaapiaa

/- ops.Range; the document's Range. -/
namespace Go.Proofs.Ytegldlfbmaapiaa
open Go.RowKit
set_option linter.unusedVariables false
set_option linter.unusedSimpArgs false
set_option maxRecDepth 100000

/-- The clock behind its last. -/
def endO (o : O) : Int := IntKind.u64.wrap (o.k + (lenO o : Int))
abbrev rangeV (o : O) : Value := .agg #[.int .u64 o.c, .int .u64 o.k, .int .u64 (endO o)]
theorem lenO_le (o : O) : lenO o ≤ o.tx.size + 1 := by
  unfold lenO; split
  · have h : (rsOf o.tx.data.toList).length ≤ o.tx.size := by have := rsOf_len o.tx.data.toList; simpa using this
    omega
  · omega
theorem heap_two (w : World) (a b : Obj) : ((w.alloc a).alloc b).heap[w.heap.size]? = some a ∧ ((w.alloc a).alloc b).heap[w.heap.size + 1]? = some b := by
  refine ⟨?_, ?_⟩
  · rw [Below.heap_alloc _ _ _ (by simp)]; exact heap_alloc_new _ _
  · have := heap_alloc_new (w.alloc a) b
    simpa using this
/-- An operation's box. -/
def OpAt (B : Nat) (o : O) (W : World) : Prop := W.heap[B]? = some (opO o)
theorem rangeAt_of {W : World} {B : Nat} {o : O} (h : OpAt B o W) : W.rangeAt B 0 o.vals.toList := by
  intro j v hv
  rw [Nat.zero_add, cell_of_block (i := j) h]
  simpa using hv
theorem OpAt.q0 {W : World} {B : Nat} {o : O} (h : OpAt B o W) : W.cell? ⟨B, 0, none⟩ = some (.int .u64 o.c) := by rw [cell_of_block h]; rfl
theorem OpAt.q1 {W : World} {B : Nat} {o : O} (h : OpAt B o W) : W.cell? ⟨B, 1, none⟩ = some (.int .u64 o.k) := by rw [cell_of_block h]; rfl
theorem OpAt.q2 {W : World} {B : Nat} {o : O} (h : OpAt B o W) : W.cell? ⟨B, 2, none⟩ = some (.int .i64 o.kind) := by rw [cell_of_block h]; rfl
theorem OpAt.q3 {W : World} {B : Nat} {o : O} (h : OpAt B o W) : W.cell? ⟨B, 3, none⟩ = some (.int .u64 o.st) := by rw [cell_of_block h]; rfl
theorem OpAt.q4 {W : World} {B : Nat} {o : O} (h : OpAt B o W) : W.cell? ⟨B, 4, none⟩ = some (.int .u64 o.lc) := by rw [cell_of_block h]; rfl
theorem OpAt.q5 {W : World} {B : Nat} {o : O} (h : OpAt B o W) : W.cell? ⟨B, 5, none⟩ = some (.int .u64 o.lk) := by rw [cell_of_block h]; rfl
theorem OpAt.q6 {W : World} {B : Nat} {o : O} (h : OpAt B o W) : W.cell? ⟨B, 6, none⟩ = some (.int .u64 o.rc) := by rw [cell_of_block h]; rfl
theorem OpAt.q7 {W : World} {B : Nat} {o : O} (h : OpAt B o W) : W.cell? ⟨B, 7, none⟩ = some (.int .u64 o.rk) := by rw [cell_of_block h]; rfl
theorem OpAt.q8 {W : World} {B : Nat} {o : O} (h : OpAt B o W) : W.cell? ⟨B, 8, none⟩ = some (.string o.tx) := by rw [cell_of_block h]; rfl
theorem OpAt.q9 {W : World} {B : Nat} {o : O} (h : OpAt B o W) : W.cell? ⟨B, 9, none⟩ = some (.int .i64 o.vk) := by rw [cell_of_block h]; rfl
theorem OpAt.q10 {W : World} {B : Nat} {o : O} (h : OpAt B o W) : W.cell? ⟨B, 10, none⟩ = some (.int .i64 o.vn) := by rw [cell_of_block h]; rfl
theorem OpAt.q11 {W : World} {B : Nat} {o : O} (h : OpAt B o W) : W.cell? ⟨B, 11, none⟩ = some (.float .f64 o.vf) := by rw [cell_of_block h]; rfl
theorem OpAt.q12 {W : World} {B : Nat} {o : O} (h : OpAt B o W) : W.cell? ⟨B, 12, none⟩ = some (.string o.vs) := by rw [cell_of_block h]; rfl
theorem OpAt.q13 {W : World} {B : Nat} {o : O} (h : OpAt B o W) : W.cell? ⟨B, 13, none⟩ = some (.string o.ky) := by rw [cell_of_block h]; rfl
theorem OpAt.q14 {W : World} {B : Nat} {o : O} (h : OpAt B o W) : W.cell? ⟨B, 14, none⟩ = some (.int .u64 o.pc) := by rw [cell_of_block h]; rfl
theorem OpAt.q15 {W : World} {B : Nat} {o : O} (h : OpAt B o W) : W.cell? ⟨B, 15, none⟩ = some (.int .u64 o.pk) := by rw [cell_of_block h]; rfl
theorem OpAt.q16 {W : World} {B : Nat} {o : O} (h : OpAt B o W) : W.cell? ⟨B, 16, none⟩ = some (.int .u64 o.fc) := by rw [cell_of_block h]; rfl
theorem OpAt.q17 {W : World} {B : Nat} {o : O} (h : OpAt B o W) : W.cell? ⟨B, 17, none⟩ = some (.int .u64 o.fk) := by rw [cell_of_block h]; rfl
theorem OpAt.q18 {W : World} {B : Nat} {o : O} (h : OpAt B o W) : W.cell? ⟨B, 18, none⟩ = some (.bool o.fa) := by rw [cell_of_block h]; rfl
theorem OpAt.q19 {W : World} {B : Nat} {o : O} (h : OpAt B o W) : W.cell? ⟨B, 19, none⟩ = some (.int .u64 o.tc) := by rw [cell_of_block h]; rfl
theorem OpAt.q20 {W : World} {B : Nat} {o : O} (h : OpAt B o W) : W.cell? ⟨B, 20, none⟩ = some (.int .u64 o.tk) := by rw [cell_of_block h]; rfl
theorem OpAt.q21 {W : World} {B : Nat} {o : O} (h : OpAt B o W) : W.cell? ⟨B, 21, none⟩ = some (.bool o.ta) := by rw [cell_of_block h]; rfl
theorem put3 {w : World} {R : Nat} {x0 x1 x2 : Value} {t : TypeId} (a0 a1 a2 : Value) (h : w.heap[R]? = some (.cells #[x0, x1, x2] t (0, 0))) :
    (((w.setCell ⟨R, 0, none⟩ a0).setCell ⟨R, 1, none⟩ a1).setCell ⟨R, 2, none⟩ a2).heap[R]? = some (.cells #[a0, a1, a2] t (0, 0)) := by
  have h0 := heap_setCell_same w R 0 a0 h
  have h1 := heap_setCell_same _ R 1 a1 h0
  have h2 := heap_setCell_same _ R 2 a2 h1
  rw [h2]; rfl
theorem touch3 (w : World) (R : Nat) (a0 a1 a2 : Value) : Touch (· = R) w (((w.setCell ⟨R, 0, none⟩ a0).setCell ⟨R, 1, none⟩ a1).setCell ⟨R, 2, none⟩ a2) := by
  have t0 : Touch (· = R) w (w.setCell ⟨R, 0, none⟩ a0) := (Touch.refl _ w).setCell ⟨R, 0, none⟩ a0 (fun _ => rfl)
  have t1 := t0.setCell ⟨R, 1, none⟩ a1 (fun _ => rfl)
  exact t1.setCell ⟨R, 2, none⟩ a2 (fun _ => rfl)

end Go.Proofs.Ytegldlfbmaapiaa

/- ops.Fits; the document's Fits. -/
namespace Go.Proofs.Ytegldlfbmaapiaa
open Go.RowKit
set_option linter.unusedVariables false
set_option linter.unusedSimpArgs false
set_option maxRecDepth 100000

/-- Both are texts, the one's runes go on where the other's end. -/
def goesB (a b : O) : Bool := (a.kind == 1) && ((b.kind == 1) && (decide (a.k < endO a) && (((b.c == a.c) && (b.k == endO a)) && (((b.lc == a.c) && (b.lk == IntKind.u64.wrap (endO a - 1))) && ((b.rc == a.rc) && (b.rk == a.rk))))))
theorem OpAt.keep {W W' : World} {B : Nat} {o : O} (h : OpAt B o W) (t : Touch (fun _ => False) W W') : OpAt B o W' := (t.block B (lt_of_heap h) id).trans h

end Go.Proofs.Ytegldlfbmaapiaa
