/- The contract of the iterator that utf.Runes answers: it gives a text's runes with their numbers, one after another, till it is told that it is enough. -/
import Derived.RangeFuncNested
import Derived.RangeFuncBound
import Derived.RangeFuncCalls
import Derived.RangeFuncLeaves
import Derived.Shelf.Abstract
import Derived.Shelf.RegionOpen
import Derived.WalkKit
import Derived.OwnWalkIn
import Derived.TacticsInMore
import Derived.LoopNIn
import Derived.LoopIn
import Derived.Lib.OthersKept
import Derived.Test.YtodpdcflbnomgaaGreatPart7
import Derived.RangeFuncBox
import Derived.Test.YtodpdcflbnomgaaGreatProg
import Derived.Laws.OwnMore
import Derived.Test.YtodpdcflbnomgaaGreatPart6
import Derived.Laws.FloatArith
import Derived.Test.YtodpdcflbnomgaaGreatPart1
import Derived.Test.YtodpdcflbnomgaaGreatPart2
import Derived.Laws.BitsAllLaws
import Derived.Deep.RegionHeld3
import Derived.Deep.MidRow
import Derived.Deep.DeepCutAuto
namespace Go.Proofs.YtodpdcflbnomgaaGreat
open Go.RowKit Go.Shelf
set_option linter.unusedVariables false
set_option maxRecDepth 100000
attribute [local go_sem] Oper.semAt_some

/-- Runes with their numbers. -/
def enumR : Nat → List Nat → List (Nat × Nat)
  | _, [] => []
  | k, r :: t => (k, r) :: enumR (k + 1) t
theorem enumR_append (k : Nat) (a b : List Nat) : enumR k (a ++ b) = enumR k a ++ enumR (k + a.length) b := by
  induction a generalizing k with
  | nil => rfl
  | cons r a ih => simp only [List.cons_append, enumR, ih, List.length_cons]; rw [show k + 1 + a.length = k + (a.length + 1) from by omega]
theorem enumR_len (k : Nat) (a : List Nat) : (enumR k a).length = a.length := by
  induction a generalizing k with
  | nil => rfl
  | cons r a ih => simp [enumR, ih]
theorem enumR_snoc (a : List Nat) (r : Nat) : enumR 0 (a ++ [r]) = enumR 0 a ++ [(a.length, r)] := by
  rw [enumR_append, Nat.zero_add]; rfl
abbrev enc2 (p : Nat × Nat) : Array Value := #[.int .i64 (p.1 : Int), .int .i32 (p.2 : Int)]
theorem Touch.grownNone {w w' : World} (h : Touch (fun _ => False) w w') : w.grownBy w' none := ⟨h.os, h.tape, h.output, h.size, fun k hk _ => h.block k hk id⟩
theorem Touch.ofBelow {w w' : World} (h : Below w.heap.size w w') : Touch (fun _ => False) w w' := ⟨h.os, h.tape, h.output, h.size, fun k hk _ => h.block k hk⟩
theorem grown_iterAt (w : World) (k : Nat) (s : ByteArray) (pos : Nat) : w.grownBy (w.iterAt k s pos) (some k) :=
  ⟨rfl, rfl, rfl, by rw [Go.Lib.iterAt_size]; exact Nat.le_refl _, fun i hi hn => Go.Lib.iterAt_other w k i s pos (fun e => hn (by rw [e]))⟩

theorem walks_of {W W' : World} (h : KeepsOthers W W') : KeepsWalks W W' := ⟨h.size, fun k o hk ho => h.same k o hk (Obj.not_cells_of_walk ho)⟩
theorem Touch.keepsOthers {w w' : World} (h : Touch (fun _ => False) w w') : KeepsOthers w w' := ⟨h.size, fun k o hk _ => (h.block k (Array.getElem?_eq_some_iff.1 hk).1 id).trans hk⟩
theorem wide1 {n : Nat} : Fence.wide.depth.isSome = true → 1 ≤ n := fun h => absurd h (by simp [Fence.wide])
theorem iterPos_of {w : World} {k : Nat} {s : ByteArray} {p : Nat} (h : w.heap[k]? = some (.stringIter s p)) : w.iterPos k = p := by simp [World.iterPos, h]

end Go.Proofs.YtodpdcflbnomgaaGreat

/- The contracts of utf.Check, Runes, Len, Len16. -/
namespace Go.Proofs.YtodpdcflbnomgaaGreat
open Go.RowKit Go.Shelf
set_option linter.unusedVariables false
set_option maxRecDepth 100000
attribute [local go_sem] Oper.semAt_some

end Go.Proofs.YtodpdcflbnomgaaGreat

/- The contracts of utf.units16, utf.one, quireref3.wide, utf8.RuneLen. -/
namespace Go.Proofs.YtodpdcflbnomgaaGreat
open Go.RowKit
set_option linter.unusedVariables false

/-- A rune's units of UTF-16. -/
def un16 (r : Nat) : Nat := if 65535 < r then 2 else 1
def sum16 (l : List Nat) : Nat := (l.map un16).sum
theorem un16_bd (r : Nat) : 1 ≤ un16 r ∧ un16 r ≤ 2 := by unfold un16; split <;> omega
theorem sum16_nil : sum16 [] = 0 := rfl
theorem sum16_cons (r : Nat) (l : List Nat) : sum16 (r :: l) = un16 r + sum16 l := by simp [sum16]
theorem sum16_append (a b : List Nat) : sum16 (a ++ b) = sum16 a + sum16 b := by simp [sum16]
theorem sum16_bd (l : List Nat) : l.length ≤ sum16 l ∧ sum16 l ≤ 2 * l.length := by
  induction l with
  | nil => simp [sum16]
  | cons r l ih => have := un16_bd r; rw [sum16_cons, List.length_cons]; omega

end Go.Proofs.YtodpdcflbnomgaaGreat

/- The contracts of quireref3.Runes in one form, Len, Len16. -/
namespace Go.Proofs.YtodpdcflbnomgaaGreat
open Go.RowKit
set_option linter.unusedVariables false
set_option maxRecDepth 100000

/-- A slice of runes lies in w. -/
def Row (w : World) (a : Option Addr) (c : Nat) (rs : List Nat) : Prop :=
  rs.length ≤ c ∧ c ≤ maxLen ∧ (rs ≠ [] → ∃ g, a = some ⟨g, 0, none⟩ ∧ ∀ k, (h : k < rs.length) → w.cell? ⟨g, k, none⟩ = some (.int .i32 (rs[k] : Int)))
theorem Row.keep {w w' : World} {a : Option Addr} {c : Nat} {rs : List Nat} (h : Row w a c rs) (hT : Touch (fun _ => False) w w') : Row w' a c rs := by
  refine ⟨h.1, h.2.1, fun hne => ?_⟩
  obtain ⟨g, e, hc⟩ := h.2.2 hne
  exact ⟨g, e, fun k hk => (hT.cell (World.block_lt_of_cell? _ _ (hc k hk)) id k).trans (hc k hk)⟩
/-- What Runes answers: a slice of the text's runes, and whether it is a text. -/
def RunesAny (l : List UInt8) (w : World) (e : Ending) (w' : World) : Prop :=
  Touch (fun _ => False) w w' ∧ ∃ a c, e = .returned (.tuple #[.slice a (rsOf l).length c, .bool (runesOf l).isSome]) ∧ Row w' a c (rsOf l)
theorem sum16_take (rs : List Nat) (k : Nat) (hk : k < rs.length) : sum16 (rs.take (k + 1)) = sum16 (rs.take k) + un16 rs[k] := by
  rw [List.take_succ_eq_append_getElem hk, sum16_append]; simp [sum16]

end Go.Proofs.YtodpdcflbnomgaaGreat

/- Floats stored and added; a sum as the document has it. It speaks of no function. -/
namespace Go.Proofs.YtodpdcflbnomgaaGreat
open Go.RowKit
set_option linter.unusedVariables false

/-- A float is stored (a law of the walk that the library has for the other kinds). -/
theorem run_store_f64 (P : Program) (w : World) (a : Addr) (m : Mode) (b : Nat) : (store a (.float .f64 b) m).run P w = stored P w a (.float .f64 b) m := run_store P w a _ m rfl

def refClean (v : V) : V := if v.k = 3 then ⟨v.k, v.n, refBits v.f, v.s⟩ else v

def isNum (v : V) : Bool := v.k == 2 || v.k == 3

/-- The float that a number stands for; the sum of two. -/
def vFloat (v : V) : Nat := if v.k == 2 then floatOfInt .f64 v.n else v.f
def sumBits (x y : Nat) : Nat := match Ieee.double.add x y with
  | some r => refBits r
  | none => nanBits
def refAdd (a b : V) : V := if isNum a && isNum b then (if a.k == 2 && b.k == 2 then ⟨2, wrap64 (a.n + b.n), 0, .empty⟩ else ⟨3, 0, sumBits (vFloat a) (vFloat b), .empty⟩) else ⟨0, 0, 0, .empty⟩

/-- x + y of floats: the bits (drawn, where it is no number), and how much is drawn. -/
def addR (x y : Nat) (w : World) : Nat := match Ieee.double.add x y with
  | some r => r
  | none => Question.cut (.nanBits .f64 x y) (w.tape w.drawn (.nanBits .f64 x y))
def addN (x y : Nat) : Nat := match Ieee.double.add x y with
  | some _ => 0
  | none => 1
theorem addR_bits (x y : Nat) (w : World) : refBits (addR x y w) = sumBits x y := by
  unfold addR sumBits
  cases h : Ieee.double.add x y with
  | some r => rfl
  | none =>
    have : isNaN (Question.cut (.nanBits .f64 x y) (w.tape w.drawn (.nanBits .f64 x y))) = true := by
      simp only [Question.cut, isNaN, rung, fS, fI]
      generalize w.tape w.drawn (.nanBits .f64 x y) = t
      refine decide_eq_true ?_
      rcases Nat.mod_two_eq_zero_or_one t with e | e <;> rw [e] <;> omega
    simp only [refBits, this, if_true]
theorem run_add_f64 (P : Program) (x y : Nat) (t : TypeId) (w : World) : (binOp .add t (.float .f64 x) (.float .f64 y)).run P w = .ok (.float .f64 (addR x y w)) (w.drewN (addN x y)) := by
  unfold addR addN
  cases h : Ieee.double.add x y with
  | some r => exact run_float_arith w .add t .f64 x y r h
  | none =>
    simp [binOp, Op.floatArith, FloatKind.format, h, Question.forced]
    rfl
end Go.Proofs.YtodpdcflbnomgaaGreat

/- An operation: its fields, as a value, as a block. -/
namespace Go.Proofs.YtodpdcflbnomgaaGreat
open Go.RowKit
set_option linter.unusedVariables false
set_option maxRecDepth 100000

def O.v (o : O) : V := ⟨o.vk, o.vn, o.vf, o.vs⟩
/-- Its clocks. -/
def lenO (o : O) : Nat := if o.kind = 1 then (rsOf o.tx.data.toList).length else 1
theorem lenO_text {o : O} (h : o.kind = 1) : lenO o = (rsOf o.tx.data.toList).length := by unfold lenO; rw [if_pos h]
theorem lenO_other {o : O} (h : ¬ o.kind = 1) : lenO o = 1 := by unfold lenO; rw [if_neg h]

end Go.Proofs.YtodpdcflbnomgaaGreat

/- Arithmetic of bytes and words as the walks spell it. They speak of no program. -/
namespace Go.Proofs.YtodpdcflbnomgaaGreat
open Go.RowKit
set_option linter.unusedVariables false

theorem u8_low7 (b : UInt8) : bits .andNot .u8 (b.toNat : Int) 128 = ((b.toNat % 128 : Nat) : Int) := by
  have h : ∀ x : Fin 256, bits .andNot .u8 ((x : Nat) : Int) 128 = ((x % 128 : Nat) : Int) := by decide +kernel
  exact h ⟨b.toNat, b.toNat_lt⟩

theorem wrap_u64_small (n : Int) (h0 : 0 ≤ n) (h : n < 18446744073709551616) : IntKind.u64.wrap n = n := by
  rw [IntKind.wrap_u64]; omega

/-- A number of m bits, and one behind it. -/
theorem u64_join (a c m : Nat) (ha : a < 2 ^ m) (hc : c * 2 ^ m + a < 18446744073709551616) : bits .or .u64 (a : Int) (IntKind.u64.wrap ((c : Int) * 2 ^ m)) = ((a + c * 2 ^ m : Nat) : Int) := by
  have e : ((c : Int) * 2 ^ m) = ((c * 2 ^ m : Nat) : Int) := by push_cast; rfl
  rw [e, wrap_u64_small _ (by omega) (by omega), u64_or_nat _ _ (by omega) (by omega), Nat.or_comm, ← Nat.shiftLeft_eq, ← Nat.shiftLeft_add_eq_or_of_lt ha, Nat.add_comm]

theorem num_step (b : UInt8) (k N : Nat) (hk : k ≤ 8) (hN : N < 2 ^ (7 * k)) :
    bits .or .u64 (N : Int) (IntKind.u64.wrap (IntKind.u64.wrap (bits .andNot .u8 (b.toNat : Int) 128) * 2 ^ (7 * k))) = ((N + b.toNat % 128 * 2 ^ (7 * k) : Nat) : Int) ∧ N + b.toNat % 128 * 2 ^ (7 * k) < 2 ^ (7 * (k + 1)) := by
  have h1 : b.toNat % 128 < 128 := Nat.mod_lt _ (by decide)
  have h2 : N + b.toNat % 128 * 2 ^ (7 * k) < 2 ^ (7 * (k + 1)) := by
    have : 2 ^ (7 * (k + 1)) = 128 * 2 ^ (7 * k) := by rw [show 7 * (k + 1) = 7 * k + 7 from by omega, Nat.pow_add]; omega
    have : (b.toNat % 128 + 1) * 2 ^ (7 * k) ≤ 128 * 2 ^ (7 * k) := Nat.mul_le_mul_right _ (by omega)
    rw [Nat.add_mul] at this; omega
  have h3 : 2 ^ (7 * (k + 1)) ≤ 2 ^ 63 := Nat.pow_le_pow_right (by decide) (by omega)
  refine ⟨?_, h2⟩
  rw [u8_low7, wrap_u64_small (b.toNat % 128 : Nat) (by omega) (by omega)]
  exact u64_join _ _ _ hN (by have : (2:Nat) ^ 63 = 9223372036854775808 := by decide
                              omega)

theorem num_last (b : UInt8) (N : Nat) (hb : b.toNat ≤ 1) (hN : N < 2 ^ (7 * 9)) :
    bits .or .u64 (N : Int) (IntKind.u64.wrap (IntKind.u64.wrap (bits .andNot .u8 (b.toNat : Int) 128) * 9223372036854775808)) = ((N + b.toNat * 2 ^ (7 * 9) : Nat) : Int) ∧ N + b.toNat * 2 ^ (7 * 9) < 18446744073709551616 := by
  have e : (7 * 9) = 63 := rfl
  rw [e] at *
  have h63 : (2:Nat) ^ 63 = 9223372036854775808 := by decide
  have hs : N + b.toNat * 2 ^ 63 < 18446744073709551616 := by rw [h63] at *; omega
  refine ⟨?_, hs⟩
  rw [u8_low7, Nat.mod_eq_of_lt (by omega), wrap_u64_small (b.toNat : Nat) (by omega) (by omega)]
  have := u64_join N b.toNat 63 hN (by omega)
  rw [show ((2 : Int) ^ 63) = 9223372036854775808 from by decide] at this
  exact this

/-- The number whose sign stands in the lowest bit. -/
def zz (v : Nat) : Int := if v % 2 = 0 then (v / 2 : Nat) else -((v / 2 : Nat) : Int) - 1

theorem wrap64_small (n : Int) (h0 : -9223372036854775808 ≤ n) (h1 : n < 9223372036854775808) : wrap64 n = n := by
  rw [wrap64]; omega

theorem i64_xor_zero (a : Nat) (h : a < 9223372036854775808) : bits .xor .i64 (a : Int) 0 = a := by
  show IntKind.i64.wrap ((BitVec.ofInt 64 (a : Int) ^^^ BitVec.ofInt 64 0).toNat : Int) = _
  have e : BitVec.ofInt 64 0 = 0#64 := by decide
  rw [e, BitVec.xor_zero, ofInt_u64 a (by omega), IntKind.wrap_i64]; omega
theorem i64_xor_ones (a : Nat) (h : a < 9223372036854775808) : bits .xor .i64 (a : Int) (-1) = -(a : Int) - 1 := by
  show IntKind.i64.wrap ((BitVec.ofInt 64 (a : Int) ^^^ BitVec.ofInt 64 (-1)).toNat : Int) = _
  have e : BitVec.ofInt 64 (-1) = BitVec.allOnes 64 := by decide
  rw [e, BitVec.xor_allOnes, BitVec.toNat_not, ofInt_u64 a (by omega), IntKind.wrap_i64]; omega

theorem u64_and_one (v : Nat) (h : v < 18446744073709551616) : bits .and .u64 (v : Int) 1 = ((v % 2 : Nat) : Int) := by
  have := u64_and_nat v 1 h (by decide)
  rw [Nat.and_one_is_mod] at this
  exact this

theorem zz_eq (v : Nat) (h : v ≤ 18446744073709551615) : bits .xor .i64 ((v : Int) / 2) (wrap64 (-wrap64 (bits .and .u64 (v : Int) 1))) = zz v := by
  rw [u64_and_one v (by omega)]
  have e : ((v : Int) / 2) = ((v / 2 : Nat) : Int) := by omega
  rw [e]
  unfold zz
  by_cases h2 : v % 2 = 0
  · rw [if_pos h2, h2, wrap64_small ((0 : Nat) : Int) (by omega) (by omega), wrap64_small _ (by omega) (by omega)]
    exact i64_xor_zero _ (by omega)
  · rw [if_neg h2, show v % 2 = 1 from by omega, wrap64_small ((1 : Nat) : Int) (by omega) (by omega), wrap64_small _ (by omega) (by omega)]
    exact i64_xor_ones _ (by omega)
end Go.Proofs.YtodpdcflbnomgaaGreat

/- ops.Range; the document's Range. -/
namespace Go.Proofs.YtodpdcflbnomgaaGreat
open Go.RowKit
set_option linter.unusedVariables false
set_option linter.unusedSimpArgs false
set_option maxRecDepth 100000

/-- The clock behind its last. -/
def endO (o : O) : Int := IntKind.u64.wrap (o.k + (lenO o : Int))
abbrev rangeV (o : O) : Value := .agg #[.int .u64 o.c, .int .u64 o.k, .int .u64 (endO o)]
theorem lenO_le (o : O) : lenO o ≤ o.tx.size + 1 := by
  unfold lenO; split
  · have h : (rsOf o.tx.data.toList).length ≤ o.tx.size := by have := rsOf_len o.tx.data.toList; simpa using this
    omega
  · omega
theorem heap_two (w : World) (a b : Obj) : ((w.alloc a).alloc b).heap[w.heap.size]? = some a ∧ ((w.alloc a).alloc b).heap[w.heap.size + 1]? = some b := by
  refine ⟨?_, ?_⟩
  · rw [Below.heap_alloc _ _ _ (by simp)]; exact heap_alloc_new _ _
  · have := heap_alloc_new (w.alloc a) b
    simpa using this
/-- An operation's box. -/
def OpAt (B : Nat) (o : O) (W : World) : Prop := W.heap[B]? = some (opO o)
theorem rangeAt_of {W : World} {B : Nat} {o : O} (h : OpAt B o W) : W.rangeAt B 0 o.vals.toList := by
  intro j v hv
  rw [Nat.zero_add, cell_of_block (i := j) h]
  simpa using hv
theorem OpAt.q0 {W : World} {B : Nat} {o : O} (h : OpAt B o W) : W.cell? ⟨B, 0, none⟩ = some (.int .u64 o.c) := by rw [cell_of_block h]; rfl
theorem OpAt.q1 {W : World} {B : Nat} {o : O} (h : OpAt B o W) : W.cell? ⟨B, 1, none⟩ = some (.int .u64 o.k) := by rw [cell_of_block h]; rfl
theorem OpAt.q2 {W : World} {B : Nat} {o : O} (h : OpAt B o W) : W.cell? ⟨B, 2, none⟩ = some (.int .i64 o.kind) := by rw [cell_of_block h]; rfl
theorem OpAt.q3 {W : World} {B : Nat} {o : O} (h : OpAt B o W) : W.cell? ⟨B, 3, none⟩ = some (.int .u64 o.st) := by rw [cell_of_block h]; rfl
theorem OpAt.q4 {W : World} {B : Nat} {o : O} (h : OpAt B o W) : W.cell? ⟨B, 4, none⟩ = some (.int .u64 o.lc) := by rw [cell_of_block h]; rfl
theorem OpAt.q5 {W : World} {B : Nat} {o : O} (h : OpAt B o W) : W.cell? ⟨B, 5, none⟩ = some (.int .u64 o.lk) := by rw [cell_of_block h]; rfl
theorem OpAt.q6 {W : World} {B : Nat} {o : O} (h : OpAt B o W) : W.cell? ⟨B, 6, none⟩ = some (.int .u64 o.rc) := by rw [cell_of_block h]; rfl
theorem OpAt.q7 {W : World} {B : Nat} {o : O} (h : OpAt B o W) : W.cell? ⟨B, 7, none⟩ = some (.int .u64 o.rk) := by rw [cell_of_block h]; rfl
theorem OpAt.q8 {W : World} {B : Nat} {o : O} (h : OpAt B o W) : W.cell? ⟨B, 8, none⟩ = some (.string o.tx) := by rw [cell_of_block h]; rfl
theorem OpAt.q9 {W : World} {B : Nat} {o : O} (h : OpAt B o W) : W.cell? ⟨B, 9, none⟩ = some (.int .i64 o.vk) := by rw [cell_of_block h]; rfl
theorem OpAt.q10 {W : World} {B : Nat} {o : O} (h : OpAt B o W) : W.cell? ⟨B, 10, none⟩ = some (.int .i64 o.vn) := by rw [cell_of_block h]; rfl
theorem OpAt.q11 {W : World} {B : Nat} {o : O} (h : OpAt B o W) : W.cell? ⟨B, 11, none⟩ = some (.float .f64 o.vf) := by rw [cell_of_block h]; rfl
theorem OpAt.q12 {W : World} {B : Nat} {o : O} (h : OpAt B o W) : W.cell? ⟨B, 12, none⟩ = some (.string o.vs) := by rw [cell_of_block h]; rfl
theorem OpAt.q13 {W : World} {B : Nat} {o : O} (h : OpAt B o W) : W.cell? ⟨B, 13, none⟩ = some (.string o.ky) := by rw [cell_of_block h]; rfl
theorem OpAt.q14 {W : World} {B : Nat} {o : O} (h : OpAt B o W) : W.cell? ⟨B, 14, none⟩ = some (.int .u64 o.pc) := by rw [cell_of_block h]; rfl
theorem OpAt.q15 {W : World} {B : Nat} {o : O} (h : OpAt B o W) : W.cell? ⟨B, 15, none⟩ = some (.int .u64 o.pk) := by rw [cell_of_block h]; rfl
theorem OpAt.q16 {W : World} {B : Nat} {o : O} (h : OpAt B o W) : W.cell? ⟨B, 16, none⟩ = some (.int .u64 o.fc) := by rw [cell_of_block h]; rfl
theorem OpAt.q17 {W : World} {B : Nat} {o : O} (h : OpAt B o W) : W.cell? ⟨B, 17, none⟩ = some (.int .u64 o.fk) := by rw [cell_of_block h]; rfl
theorem OpAt.q18 {W : World} {B : Nat} {o : O} (h : OpAt B o W) : W.cell? ⟨B, 18, none⟩ = some (.bool o.fa) := by rw [cell_of_block h]; rfl
theorem OpAt.q19 {W : World} {B : Nat} {o : O} (h : OpAt B o W) : W.cell? ⟨B, 19, none⟩ = some (.int .u64 o.tc) := by rw [cell_of_block h]; rfl
theorem OpAt.q20 {W : World} {B : Nat} {o : O} (h : OpAt B o W) : W.cell? ⟨B, 20, none⟩ = some (.int .u64 o.tk) := by rw [cell_of_block h]; rfl
theorem OpAt.q21 {W : World} {B : Nat} {o : O} (h : OpAt B o W) : W.cell? ⟨B, 21, none⟩ = some (.bool o.ta) := by rw [cell_of_block h]; rfl
theorem put3 {w : World} {R : Nat} {x0 x1 x2 : Value} {t : TypeId} (a0 a1 a2 : Value) (h : w.heap[R]? = some (.cells #[x0, x1, x2] t (0, 0))) :
    (((w.setCell ⟨R, 0, none⟩ a0).setCell ⟨R, 1, none⟩ a1).setCell ⟨R, 2, none⟩ a2).heap[R]? = some (.cells #[a0, a1, a2] t (0, 0)) := by
  have h0 := heap_setCell_same w R 0 a0 h
  have h1 := heap_setCell_same _ R 1 a1 h0
  have h2 := heap_setCell_same _ R 2 a2 h1
  rw [h2]; rfl
theorem touch3 (w : World) (R : Nat) (a0 a1 a2 : Value) : Touch (· = R) w (((w.setCell ⟨R, 0, none⟩ a0).setCell ⟨R, 1, none⟩ a1).setCell ⟨R, 2, none⟩ a2) := by
  have t0 : Touch (· = R) w (w.setCell ⟨R, 0, none⟩ a0) := (Touch.refl _ w).setCell ⟨R, 0, none⟩ a0 (fun _ => rfl)
  have t1 := t0.setCell ⟨R, 1, none⟩ a1 (fun _ => rfl)
  exact t1.setCell ⟨R, 2, none⟩ a2 (fun _ => rfl)

end Go.Proofs.YtodpdcflbnomgaaGreat

/- ops.Fits; the document's Fits. -/
namespace Go.Proofs.YtodpdcflbnomgaaGreat
open Go.RowKit
set_option linter.unusedVariables false
set_option linter.unusedSimpArgs false
set_option maxRecDepth 100000

/-- Both are texts, the one's runes go on where the other's end. -/
def goesB (a b : O) : Bool := (a.kind == 1) && ((b.kind == 1) && (decide (a.k < endO a) && (((b.c == a.c) && (b.k == endO a)) && (((b.lc == a.c) && (b.lk == IntKind.u64.wrap (endO a - 1))) && ((b.rc == a.rc) && (b.rk == a.rk))))))
theorem OpAt.keep {W W' : World} {B : Nat} {o : O} (h : OpAt B o W) (t : Touch (fun _ => False) W W') : OpAt B o W' := (t.block B (lt_of_heap h) id).trans h

end Go.Proofs.YtodpdcflbnomgaaGreat

/- The contracts of value's isNaN, oneNaN, floatRank, and of cmp.Compare, cmp.Or as value calls them. -/
namespace Go.Proofs.YtodpdcflbnomgaaGreat
open Go.RowKit
set_option linter.unusedVariables false
set_option maxRecDepth 100000

set_option maxHeartbeats 400000 in
theorem v_isNaN (f : Nat) (w : World) : Calls Tryz.prog 71 #[.float .f64 f] w fun e w' => e = .returned (.bool (isNaN f)) ∧ w' = w := by
  have h2 := self_neq f
  go_enter Tryz.func71, Tryz.ntmps71
  go_wp2
  go_ret
  exact ⟨rfl, rfl⟩

set_option maxHeartbeats 400000 in
theorem v_oneNaN (f : Nat) (w : World) : Calls Tryz.prog 54 #[.float .f64 f] w fun e w' => e = .returned (.float .f64 (refBits f)) ∧ w' = w := by
  have h1 : ∀ w, (callFunc 72 #[.int .u64 9221120237041090560]).run Tryz.prog w = .ok (.value (.float .f64 9221120237041090560)) w := fun w => f64frombits_run 9221120237041090560 w
  have HE : Hid (refBits f = if isNaN f then nanBits else f) := rfl
  generalize refBits f = R at *
  go_enter Tryz.func54, Tryz.ntmps54
  go_wp2_with fail
  refine (v_isNaN f _).mono ?_
  rintro e w1 ⟨rfl, rfl⟩
  cases h : isNaN f
  · have HF : Hid (R = f) := by rw [Hid, HE.out, h]; rfl
    go_wp2_with fail
    go_ret
    exact ⟨congrArg (fun x : Nat => Ending.returned (.float .f64 x)) HF.out.symm, rfl⟩
  · have HF : Hid (R = nanBits) := by rw [Hid, HE.out, h]; rfl
    go_wp2_with fail
    go_ret
    exact ⟨congrArg (fun x : Nat => Ending.returned (.float .f64 x)) HF.out.symm, rfl⟩

theorem nat_and_top (f : Nat) : f &&& 2 ^ 63 = if f.testBit 63 then 2 ^ 63 else 0 := by
  apply Nat.eq_of_testBit_eq
  intro i
  rw [Nat.testBit_and, Nat.testBit_two_pow]
  by_cases h : 63 = i
  · subst h
    cases f.testBit 63
    · rfl
    · rw [if_pos rfl, Nat.testBit_two_pow]; rfl
  · rw [decide_eq_false h, Bool.and_false]
    cases f.testBit 63
    · simp
    · rw [if_pos rfl, Nat.testBit_two_pow, decide_eq_false h]
theorem two63 : (2 : Nat) ^ 63 = 9223372036854775808 := by decide
theorem u64_top_low (f : Nat) (h : f < 9223372036854775808) : bits .and .u64 (f : Int) 9223372036854775808 = 0 := by
  rw [show (9223372036854775808 : Int) = ((2 ^ 63 : Nat) : Int) from by decide, u64_and_nat _ _ (by omega) (by decide), nat_and_top, Nat.testBit_lt_two_pow (by rw [two63]; exact h)]
  rfl
theorem u64_top_high (f : Nat) (h : ¬ f < 9223372036854775808) (h1 : f < 18446744073709551616) : bits .and .u64 (f : Int) 9223372036854775808 = 9223372036854775808 := by
  obtain ⟨g, rfl⟩ : ∃ g, f = 2 ^ 63 + g := ⟨f - 9223372036854775808, by rw [two63]; omega⟩
  rw [two63] at h1
  have hg : g < 2 ^ 63 := by rw [two63]; omega
  rw [show (9223372036854775808 : Int) = ((2 ^ 63 : Nat) : Int) from by decide, u64_and_nat _ _ (by rw [two63]; omega) (by decide), nat_and_top, Nat.testBit_two_pow_add_eq, Nat.testBit_lt_two_pow hg]
  rfl
theorem u64_top_or (f : Nat) (h : f < 9223372036854775808) : bits .or .u64 (f : Int) 9223372036854775808 = (f : Int) + 9223372036854775808 := by
  rw [show (9223372036854775808 : Int) = ((2 ^ 63 : Nat) : Int) from by decide, u64_or_nat _ _ (by omega) (by decide), Nat.or_comm]
  have := Nat.two_pow_add_eq_or_of_lt (i := 63) (b := f) (by rw [two63]; exact h) 1
  rw [Nat.mul_one] at this
  rw [← this, two63]; omega

theorem u64_flip (f : Nat) (h : f < 18446744073709551616) : bits .xor .u64 IntKind.u64.max (f : Int) = 18446744073709551615 - (f : Int) := by
  show IntKind.u64.wrap ((BitVec.ofInt 64 18446744073709551615 ^^^ BitVec.ofInt 64 (f : Int)).toNat : Int) = _
  rw [show BitVec.ofInt 64 18446744073709551615 = BitVec.allOnes 64 from by decide, BitVec.allOnes_xor, BitVec.toNat_not, ofInt_u64 f h, IntKind.wrap_u64]; omega

set_option maxHeartbeats 400000 in
theorem cmp_uint64 (a b : Int) (w : World) : Calls Tryz.prog 67 #[.int .u64 a, .int .u64 b] w fun e w' => e = .returned (.int .i64 (refInts a b)) ∧ w' = w := by
  by_cases h1 : a < b
  · have HE : Hid (refInts a b = -1) := by simp [Hid, refInts, h1]
    go_enter Tryz.func67, Tryz.ntmps67
    go_wp2
    go_ret
    exact ⟨congrArg (fun x : Int => Ending.returned (.int .i64 x)) HE.out.symm, rfl⟩
  · by_cases h2 : b < a
    · have HE : Hid (refInts a b = 1) := by simp [Hid, refInts, h1, h2]
      go_enter Tryz.func67, Tryz.ntmps67
      go_wp2
      go_ret
      exact ⟨congrArg (fun x : Int => Ending.returned (.int .i64 x)) HE.out.symm, rfl⟩
    · have HE : Hid (refInts a b = 0) := by simp [Hid, refInts, h1, h2]
      go_enter Tryz.func67, Tryz.ntmps67
      go_wp2
      go_ret
      exact ⟨congrArg (fun x : Int => Ending.returned (.int .i64 x)) HE.out.symm, rfl⟩
/-- The first that isn't zero. -/
def firstNZ : List Int → Int
  | [] => 0
  | x :: r => if x ≠ 0 then x else firstNZ r
set_option maxHeartbeats 400000 in
theorem cmp_or (xs : List Int) (n : Nat) (hn : n = xs.length) (b : Nat) (w : World) (h : ∀ j (hj : j < xs.length), w.cell? ⟨b, j, none⟩ = some (.int .i64 xs[j])) (hl : xs.length < 4611686018427387904) :
    Calls Tryz.prog 66 #[.slice (some ⟨b, 0, none⟩) n n] w fun e w' => e = .returned (.int .i64 (firstNZ xs)) ∧ w' = w := by
  subst hn
  have HC : Hid (∀ j (hj : j < xs.length), w.cell? ⟨b, j, none⟩ = some (.int .i64 xs[j])) := h
  clear h
  have HR : Hid (firstNZ xs = firstNZ (xs.drop 0)) := rfl
  generalize firstNZ xs = R at *
  go_enter Tryz.func66, Tryz.ntmps66
  go_wp2_with fail
  go_loopw [8] (fun i wr => ∃ k : Nat, i = .int .i64 k ∧ k ≤ xs.length ∧ R = firstNZ (xs.drop k) ∧ wr = w) (fun i _ => (xs.length - intOf i).toNat)
  case atStart => exact ⟨0, rfl, Nat.zero_le _, HR.out, rfl⟩
  case round =>
    obtain ⟨k, rfl, hk, hR, rfl⟩ := hrel
    have HR2 : Hid (R = firstNZ (xs.drop k)) := hR
    clear hR
    by_cases hk2 : k < xs.length
    · have hc := HC.out k hk2
      have HX : Hid (R = if xs[k] ≠ 0 then xs[k] else firstNZ (xs.drop (k + 1))) := by rw [Hid, HR2.out, List.drop_eq_getElem_cons hk2]; rfl
      generalize xs[k] = x at *
      by_cases hx : x = 0
      · have t : (x != 0) = false := by rw [hx]; rfl
        have HN : Hid (R = firstNZ (xs.drop (k + 1))) := by rw [Hid, HX.out, if_neg (by simpa using hx)]
        clear hx
        go_wp2_with fail
        go_roundw
        case rel => exact ⟨k + 1, by go_num, by omega, HN.out, trivial⟩
        case measure => simp [intOf]; omega
      · have t : (x != 0) = true := by rw [bne_iff_ne]; exact hx
        have HN : Hid (R = x) := by rw [Hid, HX.out, if_pos hx]
        clear hx
        go_wp2_with fail
        go_ret
        exact ⟨congrArg (fun x : Int => Ending.returned (.int .i64 x)) HN.out.symm, rfl⟩
    · have HN : Hid (R = 0) := by rw [Hid, HR2.out, List.drop_eq_nil_of_le (by omega)]; rfl
      go_wp2_with fail
      go_ret
      exact ⟨congrArg (fun x : Int => Ending.returned (.int .i64 x)) HN.out.symm, rfl⟩
end Go.Proofs.YtodpdcflbnomgaaGreat
