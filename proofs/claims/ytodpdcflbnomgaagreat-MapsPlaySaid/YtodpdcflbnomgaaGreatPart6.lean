/- How doubles stand to each other, by their bits. It speaks of no program. -/
import Derived.WalkKit
import Derived.WalkLawsBesides
import Derived.Test.YtodpdcflbnomgaaGreatPart1
import Derived.Test.YtodpdcflbnomgaaGreatProg
import Derived.Laws.BitsAllLaws
import Derived.Deep.RegionHeld
import Derived.Deep.QuietTactic
import Derived.BigQuiet
import Derived.Maps.AppendAt
import Derived.Lib.Strings
namespace Go.Proofs.YtodpdcflbnomgaaGreat
open Go.RowKit
set_option linter.unusedVariables false

def fB : Nat := 4503599627370496
def fI : Nat := 9218868437227405312
def fS : Nat := 9223372036854775808
theorem binade_eq : Ieee.double.binade = fB := by decide +kernel
theorem infRung_eq : Ieee.double.infRung = fI := by decide +kernel
theorem signWeight_eq : Ieee.double.signWeight = fS := by decide +kernel

/-- A word's bits but for the sign; its sign; whether it is a NaN; its place among all numbers. -/
def rung (x : Nat) : Nat := x % fS
def fneg (x : Nat) : Bool := x / fS % 2 == 1
def isNaN (x : Nat) : Bool := decide (fI < rung x)
def fkey (x : Nat) : Int := if fneg x then -(rung x : Int) else rung x

/-- A finite number's size, in units of the least one. -/
def magU (r : Nat) : Nat := if r < fB then r else (fB + r % fB) * 2 ^ (r / fB - 1)
theorem magU_step (r : Nat) : magU r < magU (r + 1) := by
  unfold magU
  have hB : 0 < fB := by decide
  by_cases h : r + 1 < fB
  · rw [if_pos h, if_pos (by omega)]; omega
  · rw [if_neg h]
    by_cases h2 : r < fB
    · have e : r + 1 = fB := by omega
      rw [if_pos h2, e, Nat.mod_self, Nat.div_self hB]
      simp; omega
    · rw [if_neg h2]
      have hq : 1 ≤ r / fB := (Nat.one_le_div_iff hB).2 (by omega)
      by_cases hm : r % fB + 1 < fB
      · have e1 : (r + 1) % fB = r % fB + 1 := by rw [Nat.add_mod, Nat.mod_eq_of_lt (show 1 < fB by decide), Nat.mod_eq_of_lt hm]
        have e2 : (r + 1) / fB = r / fB := by
          have h1 := Nat.div_add_mod r fB
          have h2 := Nat.div_add_mod (r + 1) fB
          rw [e1] at h2
          have : fB * ((r + 1) / fB) = fB * (r / fB) := by omega
          exact Nat.eq_of_mul_eq_mul_left hB this
        rw [e1, e2]
        exact Nat.mul_lt_mul_of_pos_right (by omega) (Nat.two_pow_pos _)
      · have hm' : r % fB + 1 = fB := by have := Nat.mod_lt r hB; omega
        have h1 := Nat.div_add_mod r fB
        have e3 : r + 1 = fB * (r / fB + 1) := by rw [Nat.mul_add]; omega
        have e1 : (r + 1) % fB = 0 := by rw [e3]; exact Nat.mul_mod_right _ _
        have e2 : (r + 1) / fB = r / fB + 1 := by rw [e3]; exact Nat.mul_div_cancel_left _ hB
        rw [e1, e2, Nat.add_zero, show r / fB + 1 - 1 = (r / fB - 1) + 1 from by omega, Nat.pow_succ, ← Nat.mul_assoc, Nat.mul_right_comm]
        exact Nat.mul_lt_mul_of_pos_right (by omega) (Nat.two_pow_pos _)
theorem magU_mono {a b : Nat} (h : a < b) : magU a < magU b := by
  obtain ⟨d, rfl⟩ : ∃ d, b = a + 1 + d := ⟨b - a - 1, by omega⟩
  clear h
  induction d with
  | zero => exact magU_step a
  | succ d ih => exact Nat.lt_trans ih (magU_step _)
theorem magU_lt {a b : Nat} : magU a < magU b ↔ a < b := by
  constructor
  · intro h
    rcases Nat.lt_trichotomy a b with h1 | h1 | h1
    · exact h1
    · subst h1; omega
    · have := magU_mono h1; omega
  · exact magU_mono
theorem magU_eq {a b : Nat} : magU a = magU b ↔ a = b := by
  constructor
  · intro h
    rcases Nat.lt_trichotomy a b with h1 | h1 | h1
    · have := magU_mono h1; omega
    · exact h1
    · have := magU_mono h1; omega
  · rintro rfl; rfl
theorem magU_zero : magU 0 = 0 := by decide

theorem cmp_iff {a b c d : Int} (h1 : a < b ↔ c < d) (h2 : a = b ↔ c = d) : compare a b = compare c d := by
  show compareOfLessAndEq a b = compareOfLessAndEq c d
  unfold compareOfLessAndEq
  by_cases x : a < b
  · rw [if_pos x, if_pos (h1.1 x)]
  · rw [if_neg x, if_neg (fun y => x (h1.2 y))]
    by_cases z : a = b
    · rw [if_pos z, if_pos (h2.1 z)]
    · rw [if_neg z, if_neg (fun y => z (h2.2 y))]

def sgn (s : Bool) (n : Nat) : Int := if s then -(n : Int) else n
theorem signed_eq (s : Bool) (m u : Nat) : Ieee.signed s m u = sgn s (m * 2 ^ u) := by
  unfold Ieee.signed sgn; rw [Nat.shiftLeft_eq]
theorem cmp_scale (s t : Bool) (a b k : Nat) : compare (sgn s a) (sgn t b) = compare (sgn s (a * 2 ^ k)) (sgn t (b * 2 ^ k)) := by
  have hp : 0 < 2 ^ k := Nat.two_pow_pos k
  have e : ∀ (s : Bool) (a : Nat), sgn s (a * 2 ^ k) = sgn s a * ((2 ^ k : Nat) : Int) := by
    intro s a; unfold sgn; split
    · rw [Int.natCast_mul, Int.neg_mul]
    · rw [Int.natCast_mul]
  rw [e, e]
  generalize sgn s a = x
  generalize sgn t b = y
  have hp' : (0 : Int) < ((2 ^ k : Nat) : Int) := by omega
  refine cmp_iff ⟨fun h => Int.mul_lt_mul_of_pos_right h hp', fun h => Int.lt_of_mul_lt_mul_right h (Int.le_of_lt hp')⟩ ⟨fun h => by rw [h], fun h => Int.eq_of_mul_eq_mul_right (Int.ne_of_gt hp') h⟩
/-- What is asked of sizes is asked of rungs. -/
theorem cmp_sgn (s t : Bool) (a b : Nat) : compare (sgn s (magU a)) (sgn t (magU b)) = compare (sgn s a) (sgn t b) := by
  have h0 := magU_zero
  have l1 := @magU_lt a b
  have l2 := @magU_lt b a
  have l3 := @magU_eq a b
  have z1 := @magU_lt 0 a
  have z2 := @magU_lt 0 b
  rw [h0] at z1 z2
  refine cmp_iff ?_ ?_ <;> cases s <;> cases t <;> simp only [sgn, if_true, Bool.false_eq_true, if_false] <;> constructor <;> intro h <;> omega

theorem read_nan {x : Nat} (h : isNaN x = true) : ∃ f, Ieee.double.read x = .nan (fneg x) f := by
  have h' : fI < rung x := of_decide_eq_true h
  have hBI : fB ≤ fI := by decide
  unfold Ieee.Format.read
  simp only [binade_eq, infRung_eq, signWeight_eq]
  show ∃ f, (if rung x < fB then _ else if rung x < fI then _ else if rung x = fI then _ else _) = _
  rw [if_neg (by omega), if_neg (by omega), if_neg (by omega)]
  exact ⟨_, rfl⟩
theorem read_inf {x : Nat} (h : rung x = fI) : Ieee.double.read x = .infinity (fneg x) := by
  have hBI : fB ≤ fI := by decide
  unfold Ieee.Format.read
  simp only [binade_eq, infRung_eq, signWeight_eq]
  show (if rung x < fB then _ else if rung x < fI then _ else if rung x = fI then _ else _) = _
  rw [if_neg (by omega), if_neg (by omega), if_pos h]
  rfl
theorem read_num {x : Nat} (h : rung x < fI) : ∃ m k : Nat, Ieee.double.read x = .number (fneg x) m (Ieee.double.leastPlace + (k : Int)) ∧ m * 2 ^ k = magU (rung x) := by
  unfold Ieee.Format.read
  simp only [binade_eq, infRung_eq, signWeight_eq]
  show ∃ m k : Nat, (if rung x < fB then _ else if rung x < fI then _ else if rung x = fI then _ else _) = _ ∧ _
  by_cases h1 : rung x < fB
  · rw [if_pos h1]
    exact ⟨rung x, 0, by simp; exact ⟨rfl, rfl⟩, by rw [magU, if_pos h1]; simp⟩
  · rw [if_neg h1, if_pos h]
    exact ⟨fB + rung x % fB, rung x / fB - 1, rfl, by rw [magU, if_neg h1]⟩

/-- Two doubles stand as their places do; a NaN stands nowhere. -/
theorem order_double (x y : Nat) : Ieee.double.order x y = if isNaN x || isNaN y then none else some (compare (fkey x) (fkey y)) := by
  unfold Ieee.Format.order
  by_cases hx : isNaN x = true
  · obtain ⟨f, e⟩ := read_nan hx
    rw [e, hx]; simp [Ieee.Datum.order]
  by_cases hy : isNaN y = true
  · obtain ⟨f, e⟩ := read_nan hy
    rw [e, hy]
    cases Ieee.double.read x <;> simp [Ieee.Datum.order]
  have hx' : ¬ fI < rung x := fun h => hx (decide_eq_true h)
  have hy' : ¬ fI < rung y := fun h => hy (decide_eq_true h)
  rw [if_neg (by simp [hx, hy])]
  by_cases ix : rung x = fI
  · by_cases iy : rung y = fI
    · rw [read_inf ix, read_inf iy]
      simp only [Ieee.Datum.order]
      have hI : (0 : Int) < (fI : Int) := by decide
      unfold fkey; rw [ix, iy]
      cases fneg x <;> cases fneg y <;> decide
    · obtain ⟨n, k, e, _⟩ := read_num (show rung y < fI by omega)
      rw [read_inf ix, e]
      simp only [Ieee.Datum.order]
      unfold fkey; rw [ix]
      congr 1
      cases hs : fneg x <;> cases fneg y <;> simp only [if_true, Bool.false_eq_true, if_false] <;> symm
      · exact Int.compare_eq_gt.2 (by omega)
      · exact Int.compare_eq_gt.2 (by omega)
      · exact Int.compare_eq_lt.2 (by omega)
      · exact Int.compare_eq_lt.2 (by omega)
  · obtain ⟨m, k, e, hm⟩ := read_num (show rung x < fI by omega)
    by_cases iy : rung y = fI
    · rw [e, read_inf iy]
      simp only [Ieee.Datum.order]
      unfold fkey; rw [iy]
      congr 1
      cases fneg x <;> cases hs : fneg y <;> simp only [if_true, Bool.false_eq_true, if_false] <;> symm
      · exact Int.compare_eq_lt.2 (by omega)
      · exact Int.compare_eq_gt.2 (by omega)
      · exact Int.compare_eq_lt.2 (by omega)
      · exact Int.compare_eq_gt.2 (by omega)
    · obtain ⟨n, l, e2, hn⟩ := read_num (show rung y < fI by omega)
      rw [e, e2]
      simp only [Ieee.Datum.order, signed_eq]
      have b1 : (Ieee.double.leastPlace + (k : Int) - min (Ieee.double.leastPlace + (k : Int)) (Ieee.double.leastPlace + (l : Int))).toNat = k - min k l := by omega
      have b2 : (Ieee.double.leastPlace + (l : Int) - min (Ieee.double.leastPlace + (k : Int)) (Ieee.double.leastPlace + (l : Int))).toNat = l - min k l := by omega
      rw [b1, b2, cmp_scale _ _ _ _ (min k l), Nat.mul_assoc, Nat.mul_assoc, ← Nat.pow_add, ← Nat.pow_add, show k - min k l + min k l = k from by omega, show l - min k l + min k l = l from by omega, hm, hn, cmp_sgn]
      rfl
end Go.Proofs.YtodpdcflbnomgaaGreat

/- The contracts of quireref2: Bits, Bits. -/
namespace Go.Proofs.YtodpdcflbnomgaaGreat
open Go.RowKit
set_option linter.unusedVariables false

theorem f64bits_run (b : Nat) (w : World) : (callFunc 70 #[.float .f64 b]).run Tryz.prog w = .ok (.value (.int .u64 b)) w := by kernel_rfl
theorem f64frombits_run (b : Nat) (w : World) : (callFunc 72 #[.int .u64 b]).run Tryz.prog w = .ok (.value (.float .f64 b)) w := by kernel_rfl

/-- f != f: just where f is a NaN. -/
theorem self_neq (b : Nat) : (FloatKind.f64.format.order b b != some Ordering.eq) = isNaN b := by
  show (Ieee.double.order b b != some Ordering.eq) = isNaN b
  rw [order_double]
  cases h : isNaN b
  · simp
  · simp

def nanBits : Nat := 9221120237041090560
def refBits (f : Nat) : Nat := if isNaN f then nanBits else f

set_option maxHeartbeats 400000 in
theorem ref_bits (f : Nat) (w : World) : Calls Tryz.prog 74 #[.float .f64 f] w fun e w' => e = .returned (.int .u64 (refBits f)) ∧ w' = w := by
  have h1 := f64bits_run
  have h2 := self_neq f
  cases h : isNaN f
  · rw [h] at h2
    have HE : Hid (refBits f = f) := by simp [Hid, refBits, h]
    go_enter Tryz.func74, Tryz.ntmps74
    go_wp2
    go_ret
    exact ⟨congrArg (fun x : Nat => Ending.returned (.int .u64 x)) HE.out.symm, rfl⟩
  · rw [h] at h2
    have HE : Hid (refBits f = nanBits) := by simp [Hid, refBits, h]
    go_enter Tryz.func74, Tryz.ntmps74
    go_wp2
    go_ret
    exact ⟨congrArg (fun x : Nat => Ending.returned (.int .u64 x)) HE.out.symm, rfl⟩
end Go.Proofs.YtodpdcflbnomgaaGreat

/- A value (api.Value) as five fields; the order of values, as numbers. It speaks of no function. -/
namespace Go.Proofs.YtodpdcflbnomgaaGreat
open Go.RowKit
set_option linter.unusedVariables false

/-- A double as a whole number that stands in the document's order. -/
def refOrder (f : Nat) : Int := if isNaN f then 9223372036854775807 else if f < 9223372036854775808 then f else 9223372036854775807 - (f : Int)

def refInts (a b : Int) : Int := if a < b then -1 else if b < a then 1 else 0

/-- A value (api.Value): its kind, number, float's bits, text. -/
structure V where
  k : Int
  n : Int
  f : Nat
  s : ByteArray
def V.val (v : V) : Value := .agg #[.int .i64 v.k, .int .i64 v.n, .float .f64 v.f, .string v.s]
def V.cells (v : V) : Array Value := #[.int .i64 v.k, .int .i64 v.n, .float .f64 v.f, .string v.s]

def refText (a b : ByteArray) : Int := if Op.bytesLess a.toList b.toList then -1 else if !Op.bytesLess a.toList b.toList && !(a.toList == b.toList) then 1 else 0
def refCmp (a b : V) : Int :=
  if refInts a.k b.k ≠ 0 then refInts a.k b.k else if refInts a.n b.n ≠ 0 then refInts a.n b.n else if refInts (refOrder a.f) (refOrder b.f) ≠ 0 then refInts (refOrder a.f) (refOrder b.f) else refText a.s b.s

theorem Touch.drewN {S : Nat → Prop} {a b : World} (h : Touch S a b) (n : Nat) : Touch S a (b.drewN n) := ⟨h.os, h.tape, h.output, h.size, h.block⟩

end Go.Proofs.YtodpdcflbnomgaaGreat

/- The contract of quireref3.next: the rune that a text begins with. -/
namespace Go.Proofs.YtodpdcflbnomgaaGreat
open Go.RowKit
set_option linter.unusedVariables false

/-- The bytes behind the first: f more from place i on; r: what was read. -/
def nxtGo (l : List UInt8) : Nat → Nat → Nat → Option Nat
  | 0, _, r => some r
  | f + 1, i, r => if 128 ≤ (l.getD i 0).toNat ∧ (l.getD i 0).toNat < 192 then nxtGo l f (i + 1) (r * 64 + (l.getD i 0).toNat % 64) else none
/-- A rune of n bytes, at least low; 0 bytes: none. -/
def nxtEnd (low n r : Nat) : Nat × Nat := if r < low ∨ 1114111 < r ∨ (55296 ≤ r ∧ r < 57344) then (0, 0) else (r, n)
def nxtTail (l : List UInt8) (n r low : Nat) : Nat × Nat := if l.length < n then (0, 0) else match nxtGo l (n - 1) 1 r with
  | none => (0, 0)
  | some x => nxtEnd low n x
def nxt (l : List UInt8) : Nat × Nat :=
  if (l.getD 0 0).toNat < 128 then ((l.getD 0 0).toNat, 1)
  else if 194 ≤ (l.getD 0 0).toNat ∧ (l.getD 0 0).toNat < 224 then nxtTail l 2 ((l.getD 0 0).toNat % 32) 128
  else if 224 ≤ (l.getD 0 0).toNat ∧ (l.getD 0 0).toNat < 240 then nxtTail l 3 ((l.getD 0 0).toNat % 16) 2048
  else if 240 ≤ (l.getD 0 0).toNat ∧ (l.getD 0 0).toNat < 245 then nxtTail l 4 ((l.getD 0 0).toNat % 8) 65536
  else (0, 0)

theorem cont_test (b : UInt8) : (bits .and .u8 (b.toNat : Int) 192 != 128) = !decide (128 ≤ b.toNat ∧ b.toNat < 192) := by
  have h : ∀ x : Fin 256, (bits .and .u8 ((x : Nat) : Int) 192 != 128) = !decide (128 ≤ (x : Nat) ∧ (x : Nat) < 192) := by decide +kernel
  exact h ⟨b.toNat, b.toNat_lt⟩
theorem byte_at (s : ByteArray) (i : Nat) (h : i < s.size) : s[i] = s.data.toList.getD i 0 := by
  show s.data[i] = _
  simp [List.getD, Array.getElem?_eq_getElem (show i < s.data.size from h)]
theorem i32_step (R x : Nat) (hR : R < 32768) (hx : x < 64) : bits .or .i32 ((R : Int) * 64) (x : Int) = ((R * 64 + x : Nat) : Int) := by
  have := i32_or6 (x := (R : Int) * 64) (y := (x : Int)) (by omega) (by omega) (by omega) (by omega) (by omega)
  rw [this]; omega

theorem at0 (s : ByteArray) (h0 : 0 < s.size) : s[0].toNat = (s.data.toList.getD 0 0).toNat := by rw [byte_at s 0 h0]

end Go.Proofs.YtodpdcflbnomgaaGreat

/- The contracts of quireref3.Runes and Check. -/
namespace Go.Proofs.YtodpdcflbnomgaaGreat
open Go.RowKit
set_option linter.unusedVariables false

/-- A text's runes; none: it is no text. -/
def runesGo : Nat → List UInt8 → Option (List Nat)
  | 0, l => if l.isEmpty then some [] else none
  | f + 1, l => if l.isEmpty then some [] else if (nxt l).2 = 0 then none else (runesGo f (l.drop (nxt l).2)).map ((nxt l).1 :: ·)
def runesOf (l : List UInt8) : Option (List Nat) := runesGo l.length l

theorem nxt_le (l : List UInt8) : (nxt l).2 ≤ l.length ∨ l = [] := by
  by_cases h : l = []
  · exact .inr h
  left
  have hp : 0 < l.length := List.length_pos_iff.2 h
  have ht : ∀ n r low, 1 ≤ n → (nxtTail l n r low).2 ≤ l.length := by
    intro n r low hn
    unfold nxtTail
    split
    · simp
    · split
      · simp
      · unfold nxtEnd; split <;> simp <;> omega
  unfold nxt
  split
  · simp; omega
  · split
    · exact ht _ _ _ (by decide)
    · split
      · exact ht _ _ _ (by decide)
      · split
        · exact ht _ _ _ (by decide)
        · simp
theorem runesGo_any : ∀ (f g : Nat) (l : List UInt8), l.length ≤ f → l.length ≤ g → runesGo f l = runesGo g l := by
  intro f
  induction f with
  | zero =>
    intro g l h _
    have : l = [] := List.eq_nil_of_length_eq_zero (by omega)
    subst this
    cases g <;> rfl
  | succ f ih =>
    intro g l h hg
    cases l with
    | nil => cases g <;> rfl
    | cons b t =>
      cases g with
      | zero => simp at hg
      | succ g =>
        rw [runesGo, runesGo]
        simp only [List.isEmpty_cons, Bool.false_eq_true, if_false]
        by_cases hz : (nxt (b :: t)).2 = 0
        · rw [if_pos hz, if_pos hz]
        · rw [if_neg hz, if_neg hz, ih g _ (by simp at h ⊢; omega) (by simp at hg ⊢; omega)]
theorem runesOf_nil : runesOf [] = some [] := rfl
theorem runesOf_step {l : List UInt8} (h : l ≠ []) : runesOf l = if (nxt l).2 = 0 then none else (runesOf (l.drop (nxt l).2)).map ((nxt l).1 :: ·) := by
  cases l with
  | nil => exact absurd rfl h
  | cons b t =>
    unfold runesOf
    show runesGo (t.length + 1) (b :: t) = _
    rw [runesGo]
    simp only [List.isEmpty_cons, Bool.false_eq_true, if_false]
    by_cases hz : (nxt (b :: t)).2 = 0
    · rw [if_pos hz, if_pos hz]
    · rw [if_neg hz, if_neg hz, runesGo_any t.length _ _ (by simp; omega) (Nat.le_refl _)]

def runeCells (l : List Nat) : List Value := l.map fun (r : Nat) => Value.int .i32 (r : Int)
theorem Tryz.infoRune : (Tryz.prog.info? 21).map (fun i => (i.zero, i.size, i.bytes)) = some (some (.int .i32 0), 1, 4) := by kernel_rfl

/-- What Runes answers. -/
def RunesPost (l : List UInt8) (w : World) (e : Ending) (w' : World) : Prop :=
  Touch (fun _ => False) w w' ∧ ((∃ rs v, runesOf l = some rs ∧ e = .returned (.tuple #[v, .bool true]) ∧ w'.ownsRow w.heap.size 21 1 v rs.length (runeCells rs)) ∨
    (runesOf l = none ∧ e = .returned (.tuple #[.slice none 0 0, .bool false])))

theorem dropped (t : ByteArray) (n : Nat) : (t.extract n t.size).data.toList = t.data.toList.drop n := by
  rw [Lib.extract_data, List.take_of_length_le]
  rw [List.length_drop]
  simp

end Go.Proofs.YtodpdcflbnomgaaGreat
