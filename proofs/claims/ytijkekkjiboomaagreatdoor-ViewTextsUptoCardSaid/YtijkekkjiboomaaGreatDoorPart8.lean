/- The order of values is an order. It speaks of no program. -/
import Derived.Test.YtijkekkjiboomaaGreatDoorPart1
import Derived.WalkKit
import Derived.Laws.BitsAllLaws
namespace Go.Proofs.YtijkekkjiboomaaGreatDoor
open Go.RowKit
set_option linter.unusedVariables false

/-- Bytes as one of three: -1, 0, 1. -/
def lexI : List UInt8 → List UInt8 → Int
  | [], [] => 0
  | [], _ :: _ => -1
  | _ :: _, [] => 1
  | a :: x, b :: y => if a.toNat < b.toNat then -1 else if b.toNat < a.toNat then 1 else lexI x y
theorem lexI_spec (a b : List UInt8) : Op.bytesLess a b = decide (lexI a b = -1) ∧ (a == b) = decide (lexI a b = 0) ∧ (lexI a b = -1 ∨ lexI a b = 0 ∨ lexI a b = 1) := by
  induction a generalizing b with
  | nil => cases b <;> simp [Op.bytesLess, lexI]
  | cons x r ih =>
    cases b with
    | nil => simp [Op.bytesLess, lexI]
    | cons y s =>
      obtain ⟨h1, h2, h3⟩ := ih s
      simp only [Op.bytesLess]
      have hlt : (x < y) ↔ x.toNat < y.toNat := UInt8.lt_iff_toNat_lt
      have heq : (x = y) ↔ x.toNat = y.toNat := UInt8.toNat_inj.symm
      by_cases c1 : x.toNat < y.toNat
      · have e : lexI (x :: r) (y :: s) = -1 := by simp only [lexI]; rw [if_pos c1]
        have e1 : (decide (x < y)) = true := decide_eq_true (hlt.2 c1)
        have e2 : (x :: r == y :: s) = false := by
          rw [beq_eq_false_iff_ne]; intro e; cases e; omega
        rw [e, e1, e2]; simp
      · have e1 : (decide (x < y)) = false := decide_eq_false (fun h => c1 (hlt.1 h))
        by_cases c2 : y.toNat < x.toNat
        · have e : lexI (x :: r) (y :: s) = 1 := by simp only [lexI]; rw [if_neg c1, if_pos c2]
          have e2 : (x == y) = false := by rw [beq_eq_false_iff_ne]; intro e; rw [heq] at e; omega
          have e3 : (x :: r == y :: s) = false := by rw [beq_eq_false_iff_ne]; intro e; cases e; omega
          rw [e, e1, e2, e3]; simp
        · have e : lexI (x :: r) (y :: s) = lexI r s := by simp only [lexI]; rw [if_neg c1, if_neg c2]
          have e2 : x = y := heq.2 (by omega)
          subst e2
          have e3 : (x :: r == x :: s) = (r == s) := by simp
          rw [e, e1, e3, h1, h2]; simp [h3]
theorem refText_lex (a b : ByteArray) : refText a b = lexI a.toList b.toList := by
  obtain ⟨h1, h2, h3⟩ := lexI_spec a.toList b.toList
  unfold refText
  rw [h1, h2]
  rcases h3 with h | h | h <;> rw [h] <;> decide
theorem lexI_anti (a b : List UInt8) : lexI a b = -lexI b a := by
  induction a generalizing b with
  | nil => cases b <;> simp [lexI]
  | cons x r ih =>
    cases b with
    | nil => simp [lexI]
    | cons y s =>
      simp only [lexI]
      by_cases c1 : x.toNat < y.toNat
      · rw [if_pos c1, if_neg (by omega), if_pos c1]
      · rw [if_neg c1]
        by_cases c2 : y.toNat < x.toNat
        · rw [if_pos c2, if_pos c2]; rfl
        · rw [if_neg c2, if_neg c2, if_neg c1, ih]
theorem lexI_range (a b : List UInt8) : lexI a b = -1 ∨ lexI a b = 0 ∨ lexI a b = 1 := (lexI_spec a b).2.2
theorem lexI_trans (a b c : List UInt8) (h1 : lexI a b ≤ 0) (h2 : lexI b c ≤ 0) : lexI a c ≤ 0 ∧ (lexI a b = -1 ∨ lexI b c = -1 → lexI a c = -1) := by
  induction a generalizing b c with
  | nil =>
    cases c with
    | nil =>
      cases b with
      | nil => simp [lexI]
      | cons y s => simp [lexI] at h2
    | cons z t => simp [lexI]
  | cons x r ih =>
    cases b with
    | nil => simp [lexI] at h1
    | cons y s =>
      cases c with
      | nil => simp [lexI] at h2
      | cons z t =>
        simp only [lexI] at *
        by_cases c1 : x.toNat < y.toNat
        · by_cases c3 : y.toNat < z.toNat
          · rw [if_pos (show x.toNat < z.toNat by omega)]; simp
          · rw [if_neg c3] at h2
            by_cases c4 : z.toNat < y.toNat
            · rw [if_pos c4] at h2; omega
            · rw [if_pos (show x.toNat < z.toNat by omega)]; simp
        · rw [if_neg c1] at h1
          by_cases c2 : y.toNat < x.toNat
          · rw [if_pos c2] at h1; omega
          · rw [if_neg c2] at h1
            by_cases c3 : y.toNat < z.toNat
            · rw [if_pos (show x.toNat < z.toNat by omega)]; simp
            · rw [if_neg c3] at h2
              by_cases c4 : z.toNat < y.toNat
              · rw [if_pos c4] at h2; omega
              · rw [if_neg c4] at h2
                rw [if_neg c1, if_neg c2, if_neg c3, if_neg c4, if_neg (show ¬ x.toNat < z.toNat by omega), if_neg (show ¬ z.toNat < x.toNat by omega)]
                exact ih s t h1 h2

/-- Four questions, the first that parts. -/
theorem refCmp_cases (a b : V) : refCmp a b = if a.k < b.k then -1 else if b.k < a.k then 1 else if a.n < b.n then -1 else if b.n < a.n then 1 else if refOrder a.f < refOrder b.f then -1 else if refOrder b.f < refOrder a.f then 1 else lexI a.s.toList b.s.toList := by
  unfold refCmp refInts
  rw [refText_lex]
  by_cases c1 : a.k < b.k
  · simp [c1]
  by_cases c2 : b.k < a.k
  · simp [c1, c2]
  by_cases c3 : a.n < b.n
  · simp [c1, c2, c3]
  by_cases c4 : b.n < a.n
  · simp [c1, c2, c3, c4]
  by_cases c5 : refOrder a.f < refOrder b.f
  · simp [c1, c2, c3, c4, c5]
  by_cases c6 : refOrder b.f < refOrder a.f
  · simp [c1, c2, c3, c4, c5, c6]
  simp [c1, c2, c3, c4, c5, c6]
theorem refCmp_range (a b : V) : refCmp a b = -1 ∨ refCmp a b = 0 ∨ refCmp a b = 1 := by
  rw [refCmp_cases]
  have := lexI_range a.s.toList b.s.toList
  generalize lexI a.s.toList b.s.toList = l at *
  repeat' split
  all_goals omega
theorem refCmp_anti (a b : V) : refCmp a b = -refCmp b a := by
  rw [refCmp_cases, refCmp_cases b a, lexI_anti]
  generalize lexI b.s.toList a.s.toList = l
  repeat' split
  all_goals omega
theorem refCmp_self (a : V) : refCmp a a = 0 := by
  have := refCmp_anti a a; omega
theorem refCmp_trans (a b c : V) (h1 : refCmp a b ≤ 0) (h2 : refCmp b c ≤ 0) : refCmp a c ≤ 0 := by
  rw [refCmp_cases] at *
  have ht := lexI_trans a.s.toList b.s.toList c.s.toList
  generalize lexI a.s.toList b.s.toList = l1 at *
  generalize lexI b.s.toList c.s.toList = l2 at *
  generalize lexI a.s.toList c.s.toList = l3 at *
  generalize refOrder a.f = fa at *
  generalize refOrder b.f = fb at *
  generalize refOrder c.f = fc at *
  generalize a.k = ka at *
  generalize b.k = kb at *
  generalize c.k = kc at *
  generalize a.n = na at *
  generalize b.n = nb at *
  generalize c.n = nc at *
  by_cases x1 : ka < kc
  · rw [if_pos x1]; omega
  rw [if_neg x1]
  by_cases p1 : ka < kb
  · by_cases q1 : kb < kc
    · omega
    · rw [if_neg q1] at h2
      rw [if_pos (by omega)] at h2; omega
  rw [if_neg p1] at h1
  by_cases p2 : kb < ka
  · rw [if_pos p2] at h1; omega
  rw [if_neg p2] at h1
  obtain rfl : ka = kb := by omega
  rw [if_neg x1] at h2
  by_cases q2 : kc < ka
  · rw [if_pos q2] at h2; omega
  rw [if_neg q2] at h2 ⊢
  by_cases x3 : na < nc
  · rw [if_pos x3]; omega
  rw [if_neg x3]
  by_cases p3 : na < nb
  · by_cases q3 : nb < nc
    · omega
    · rw [if_neg q3] at h2
      rw [if_pos (by omega)] at h2; omega
  rw [if_neg p3] at h1
  by_cases p4 : nb < na
  · rw [if_pos p4] at h1; omega
  rw [if_neg p4] at h1
  obtain rfl : na = nb := by omega
  rw [if_neg x3] at h2
  by_cases q4 : nc < na
  · rw [if_pos q4] at h2; omega
  rw [if_neg q4] at h2 ⊢
  by_cases x5 : fa < fc
  · rw [if_pos x5]; omega
  rw [if_neg x5]
  by_cases p5 : fa < fb
  · by_cases q5 : fb < fc
    · omega
    · rw [if_neg q5] at h2
      rw [if_pos (by omega)] at h2; omega
  rw [if_neg p5] at h1
  by_cases p6 : fb < fa
  · rw [if_pos p6] at h1; omega
  rw [if_neg p6] at h1
  obtain rfl : fa = fb := by omega
  rw [if_neg x5] at h2
  by_cases q6 : fc < fa
  · rw [if_pos q6] at h2; omega
  rw [if_neg q6] at h2 ⊢
  exact (ht h1 h2).1
end Go.Proofs.YtijkekkjiboomaaGreatDoor

/- Bytes between marks, as lists. It speaks of no program. -/
namespace Go.Proofs.YtijkekkjiboomaaGreatDoor
open Go.RowKit
set_option linter.unusedVariables false

/-- Bytes with a stroke ahead of each mark and stroke. -/
def quoteGo : List UInt8 → List UInt8
  | [] => []
  | c :: cs => if c = 34 ∨ c = 92 then 92 :: c :: quoteGo cs else c :: quoteGo cs
theorem quoteGo_append (a b : List UInt8) : quoteGo (a ++ b) = quoteGo a ++ quoteGo b := by
  induction a with
  | nil => rfl
  | cons c cs ih =>
    simp only [List.cons_append, quoteGo, ih]
    split <;> rfl
theorem quoteGo_length (a : List UInt8) : (quoteGo a).length ≤ 2 * a.length := by
  induction a with
  | nil => simp [quoteGo]
  | cons c cs ih =>
    simp only [quoteGo]
    split <;> simp <;> omega
def refQuote (s : ByteArray) : ByteArray := ⟨(34 :: quoteGo s.data.toList ++ [34]).toArray⟩
end Go.Proofs.YtijkekkjiboomaaGreatDoor

/- Arithmetic of bytes and words as the walks spell it. They speak of no program. -/
namespace Go.Proofs.YtijkekkjiboomaaGreatDoor
open Go.RowKit
set_option linter.unusedVariables false

theorem u8_low7 (b : UInt8) : bits .andNot .u8 (b.toNat : Int) 128 = ((b.toNat % 128 : Nat) : Int) := by
  have h : ∀ x : Fin 256, bits .andNot .u8 ((x : Nat) : Int) 128 = ((x % 128 : Nat) : Int) := by decide +kernel
  exact h ⟨b.toNat, b.toNat_lt⟩

theorem wrap_u64_small (n : Int) (h0 : 0 ≤ n) (h : n < 18446744073709551616) : IntKind.u64.wrap n = n := by
  rw [IntKind.wrap_u64]; omega

/-- A number of m bits, and one behind it. -/
theorem u64_join (a c m : Nat) (ha : a < 2 ^ m) (hc : c * 2 ^ m + a < 18446744073709551616) : bits .or .u64 (a : Int) (IntKind.u64.wrap ((c : Int) * 2 ^ m)) = ((a + c * 2 ^ m : Nat) : Int) := by
  have e : ((c : Int) * 2 ^ m) = ((c * 2 ^ m : Nat) : Int) := by push_cast; rfl
  rw [e, wrap_u64_small _ (by omega) (by omega), u64_or_nat _ _ (by omega) (by omega), Nat.or_comm, ← Nat.shiftLeft_eq, ← Nat.shiftLeft_add_eq_or_of_lt ha, Nat.add_comm]

theorem num_step (b : UInt8) (k N : Nat) (hk : k ≤ 8) (hN : N < 2 ^ (7 * k)) :
    bits .or .u64 (N : Int) (IntKind.u64.wrap (IntKind.u64.wrap (bits .andNot .u8 (b.toNat : Int) 128) * 2 ^ (7 * k))) = ((N + b.toNat % 128 * 2 ^ (7 * k) : Nat) : Int) ∧ N + b.toNat % 128 * 2 ^ (7 * k) < 2 ^ (7 * (k + 1)) := by
  have h1 : b.toNat % 128 < 128 := Nat.mod_lt _ (by decide)
  have h2 : N + b.toNat % 128 * 2 ^ (7 * k) < 2 ^ (7 * (k + 1)) := by
    have : 2 ^ (7 * (k + 1)) = 128 * 2 ^ (7 * k) := by rw [show 7 * (k + 1) = 7 * k + 7 from by omega, Nat.pow_add]; omega
    have : (b.toNat % 128 + 1) * 2 ^ (7 * k) ≤ 128 * 2 ^ (7 * k) := Nat.mul_le_mul_right _ (by omega)
    rw [Nat.add_mul] at this; omega
  have h3 : 2 ^ (7 * (k + 1)) ≤ 2 ^ 63 := Nat.pow_le_pow_right (by decide) (by omega)
  refine ⟨?_, h2⟩
  rw [u8_low7, wrap_u64_small (b.toNat % 128 : Nat) (by omega) (by omega)]
  exact u64_join _ _ _ hN (by have : (2:Nat) ^ 63 = 9223372036854775808 := by decide
                              omega)

theorem num_last (b : UInt8) (N : Nat) (hb : b.toNat ≤ 1) (hN : N < 2 ^ (7 * 9)) :
    bits .or .u64 (N : Int) (IntKind.u64.wrap (IntKind.u64.wrap (bits .andNot .u8 (b.toNat : Int) 128) * 9223372036854775808)) = ((N + b.toNat * 2 ^ (7 * 9) : Nat) : Int) ∧ N + b.toNat * 2 ^ (7 * 9) < 18446744073709551616 := by
  have e : (7 * 9) = 63 := rfl
  rw [e] at *
  have h63 : (2:Nat) ^ 63 = 9223372036854775808 := by decide
  have hs : N + b.toNat * 2 ^ 63 < 18446744073709551616 := by rw [h63] at *; omega
  refine ⟨?_, hs⟩
  rw [u8_low7, Nat.mod_eq_of_lt (by omega), wrap_u64_small (b.toNat : Nat) (by omega) (by omega)]
  have := u64_join N b.toNat 63 hN (by omega)
  rw [show ((2 : Int) ^ 63) = 9223372036854775808 from by decide] at this
  exact this

/-- The number whose sign stands in the lowest bit. -/
def zz (v : Nat) : Int := if v % 2 = 0 then (v / 2 : Nat) else -((v / 2 : Nat) : Int) - 1

theorem wrap64_small (n : Int) (h0 : -9223372036854775808 ≤ n) (h1 : n < 9223372036854775808) : wrap64 n = n := by
  rw [wrap64]; omega

theorem i64_xor_zero (a : Nat) (h : a < 9223372036854775808) : bits .xor .i64 (a : Int) 0 = a := by
  show IntKind.i64.wrap ((BitVec.ofInt 64 (a : Int) ^^^ BitVec.ofInt 64 0).toNat : Int) = _
  have e : BitVec.ofInt 64 0 = 0#64 := by decide
  rw [e, BitVec.xor_zero, ofInt_u64 a (by omega), IntKind.wrap_i64]; omega
theorem i64_xor_ones (a : Nat) (h : a < 9223372036854775808) : bits .xor .i64 (a : Int) (-1) = -(a : Int) - 1 := by
  show IntKind.i64.wrap ((BitVec.ofInt 64 (a : Int) ^^^ BitVec.ofInt 64 (-1)).toNat : Int) = _
  have e : BitVec.ofInt 64 (-1) = BitVec.allOnes 64 := by decide
  rw [e, BitVec.xor_allOnes, BitVec.toNat_not, ofInt_u64 a (by omega), IntKind.wrap_i64]; omega

theorem u64_and_one (v : Nat) (h : v < 18446744073709551616) : bits .and .u64 (v : Int) 1 = ((v % 2 : Nat) : Int) := by
  have := u64_and_nat v 1 h (by decide)
  rw [Nat.and_one_is_mod] at this
  exact this

theorem zz_eq (v : Nat) (h : v ≤ 18446744073709551615) : bits .xor .i64 ((v : Int) / 2) (wrap64 (-wrap64 (bits .and .u64 (v : Int) 1))) = zz v := by
  rw [u64_and_one v (by omega)]
  have e : ((v : Int) / 2) = ((v / 2 : Nat) : Int) := by omega
  rw [e]
  unfold zz
  by_cases h2 : v % 2 = 0
  · rw [if_pos h2, h2, wrap64_small ((0 : Nat) : Int) (by omega) (by omega), wrap64_small _ (by omega) (by omega)]
    exact i64_xor_zero _ (by omega)
  · rw [if_neg h2, show v % 2 = 1 from by omega, wrap64_small ((1 : Nat) : Int) (by omega) (by omega), wrap64_small _ (by omega) (by omega)]
    exact i64_xor_ones _ (by omega)
end Go.Proofs.YtijkekkjiboomaaGreatDoor

/- What is written, as bytes: numbers, texts. It speaks of no program. -/
namespace Go.Proofs.YtijkekkjiboomaaGreatDoor
open Go.RowKit
set_option linter.unusedVariables false

/-- A number's bytes, f more at most. -/
def putGo : Nat → Nat → List UInt8
  | 0, n => [UInt8.ofNat n]
  | f + 1, n => if n < 128 then [UInt8.ofNat n] else UInt8.ofNat (n % 128 + 128) :: putGo f (n / 128)
def putU (n : Nat) : List UInt8 := putGo 9 n

theorem putGo_last {f n : Nat} (h : n < 128) : putGo f n = [UInt8.ofNat n] := by
  cases f with
  | zero => rfl
  | succ f => rw [putGo, if_pos h]
theorem putGo_more {f n : Nat} (h : ¬ n < 128) : putGo (f + 1) n = UInt8.ofNat (n % 128 + 128) :: putGo f (n / 128) := by rw [putGo, if_neg h]
theorem putGo_length : ∀ (f n : Nat), (putGo f n).length ≤ f + 1
  | 0, n => by simp [putGo]
  | f + 1, n => by
    rw [putGo]; split
    · simp
    · have := putGo_length f (n / 128); simp; omega

theorem u8_more (n : Nat) : bits .or .u8 ((n : Int) % 256) 128 = ((UInt8.ofNat (n % 128 + 128)).toNat : Int) := by
  have h : ∀ x : Fin 256, bits .or .u8 ((x : Nat) : Int) 128 = (((x : Nat) % 128 + 128 : Nat) : Int) := by decide +kernel
  have e : (n : Int) % 256 = ((n % 256 : Nat) : Int) := by omega
  have := h ⟨n % 256, Nat.mod_lt _ (by decide)⟩
  rw [e, this]
  simp only [UInt8.toNat_ofNat']
  omega
theorem u8_last (n : Nat) (h : n < 128) : (n : Int) = ((UInt8.ofNat n).toNat : Int) := by
  simp only [UInt8.toNat_ofNat']; omega

/-- The number with its sign in the lowest bit. -/
def unzz (n : Int) : Nat := if n < 0 then (-n).toNat * 2 - 1 else n.toNat * 2

theorem u64_xor_zero (a : Nat) (h : a < 18446744073709551616) : bits .xor .u64 (a : Int) 0 = a := by
  have := u64_xor_nat a 0 h (by decide)
  simpa using this
theorem u64_xor_ones (a : Nat) (h : a < 18446744073709551616) : bits .xor .u64 (a : Int) 18446744073709551615 = ((18446744073709551615 - a : Nat) : Int) := by
  show IntKind.u64.wrap ((BitVec.ofInt 64 (a : Int) ^^^ BitVec.ofInt 64 18446744073709551615).toNat : Int) = _
  have e : BitVec.ofInt 64 18446744073709551615 = BitVec.allOnes 64 := by decide
  rw [e, BitVec.xor_allOnes, BitVec.toNat_not, ofInt_u64 a h, IntKind.wrap_u64]; omega

theorem unzz_eq (n : Int) (h0 : -9223372036854775808 ≤ n) (h1 : n < 9223372036854775808) :
    bits .xor .u64 (IntKind.u64.wrap (IntKind.u64.wrap n * 2)) (IntKind.u64.wrap (n / 9223372036854775808)) = (unzz n : Int) ∧ unzz n < 18446744073709551616 := by
  have hb : unzz n < 18446744073709551616 := by unfold unzz; split <;> omega
  refine ⟨?_, hb⟩
  rw [IntKind.wrap_u64, IntKind.wrap_u64, IntKind.wrap_u64]
  by_cases hn : n < 0
  · have e1 : n / 9223372036854775808 % 18446744073709551616 = 18446744073709551615 := by omega
    obtain ⟨a, ha⟩ : ∃ a : Nat, (n % 18446744073709551616 * 2 % 18446744073709551616) = a := ⟨(n % 18446744073709551616 * 2 % 18446744073709551616).toNat, by omega⟩
    rw [e1, ha, u64_xor_ones a (by omega)]
    unfold unzz; rw [if_pos hn]; omega
  · have e1 : n / 9223372036854775808 % 18446744073709551616 = 0 := by omega
    obtain ⟨a, ha⟩ : ∃ a : Nat, (n % 18446744073709551616 * 2 % 18446744073709551616) = a := ⟨(n % 18446744073709551616 * 2 % 18446744073709551616).toNat, by omega⟩
    rw [e1, ha, u64_xor_zero a (by omega)]
    unfold unzz; rw [if_neg hn]; omega

/-- A number's eight bytes, the highest first. -/
def putF (n : Nat) : List UInt8 := (List.range 8).map fun k => UInt8.ofNat (n / 2 ^ (56 - 8 * k))

theorem putF_length (n : Nat) : (putF n).length = 8 := by simp [putF]
theorem putF_snoc (n k : Nat) (h : k < 8) : (putF n).take (k + 1) = (putF n).take k ++ [UInt8.ofNat (n / 2 ^ (56 - 8 * k))] := by
  rw [List.take_succ_eq_append_getElem (by rw [putF_length]; exact h)]
  simp [putF]

/-- A text's bytes. -/
def putT (s : ByteArray) : List UInt8 := putU s.size ++ s.data.toList

end Go.Proofs.YtijkekkjiboomaaGreatDoor
