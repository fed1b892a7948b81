/- The order of values is an order. It speaks of no program. -/
import Derived.Test.YtodpdcflbnomgaaGreatPart6
import Derived.WalkKit
import Derived.Test.YtodpdcflbnomgaaGreatPart8
import Derived.Lib.ItoaNum
namespace Go.Proofs.YtodpdcflbnomgaaGreat
open Go.RowKit
set_option linter.unusedVariables false

/-- Bytes as one of three: -1, 0, 1. -/
def lexI : List UInt8 → List UInt8 → Int
  | [], [] => 0
  | [], _ :: _ => -1
  | _ :: _, [] => 1
  | a :: x, b :: y => if a.toNat < b.toNat then -1 else if b.toNat < a.toNat then 1 else lexI x y
theorem lexI_spec (a b : List UInt8) : Op.bytesLess a b = decide (lexI a b = -1) ∧ (a == b) = decide (lexI a b = 0) ∧ (lexI a b = -1 ∨ lexI a b = 0 ∨ lexI a b = 1) := by
  induction a generalizing b with
  | nil => cases b <;> simp [Op.bytesLess, lexI]
  | cons x r ih =>
    cases b with
    | nil => simp [Op.bytesLess, lexI]
    | cons y s =>
      obtain ⟨h1, h2, h3⟩ := ih s
      simp only [Op.bytesLess]
      have hlt : (x < y) ↔ x.toNat < y.toNat := UInt8.lt_iff_toNat_lt
      have heq : (x = y) ↔ x.toNat = y.toNat := UInt8.toNat_inj.symm
      by_cases c1 : x.toNat < y.toNat
      · have e : lexI (x :: r) (y :: s) = -1 := by simp only [lexI]; rw [if_pos c1]
        have e1 : (decide (x < y)) = true := decide_eq_true (hlt.2 c1)
        have e2 : (x :: r == y :: s) = false := by
          rw [beq_eq_false_iff_ne]; intro e; cases e; omega
        rw [e, e1, e2]; simp
      · have e1 : (decide (x < y)) = false := decide_eq_false (fun h => c1 (hlt.1 h))
        by_cases c2 : y.toNat < x.toNat
        · have e : lexI (x :: r) (y :: s) = 1 := by simp only [lexI]; rw [if_neg c1, if_pos c2]
          have e2 : (x == y) = false := by rw [beq_eq_false_iff_ne]; intro e; rw [heq] at e; omega
          have e3 : (x :: r == y :: s) = false := by rw [beq_eq_false_iff_ne]; intro e; cases e; omega
          rw [e, e1, e2, e3]; simp
        · have e : lexI (x :: r) (y :: s) = lexI r s := by simp only [lexI]; rw [if_neg c1, if_neg c2]
          have e2 : x = y := heq.2 (by omega)
          subst e2
          have e3 : (x :: r == x :: s) = (r == s) := by simp
          rw [e, e1, e3, h1, h2]; simp [h3]
theorem refText_lex (a b : ByteArray) : refText a b = lexI a.toList b.toList := by
  obtain ⟨h1, h2, h3⟩ := lexI_spec a.toList b.toList
  unfold refText
  rw [h1, h2]
  rcases h3 with h | h | h <;> rw [h] <;> decide
theorem lexI_anti (a b : List UInt8) : lexI a b = -lexI b a := by
  induction a generalizing b with
  | nil => cases b <;> simp [lexI]
  | cons x r ih =>
    cases b with
    | nil => simp [lexI]
    | cons y s =>
      simp only [lexI]
      by_cases c1 : x.toNat < y.toNat
      · rw [if_pos c1, if_neg (by omega), if_pos c1]
      · rw [if_neg c1]
        by_cases c2 : y.toNat < x.toNat
        · rw [if_pos c2, if_pos c2]; rfl
        · rw [if_neg c2, if_neg c2, if_neg c1, ih]
theorem lexI_range (a b : List UInt8) : lexI a b = -1 ∨ lexI a b = 0 ∨ lexI a b = 1 := (lexI_spec a b).2.2
theorem lexI_trans (a b c : List UInt8) (h1 : lexI a b ≤ 0) (h2 : lexI b c ≤ 0) : lexI a c ≤ 0 ∧ (lexI a b = -1 ∨ lexI b c = -1 → lexI a c = -1) := by
  induction a generalizing b c with
  | nil =>
    cases c with
    | nil =>
      cases b with
      | nil => simp [lexI]
      | cons y s => simp [lexI] at h2
    | cons z t => simp [lexI]
  | cons x r ih =>
    cases b with
    | nil => simp [lexI] at h1
    | cons y s =>
      cases c with
      | nil => simp [lexI] at h2
      | cons z t =>
        simp only [lexI] at *
        by_cases c1 : x.toNat < y.toNat
        · by_cases c3 : y.toNat < z.toNat
          · rw [if_pos (show x.toNat < z.toNat by omega)]; simp
          · rw [if_neg c3] at h2
            by_cases c4 : z.toNat < y.toNat
            · rw [if_pos c4] at h2; omega
            · rw [if_pos (show x.toNat < z.toNat by omega)]; simp
        · rw [if_neg c1] at h1
          by_cases c2 : y.toNat < x.toNat
          · rw [if_pos c2] at h1; omega
          · rw [if_neg c2] at h1
            by_cases c3 : y.toNat < z.toNat
            · rw [if_pos (show x.toNat < z.toNat by omega)]; simp
            · rw [if_neg c3] at h2
              by_cases c4 : z.toNat < y.toNat
              · rw [if_pos c4] at h2; omega
              · rw [if_neg c4] at h2
                rw [if_neg c1, if_neg c2, if_neg c3, if_neg c4, if_neg (show ¬ x.toNat < z.toNat by omega), if_neg (show ¬ z.toNat < x.toNat by omega)]
                exact ih s t h1 h2

/-- Four questions, the first that parts. -/
theorem refCmp_cases (a b : V) : refCmp a b = if a.k < b.k then -1 else if b.k < a.k then 1 else if a.n < b.n then -1 else if b.n < a.n then 1 else if refOrder a.f < refOrder b.f then -1 else if refOrder b.f < refOrder a.f then 1 else lexI a.s.toList b.s.toList := by
  unfold refCmp refInts
  rw [refText_lex]
  by_cases c1 : a.k < b.k
  · simp [c1]
  by_cases c2 : b.k < a.k
  · simp [c1, c2]
  by_cases c3 : a.n < b.n
  · simp [c1, c2, c3]
  by_cases c4 : b.n < a.n
  · simp [c1, c2, c3, c4]
  by_cases c5 : refOrder a.f < refOrder b.f
  · simp [c1, c2, c3, c4, c5]
  by_cases c6 : refOrder b.f < refOrder a.f
  · simp [c1, c2, c3, c4, c5, c6]
  simp [c1, c2, c3, c4, c5, c6]
theorem refCmp_range (a b : V) : refCmp a b = -1 ∨ refCmp a b = 0 ∨ refCmp a b = 1 := by
  rw [refCmp_cases]
  have := lexI_range a.s.toList b.s.toList
  generalize lexI a.s.toList b.s.toList = l at *
  repeat' split
  all_goals omega
theorem refCmp_anti (a b : V) : refCmp a b = -refCmp b a := by
  rw [refCmp_cases, refCmp_cases b a, lexI_anti]
  generalize lexI b.s.toList a.s.toList = l
  repeat' split
  all_goals omega
theorem refCmp_self (a : V) : refCmp a a = 0 := by
  have := refCmp_anti a a; omega
theorem refCmp_trans (a b c : V) (h1 : refCmp a b ≤ 0) (h2 : refCmp b c ≤ 0) : refCmp a c ≤ 0 := by
  rw [refCmp_cases] at *
  have ht := lexI_trans a.s.toList b.s.toList c.s.toList
  generalize lexI a.s.toList b.s.toList = l1 at *
  generalize lexI b.s.toList c.s.toList = l2 at *
  generalize lexI a.s.toList c.s.toList = l3 at *
  generalize refOrder a.f = fa at *
  generalize refOrder b.f = fb at *
  generalize refOrder c.f = fc at *
  generalize a.k = ka at *
  generalize b.k = kb at *
  generalize c.k = kc at *
  generalize a.n = na at *
  generalize b.n = nb at *
  generalize c.n = nc at *
  by_cases x1 : ka < kc
  · rw [if_pos x1]; omega
  rw [if_neg x1]
  by_cases p1 : ka < kb
  · by_cases q1 : kb < kc
    · omega
    · rw [if_neg q1] at h2
      rw [if_pos (by omega)] at h2; omega
  rw [if_neg p1] at h1
  by_cases p2 : kb < ka
  · rw [if_pos p2] at h1; omega
  rw [if_neg p2] at h1
  obtain rfl : ka = kb := by omega
  rw [if_neg x1] at h2
  by_cases q2 : kc < ka
  · rw [if_pos q2] at h2; omega
  rw [if_neg q2] at h2 ⊢
  by_cases x3 : na < nc
  · rw [if_pos x3]; omega
  rw [if_neg x3]
  by_cases p3 : na < nb
  · by_cases q3 : nb < nc
    · omega
    · rw [if_neg q3] at h2
      rw [if_pos (by omega)] at h2; omega
  rw [if_neg p3] at h1
  by_cases p4 : nb < na
  · rw [if_pos p4] at h1; omega
  rw [if_neg p4] at h1
  obtain rfl : na = nb := by omega
  rw [if_neg x3] at h2
  by_cases q4 : nc < na
  · rw [if_pos q4] at h2; omega
  rw [if_neg q4] at h2 ⊢
  by_cases x5 : fa < fc
  · rw [if_pos x5]; omega
  rw [if_neg x5]
  by_cases p5 : fa < fb
  · by_cases q5 : fb < fc
    · omega
    · rw [if_neg q5] at h2
      rw [if_pos (by omega)] at h2; omega
  rw [if_neg p5] at h1
  by_cases p6 : fb < fa
  · rw [if_pos p6] at h1; omega
  rw [if_neg p6] at h1
  obtain rfl : fa = fb := by omega
  rw [if_neg x5] at h2
  by_cases q6 : fc < fa
  · rw [if_pos q6] at h2; omega
  rw [if_neg q6] at h2 ⊢
  exact (ht h1 h2).1
end Go.Proofs.YtodpdcflbnomgaaGreat

/- Bytes between marks, as lists. It speaks of no program. -/
namespace Go.Proofs.YtodpdcflbnomgaaGreat
open Go.RowKit
set_option linter.unusedVariables false

/-- Bytes with a stroke ahead of each mark and stroke. -/
def quoteGo : List UInt8 → List UInt8
  | [] => []
  | c :: cs => if c = 34 ∨ c = 92 then 92 :: c :: quoteGo cs else c :: quoteGo cs
theorem quoteGo_append (a b : List UInt8) : quoteGo (a ++ b) = quoteGo a ++ quoteGo b := by
  induction a with
  | nil => rfl
  | cons c cs ih =>
    simp only [List.cons_append, quoteGo, ih]
    split <;> rfl
theorem quoteGo_length (a : List UInt8) : (quoteGo a).length ≤ 2 * a.length := by
  induction a with
  | nil => simp [quoteGo]
  | cons c cs ih =>
    simp only [quoteGo]
    split <;> simp <;> omega
def refQuote (s : ByteArray) : ByteArray := ⟨(34 :: quoteGo s.data.toList ++ [34]).toArray⟩
end Go.Proofs.YtodpdcflbnomgaaGreat

/- What is written, as bytes: numbers, texts. It speaks of no program. -/
namespace Go.Proofs.YtodpdcflbnomgaaGreat
open Go.RowKit
set_option linter.unusedVariables false

/-- A number's bytes, f more at most. -/
def putGo : Nat → Nat → List UInt8
  | 0, n => [UInt8.ofNat n]
  | f + 1, n => if n < 128 then [UInt8.ofNat n] else UInt8.ofNat (n % 128 + 128) :: putGo f (n / 128)
def putU (n : Nat) : List UInt8 := putGo 9 n

theorem putGo_last {f n : Nat} (h : n < 128) : putGo f n = [UInt8.ofNat n] := by
  cases f with
  | zero => rfl
  | succ f => rw [putGo, if_pos h]
theorem putGo_more {f n : Nat} (h : ¬ n < 128) : putGo (f + 1) n = UInt8.ofNat (n % 128 + 128) :: putGo f (n / 128) := by rw [putGo, if_neg h]
theorem putGo_length : ∀ (f n : Nat), (putGo f n).length ≤ f + 1
  | 0, n => by simp [putGo]
  | f + 1, n => by
    rw [putGo]; split
    · simp
    · have := putGo_length f (n / 128); simp; omega

theorem u8_more (n : Nat) : bits .or .u8 ((n : Int) % 256) 128 = ((UInt8.ofNat (n % 128 + 128)).toNat : Int) := by
  have h : ∀ x : Fin 256, bits .or .u8 ((x : Nat) : Int) 128 = (((x : Nat) % 128 + 128 : Nat) : Int) := by decide +kernel
  have e : (n : Int) % 256 = ((n % 256 : Nat) : Int) := by omega
  have := h ⟨n % 256, Nat.mod_lt _ (by decide)⟩
  rw [e, this]
  simp only [UInt8.toNat_ofNat']
  omega
theorem u8_last (n : Nat) (h : n < 128) : (n : Int) = ((UInt8.ofNat n).toNat : Int) := by
  simp only [UInt8.toNat_ofNat']; omega

/-- The number with its sign in the lowest bit. -/
def unzz (n : Int) : Nat := if n < 0 then (-n).toNat * 2 - 1 else n.toNat * 2

theorem u64_xor_zero (a : Nat) (h : a < 18446744073709551616) : bits .xor .u64 (a : Int) 0 = a := by
  have := u64_xor_nat a 0 h (by decide)
  simpa using this
theorem u64_xor_ones (a : Nat) (h : a < 18446744073709551616) : bits .xor .u64 (a : Int) 18446744073709551615 = ((18446744073709551615 - a : Nat) : Int) := by
  show IntKind.u64.wrap ((BitVec.ofInt 64 (a : Int) ^^^ BitVec.ofInt 64 18446744073709551615).toNat : Int) = _
  have e : BitVec.ofInt 64 18446744073709551615 = BitVec.allOnes 64 := by decide
  rw [e, BitVec.xor_allOnes, BitVec.toNat_not, ofInt_u64 a h, IntKind.wrap_u64]; omega

theorem unzz_eq (n : Int) (h0 : -9223372036854775808 ≤ n) (h1 : n < 9223372036854775808) :
    bits .xor .u64 (IntKind.u64.wrap (IntKind.u64.wrap n * 2)) (IntKind.u64.wrap (n / 9223372036854775808)) = (unzz n : Int) ∧ unzz n < 18446744073709551616 := by
  have hb : unzz n < 18446744073709551616 := by unfold unzz; split <;> omega
  refine ⟨?_, hb⟩
  rw [IntKind.wrap_u64, IntKind.wrap_u64, IntKind.wrap_u64]
  by_cases hn : n < 0
  · have e1 : n / 9223372036854775808 % 18446744073709551616 = 18446744073709551615 := by omega
    obtain ⟨a, ha⟩ : ∃ a : Nat, (n % 18446744073709551616 * 2 % 18446744073709551616) = a := ⟨(n % 18446744073709551616 * 2 % 18446744073709551616).toNat, by omega⟩
    rw [e1, ha, u64_xor_ones a (by omega)]
    unfold unzz; rw [if_pos hn]; omega
  · have e1 : n / 9223372036854775808 % 18446744073709551616 = 0 := by omega
    obtain ⟨a, ha⟩ : ∃ a : Nat, (n % 18446744073709551616 * 2 % 18446744073709551616) = a := ⟨(n % 18446744073709551616 * 2 % 18446744073709551616).toNat, by omega⟩
    rw [e1, ha, u64_xor_zero a (by omega)]
    unfold unzz; rw [if_neg hn]; omega

/-- A number's eight bytes, the highest first. -/
def putF (n : Nat) : List UInt8 := (List.range 8).map fun k => UInt8.ofNat (n / 2 ^ (56 - 8 * k))

theorem putF_length (n : Nat) : (putF n).length = 8 := by simp [putF]
theorem putF_snoc (n k : Nat) (h : k < 8) : (putF n).take (k + 1) = (putF n).take k ++ [UInt8.ofNat (n / 2 ^ (56 - 8 * k))] := by
  rw [List.take_succ_eq_append_getElem (by rw [putF_length]; exact h)]
  simp [putF]

/-- A text's bytes. -/
def putT (s : ByteArray) : List UInt8 := putU s.size ++ s.data.toList

end Go.Proofs.YtodpdcflbnomgaaGreat

/- Unlike values have unlike texts and bytes. It speaks of no program. -/
namespace Go.Proofs.YtodpdcflbnomgaaGreat
open Go.RowKit
set_option linter.unusedVariables false
set_option linter.unusedSimpArgs false
set_option maxRecDepth 10000

/-! ### Digits -/
def decVal (l : List UInt8) : Nat := l.foldl (fun a d => a * 10 + (d.toNat - 48)) 0
theorem decVal_snoc (l : List UInt8) (d : UInt8) : decVal (l ++ [d]) = decVal l * 10 + (d.toNat - 48) := by
  unfold decVal; rw [List.foldl_append]; rfl
theorem digit_toNat (d : Nat) (h : d < 10) : (UInt8.ofNat (48 + d)).toNat = 48 + d := by
  rw [UInt8.toNat_ofNat']; omega
theorem decDigits_val (u : Nat) : decVal (Go.Lib.decDigits u) = u ∧ Go.Lib.decDigits u ≠ [] ∧ ∀ c ∈ Go.Lib.decDigits u, 48 ≤ c.toNat ∧ c.toNat < 58 := by
  induction u using Nat.strongRecOn with
  | ind u ih =>
    rw [Go.Lib.decDigits]
    by_cases h : u < 10
    · rw [dif_pos h]
      have hd := digit_toNat u h
      refine ⟨?_, by simp, ?_⟩
      · show 0 * 10 + ((UInt8.ofNat (48 + u)).toNat - 48) = u
        rw [hd]; omega
      · intro c hc
        rw [List.mem_singleton] at hc
        subst hc; rw [hd]; omega
    · rw [dif_neg h]
      obtain ⟨h1, h2, h3⟩ := ih (u / 10) (by omega)
      have hd := digit_toNat (u % 10) (Nat.mod_lt _ (by decide))
      refine ⟨?_, by simp, ?_⟩
      · rw [decVal_snoc, h1, hd]; omega
      · intro c hc
        rw [List.mem_append] at hc
        rcases hc with hc | hc
        · exact h3 c hc
        · rw [List.mem_singleton] at hc
          subst hc; rw [hd]; omega
theorem itoa_inj {a b : Int} (h : Go.Lib.itoa a = Go.Lib.itoa b) : a = b := by
  unfold Go.Lib.itoa at h
  have no : ∀ u (l : List UInt8), Go.Lib.decDigits u ≠ 45 :: l := by
    intro u l e
    have := (decDigits_val u).2.2 45 (by rw [e]; simp)
    have h45 : (45 : UInt8).toNat = 45 := rfl
    omega
  by_cases ha : a < 0 <;> by_cases hb : b < 0
  · rw [if_pos ha, if_pos hb] at h
    have := congrArg decVal (List.cons.inj h).2
    rw [(decDigits_val _).1, (decDigits_val _).1] at this; omega
  · rw [if_pos ha, if_neg hb] at h; exact absurd h.symm (no _ _)
  · rw [if_neg ha, if_pos hb] at h; exact absurd h (no _ _)
  · rw [if_neg ha, if_neg hb] at h
    have := congrArg decVal h
    rw [(decDigits_val _).1, (decDigits_val _).1] at this; omega

/-! ### Quotes -/
theorem quoteGo_inj {a b : List UInt8} (h : quoteGo a = quoteGo b) : a = b := by
  induction a generalizing b with
  | nil =>
    cases b with
    | nil => rfl
    | cons d ds => simp only [quoteGo] at h; split at h <;> cases h
  | cons c cs ih =>
    cases b with
    | nil => simp only [quoteGo] at h; split at h <;> cases h
    | cons d ds =>
      simp only [quoteGo] at h
      by_cases hc : c = 34 ∨ c = 92 <;> by_cases hd : d = 34 ∨ d = 92
      · rw [if_pos hc, if_pos hd] at h
        injection h with _ h; injection h with h1 h2
        rw [h1, ih h2]
      · rw [if_pos hc, if_neg hd] at h
        injection h with h1 h2
        exact absurd (.inr h1.symm) hd
      · rw [if_neg hc, if_pos hd] at h
        injection h with h1 h2
        exact absurd (.inr h1) hc
      · rw [if_neg hc, if_neg hd] at h
        injection h with h1 h2
        rw [h1, ih h2]

/-! ### Numbers in bytes: none begins another -/
theorem putGo_free {f : Nat} {n m : Nat} {x y : List UInt8} (hn : n < 2 * 128 ^ f) (hm : m < 2 * 128 ^ f) (h : putGo f n ++ x = putGo f m ++ y) : n = m ∧ x = y := by
  induction f generalizing n m with
  | zero =>
    simp only [putGo, List.singleton_append] at h
    injection h with h1 h2
    have := congrArg UInt8.toNat h1
    rw [UInt8.toNat_ofNat', UInt8.toNat_ofNat'] at this
    simp at hn hm
    exact ⟨by omega, h2⟩
  | succ f ih =>
    simp only [putGo] at h
    have hp : 128 ^ (f + 1) = 128 ^ f * 128 := Nat.pow_succ _ _
    by_cases h1 : n < 128 <;> by_cases h2 : m < 128
    · rw [if_pos h1, if_pos h2] at h
      simp only [List.singleton_append] at h
      injection h with e1 e2
      have := congrArg UInt8.toNat e1
      rw [UInt8.toNat_ofNat', UInt8.toNat_ofNat'] at this
      exact ⟨by omega, e2⟩
    · rw [if_pos h1, if_neg h2] at h
      simp only [List.singleton_append, List.cons_append] at h
      injection h with e1 e2
      have := congrArg UInt8.toNat e1
      rw [UInt8.toNat_ofNat', UInt8.toNat_ofNat'] at this
      omega
    · rw [if_neg h1, if_pos h2] at h
      simp only [List.singleton_append, List.cons_append] at h
      injection h with e1 e2
      have := congrArg UInt8.toNat e1
      rw [UInt8.toNat_ofNat', UInt8.toNat_ofNat'] at this
      omega
    · rw [if_neg h1, if_neg h2] at h
      simp only [List.cons_append] at h
      injection h with e1 e2
      have := congrArg UInt8.toNat e1
      rw [UInt8.toNat_ofNat', UInt8.toNat_ofNat'] at this
      obtain ⟨e3, e4⟩ := ih (by omega) (by omega) e2
      exact ⟨by omega, e4⟩
theorem putU_free {n m : Nat} {x y : List UInt8} (hn : n < 18446744073709551616) (hm : m < 18446744073709551616) (h : putU n ++ x = putU m ++ y) : n = m ∧ x = y :=
  putGo_free (f := 9) (by have : 2 * 128 ^ 9 = 18446744073709551616 := by decide
                          omega) (by have : 2 * 128 ^ 9 = 18446744073709551616 := by decide
                                     omega) h
theorem unzz_inj {a b : Int} (h : unzz a = unzz b) : a = b := by
  unfold unzz at h; split at h <;> split at h <;> omega
theorem mod_pows {b n m : Nat} (k : Nat) (h : ∀ j, j < k → n / b ^ j % b = m / b ^ j % b) : n % b ^ k = m % b ^ k := by
  induction k with
  | zero => simp [Nat.mod_one]
  | succ k ih => rw [Nat.mod_pow_succ, Nat.mod_pow_succ, ih (fun j hj => h j (by omega)), h k (by omega)]
theorem putF_inj {n m : Nat} (hn : n < 18446744073709551616) (hm : m < 18446744073709551616) (h : putF n = putF m) : n = m := by
  have key : ∀ j, j < 8 → n / 256 ^ j % 256 = m / 256 ^ j % 256 := by
    intro j hj
    have e := congrArg (fun l => l[7 - j]?) h
    simp only [putF, List.getElem?_map, List.getElem?_range (show 7 - j < 8 by omega), Option.map_some, Option.some.injEq] at e
    have e2 := congrArg UInt8.toNat e
    rw [UInt8.toNat_ofNat', UInt8.toNat_ofNat'] at e2
    have e3 : (2 : Nat) ^ (56 - 8 * (7 - j)) = 256 ^ j := by rw [show (256 : Nat) = 2 ^ 8 from rfl, ← Nat.pow_mul]; congr 1; omega
    rw [e3] at e2
    exact e2
  have := mod_pows (b := 256) 8 key
  rw [show (256 : Nat) ^ 8 = 18446744073709551616 from by decide, Nat.mod_eq_of_lt hn, Nat.mod_eq_of_lt hm] at this
  exact this
end Go.Proofs.YtodpdcflbnomgaaGreat

/- A word in sixteen digits, as a list. It speaks of no program. -/
namespace Go.Proofs.YtodpdcflbnomgaaGreat
set_option linter.unusedVariables false

def hexDigits : List UInt8 := [48, 49, 50, 51, 52, 53, 54, 55, 56, 57, 97, 98, 99, 100, 101, 102]
/-- The k highest of sixteen digits. -/
def hexGo (n : Nat) (k : Nat) : List UInt8 := (List.range k).map fun j => hexDigits.getD (n / 16 ^ (15 - j) % 16) 0
theorem hexGo_succ (n k : Nat) : hexGo n (k + 1) = hexGo n k ++ [hexDigits.getD (n / 16 ^ (15 - k) % 16) 0] := by
  unfold hexGo; rw [List.range_succ, List.map_append]; rfl
theorem hexGo_length (n k : Nat) : (hexGo n k).length = k := by simp [hexGo]
end Go.Proofs.YtodpdcflbnomgaaGreat
