/- The order of values is an order. It speaks of no program. -/
import Derived.Test.YtphcnjbiojdalaaGreatDoorPart3
namespace Go.Proofs.YtphcnjbiojdalaaGreatDoor
open Go.RowKit
set_option linter.unusedVariables false

/-- Bytes as one of three: -1, 0, 1. -/
def lexI : List UInt8 → List UInt8 → Int
  | [], [] => 0
  | [], _ :: _ => -1
  | _ :: _, [] => 1
  | a :: x, b :: y => if a.toNat < b.toNat then -1 else if b.toNat < a.toNat then 1 else lexI x y
theorem lexI_spec (a b : List UInt8) : Op.bytesLess a b = decide (lexI a b = -1) ∧ (a == b) = decide (lexI a b = 0) ∧ (lexI a b = -1 ∨ lexI a b = 0 ∨ lexI a b = 1) := by
  induction a generalizing b with
  | nil => cases b <;> simp [Op.bytesLess, lexI]
  | cons x r ih =>
    cases b with
    | nil => simp [Op.bytesLess, lexI]
    | cons y s =>
      obtain ⟨h1, h2, h3⟩ := ih s
      simp only [Op.bytesLess]
      have hlt : (x < y) ↔ x.toNat < y.toNat := UInt8.lt_iff_toNat_lt
      have heq : (x = y) ↔ x.toNat = y.toNat := UInt8.toNat_inj.symm
      by_cases c1 : x.toNat < y.toNat
      · have e : lexI (x :: r) (y :: s) = -1 := by simp only [lexI]; rw [if_pos c1]
        have e1 : (decide (x < y)) = true := decide_eq_true (hlt.2 c1)
        have e2 : (x :: r == y :: s) = false := by
          rw [beq_eq_false_iff_ne]; intro e; cases e; omega
        rw [e, e1, e2]; simp
      · have e1 : (decide (x < y)) = false := decide_eq_false (fun h => c1 (hlt.1 h))
        by_cases c2 : y.toNat < x.toNat
        · have e : lexI (x :: r) (y :: s) = 1 := by simp only [lexI]; rw [if_neg c1, if_pos c2]
          have e2 : (x == y) = false := by rw [beq_eq_false_iff_ne]; intro e; rw [heq] at e; omega
          have e3 : (x :: r == y :: s) = false := by rw [beq_eq_false_iff_ne]; intro e; cases e; omega
          rw [e, e1, e2, e3]; simp
        · have e : lexI (x :: r) (y :: s) = lexI r s := by simp only [lexI]; rw [if_neg c1, if_neg c2]
          have e2 : x = y := heq.2 (by omega)
          subst e2
          have e3 : (x :: r == x :: s) = (r == s) := by simp
          rw [e, e1, e3, h1, h2]; simp [h3]
theorem refText_lex (a b : ByteArray) : refText a b = lexI a.toList b.toList := by
  obtain ⟨h1, h2, h3⟩ := lexI_spec a.toList b.toList
  unfold refText
  rw [h1, h2]
  rcases h3 with h | h | h <;> rw [h] <;> decide
theorem lexI_anti (a b : List UInt8) : lexI a b = -lexI b a := by
  induction a generalizing b with
  | nil => cases b <;> simp [lexI]
  | cons x r ih =>
    cases b with
    | nil => simp [lexI]
    | cons y s =>
      simp only [lexI]
      by_cases c1 : x.toNat < y.toNat
      · rw [if_pos c1, if_neg (by omega), if_pos c1]
      · rw [if_neg c1]
        by_cases c2 : y.toNat < x.toNat
        · rw [if_pos c2, if_pos c2]; rfl
        · rw [if_neg c2, if_neg c2, if_neg c1, ih]
theorem lexI_range (a b : List UInt8) : lexI a b = -1 ∨ lexI a b = 0 ∨ lexI a b = 1 := (lexI_spec a b).2.2
theorem lexI_trans (a b c : List UInt8) (h1 : lexI a b ≤ 0) (h2 : lexI b c ≤ 0) : lexI a c ≤ 0 ∧ (lexI a b = -1 ∨ lexI b c = -1 → lexI a c = -1) := by
  induction a generalizing b c with
  | nil =>
    cases c with
    | nil =>
      cases b with
      | nil => simp [lexI]
      | cons y s => simp [lexI] at h2
    | cons z t => simp [lexI]
  | cons x r ih =>
    cases b with
    | nil => simp [lexI] at h1
    | cons y s =>
      cases c with
      | nil => simp [lexI] at h2
      | cons z t =>
        simp only [lexI] at *
        by_cases c1 : x.toNat < y.toNat
        · by_cases c3 : y.toNat < z.toNat
          · rw [if_pos (show x.toNat < z.toNat by omega)]; simp
          · rw [if_neg c3] at h2
            by_cases c4 : z.toNat < y.toNat
            · rw [if_pos c4] at h2; omega
            · rw [if_pos (show x.toNat < z.toNat by omega)]; simp
        · rw [if_neg c1] at h1
          by_cases c2 : y.toNat < x.toNat
          · rw [if_pos c2] at h1; omega
          · rw [if_neg c2] at h1
            by_cases c3 : y.toNat < z.toNat
            · rw [if_pos (show x.toNat < z.toNat by omega)]; simp
            · rw [if_neg c3] at h2
              by_cases c4 : z.toNat < y.toNat
              · rw [if_pos c4] at h2; omega
              · rw [if_neg c4] at h2
                rw [if_neg c1, if_neg c2, if_neg c3, if_neg c4, if_neg (show ¬ x.toNat < z.toNat by omega), if_neg (show ¬ z.toNat < x.toNat by omega)]
                exact ih s t h1 h2

/-- Four questions, the first that parts. -/
theorem refCmp_cases (a b : V) : refCmp a b = if a.k < b.k then -1 else if b.k < a.k then 1 else if a.n < b.n then -1 else if b.n < a.n then 1 else if refOrder a.f < refOrder b.f then -1 else if refOrder b.f < refOrder a.f then 1 else lexI a.s.toList b.s.toList := by
  unfold refCmp refInts
  rw [refText_lex]
  by_cases c1 : a.k < b.k
  · simp [c1]
  by_cases c2 : b.k < a.k
  · simp [c1, c2]
  by_cases c3 : a.n < b.n
  · simp [c1, c2, c3]
  by_cases c4 : b.n < a.n
  · simp [c1, c2, c3, c4]
  by_cases c5 : refOrder a.f < refOrder b.f
  · simp [c1, c2, c3, c4, c5]
  by_cases c6 : refOrder b.f < refOrder a.f
  · simp [c1, c2, c3, c4, c5, c6]
  simp [c1, c2, c3, c4, c5, c6]
theorem refCmp_range (a b : V) : refCmp a b = -1 ∨ refCmp a b = 0 ∨ refCmp a b = 1 := by
  rw [refCmp_cases]
  have := lexI_range a.s.toList b.s.toList
  generalize lexI a.s.toList b.s.toList = l at *
  repeat' split
  all_goals omega
theorem refCmp_anti (a b : V) : refCmp a b = -refCmp b a := by
  rw [refCmp_cases, refCmp_cases b a, lexI_anti]
  generalize lexI b.s.toList a.s.toList = l
  repeat' split
  all_goals omega
theorem refCmp_self (a : V) : refCmp a a = 0 := by
  have := refCmp_anti a a; omega
theorem refCmp_trans (a b c : V) (h1 : refCmp a b ≤ 0) (h2 : refCmp b c ≤ 0) : refCmp a c ≤ 0 := by
  rw [refCmp_cases] at *
  have ht := lexI_trans a.s.toList b.s.toList c.s.toList
  generalize lexI a.s.toList b.s.toList = l1 at *
  generalize lexI b.s.toList c.s.toList = l2 at *
  generalize lexI a.s.toList c.s.toList = l3 at *
  generalize refOrder a.f = fa at *
  generalize refOrder b.f = fb at *
  generalize refOrder c.f = fc at *
  generalize a.k = ka at *
  generalize b.k = kb at *
  generalize c.k = kc at *
  generalize a.n = na at *
  generalize b.n = nb at *
  generalize c.n = nc at *
  by_cases x1 : ka < kc
  · rw [if_pos x1]; omega
  rw [if_neg x1]
  by_cases p1 : ka < kb
  · by_cases q1 : kb < kc
    · omega
    · rw [if_neg q1] at h2
      rw [if_pos (by omega)] at h2; omega
  rw [if_neg p1] at h1
  by_cases p2 : kb < ka
  · rw [if_pos p2] at h1; omega
  rw [if_neg p2] at h1
  obtain rfl : ka = kb := by omega
  rw [if_neg x1] at h2
  by_cases q2 : kc < ka
  · rw [if_pos q2] at h2; omega
  rw [if_neg q2] at h2 ⊢
  by_cases x3 : na < nc
  · rw [if_pos x3]; omega
  rw [if_neg x3]
  by_cases p3 : na < nb
  · by_cases q3 : nb < nc
    · omega
    · rw [if_neg q3] at h2
      rw [if_pos (by omega)] at h2; omega
  rw [if_neg p3] at h1
  by_cases p4 : nb < na
  · rw [if_pos p4] at h1; omega
  rw [if_neg p4] at h1
  obtain rfl : na = nb := by omega
  rw [if_neg x3] at h2
  by_cases q4 : nc < na
  · rw [if_pos q4] at h2; omega
  rw [if_neg q4] at h2 ⊢
  by_cases x5 : fa < fc
  · rw [if_pos x5]; omega
  rw [if_neg x5]
  by_cases p5 : fa < fb
  · by_cases q5 : fb < fc
    · omega
    · rw [if_neg q5] at h2
      rw [if_pos (by omega)] at h2; omega
  rw [if_neg p5] at h1
  by_cases p6 : fb < fa
  · rw [if_pos p6] at h1; omega
  rw [if_neg p6] at h1
  obtain rfl : fa = fb := by omega
  rw [if_neg x5] at h2
  by_cases q6 : fc < fa
  · rw [if_pos q6] at h2; omega
  rw [if_neg q6] at h2 ⊢
  exact (ht h1 h2).1
end Go.Proofs.YtphcnjbiojdalaaGreatDoor
