/- One step of ids.blend, in numbers. -/
import Derived.Test.YtdblfabbmpdoiaaGreatIdRw3
namespace Go.Proofs.YtdblfabbmpdoiaaGreat
open Go.RowKit
set_option linter.unusedVariables false
set_option linter.unusedSimpArgs false

/-- What is taken of L from (c, k) to to: n; L' is left. -/
def Took (L L' : List Tn) (c k to n : Int) : Prop :=
  (∃ x l, L = x :: l ∧ x.c = c ∧ x.f = k ∧ L' = cutL x l to ∧ n = x.n ∧ to ≤ x.t) ∨ (¬ ((hd L).c = c ∧ (hd L).f = k) ∧ L' = L ∧ n = 0)
/-- How much is still to come. -/
def mu (A B : List Tn) : Nat := 2 * (A.length + B.length) + if (hd A).c = (hd B).c ∧ (hd A).f = (hd B).f then 0 else 1
theorem Canon.hd_ok {A : List Tn} (h : Canon A) : (A = [] ∧ (hd A).c = 9007199254740992 ∧ (hd A).f = 0) ∨ ∃ x l, A = x :: l ∧ hd A = x ∧ x.ok = true := by
  cases A with
  | nil => exact .inl ⟨rfl, rfl, rfl⟩
  | cons x l => exact .inr ⟨x, l, rfl, rfl, h.ok⟩
theorem cutL_len (x : Tn) (l : List Tn) (to : Int) : (cutL x l to).length ≤ l.length + 1 := by
  unfold cutL; split <;> simp
theorem mu_le (A B : List Tn) : mu A B ≤ 2 * (A.length + B.length) + 1 := by
  unfold mu; split <;> omega
theorem mu_ge (A B : List Tn) : 2 * (A.length + B.length) ≤ mu A B := by
  unfold mu; split <;> omega
theorem mu_comm (A B : List Tn) : mu A B = mu B A := by
  unfold mu
  by_cases h : (hd A).c = (hd B).c ∧ (hd A).f = (hd B).f
  · rw [if_pos h, if_pos ⟨h.1.symm, h.2.symm⟩]; omega
  · rw [if_neg h, if_neg (fun e => h ⟨e.1.symm, e.2.symm⟩)]; omega
theorem cutL_pop (x : Tn) (l : List Tn) : cutL x l x.t = l := by unfold cutL; rw [if_pos rfl]
theorem cutL_cut {x : Tn} {l : List Tn} {to : Int} (h : to ≠ x.t) : cutL x l to = ⟨x.c, to, x.t, x.n⟩ :: l := by unfold cutL; rw [if_neg h]
theorem Took.cutt {A A' : List Tn} (hA : Canon A) {c k to n : Int} (h : Took A A' c k to n) (hk : k < to)
    (ha : ∀ x l, A = x :: l → ¬ (x.c = c ∧ x.f = k) → c < x.c ∨ (c = x.c ∧ to ≤ x.f)) : Cutt A A' c k to n := by
  rcases h with ⟨x, l, rfl, rfl, rfl, rfl, rfl, ht⟩ | ⟨hne, rfl, rfl⟩
  · exact Cutt.cut hA hk ht
  · refine Cutt.skip hA fun x l e => ha x l e ?_
    subst e; exact hne
/-- The first of two lists begins first, or both at once. -/
theorem step_first {A B A' B' : List Tn} (hA : Canon A) (hB : Canon B) (hne : A ≠ []) (hle : (hd A).c < (hd B).c ∨ ((hd A).c = (hd B).c ∧ (hd A).f ≤ (hd B).f)) {to n m : Int}
    (hto : to = min (chg (hd A) (hd A).c (hd A).f) (chg (hd B) (hd A).c (hd A).f)) (tA : Took A A' (hd A).c (hd A).f to n) (tB : Took B B' (hd A).c (hd A).f to m) :
    (1 ≤ (hd A).c ∧ (hd A).c ≤ 9007199254740991) ∧ (1 ≤ (hd A).f ∧ (hd A).f < to ∧ to ≤ 9007199254740992) ∧ Cutt A A' (hd A).c (hd A).f to n ∧ Cutt B B' (hd A).c (hd A).f to m ∧ mu A' B' < mu A B := by
  obtain ⟨x, l, rfl, hx, hxo⟩ : ∃ x l, A = x :: l ∧ hd A = x ∧ x.ok = true := by
    rcases hA.hd_ok with ⟨e, _⟩ | h
    · exact absurd e hne
    · exact h
  rw [hx] at hle hto tA tB ⊢
  have ho := Tn.ok_iff.1 hxo
  have hcA : chg x x.c x.f = x.t := by unfold chg; rw [if_neg (by simp), if_neg (by omega)]
  rw [hcA] at hto
  rcases hB.hd_ok with ⟨rfl, e1, e2⟩ | ⟨y, r, rfl, hy, hyo⟩
  · have hcB : chg (hd []) x.c x.f = 9007199254740992 := by unfold chg; rw [if_pos (by rw [e1]; omega)]
    rw [hcB] at hto
    have ht : to = x.t := by omega
    refine ⟨by omega, by omega, tA.cutt hA (by omega) (fun y l e h => by cases e; exact absurd ⟨rfl, rfl⟩ h), tB.cutt hB (by omega) (fun y l e _ => by cases e), ?_⟩
    rcases tA with ⟨x', l', e, _, _, rfl, _, _⟩ | ⟨h, _, _⟩
    · cases e
      rcases tB with ⟨y, r, e, _⟩ | ⟨_, rfl, _⟩
      · cases e
      · rw [ht, cutL_pop]
        have := mu_le l []
        have := mu_ge (x :: l) []
        simp only [List.length_cons, List.length_nil] at *; omega
    · exact absurd ⟨by rw [hx], by rw [hx]⟩ h
  · rw [hy] at hle hto
    have hoy := Tn.ok_iff.1 hyo
    by_cases hc : y.c = x.c
    · by_cases hf : y.f = x.f
      · have hcB : chg y x.c x.f = y.t := by unfold chg; rw [if_neg (by simp [hc]), if_neg (by omega)]
        rw [hcB] at hto
        refine ⟨by omega, by omega, tA.cutt hA (by omega) (fun y l e h => by cases e; exact absurd ⟨rfl, rfl⟩ h), tB.cutt hB (by omega) (fun z r e h => by cases e; exact absurd ⟨hc, hf⟩ h), ?_⟩
        rcases tA with ⟨x', l', e, _, _, rfl, _, _⟩ | ⟨h, _, _⟩
        · cases e
          rcases tB with ⟨y', r', e, _, _, rfl, _, _⟩ | ⟨h, _, _⟩
          · cases e
            have q := mu_ge (x :: l) (y :: r)
            have q2 := mu_le (cutL x l to) (cutL y r to)
            have p1 := cutL_len x l to
            have p2 := cutL_len y r to
            rcases (by omega : to = x.t ∨ to = y.t) with e | e
            · rw [e, cutL_pop] at q2
              rw [e, cutL_pop]
              rw [e] at p2
              simp only [List.length_cons] at *; omega
            · rw [e, cutL_pop] at q2
              rw [e, cutL_pop]
              rw [e] at p1
              simp only [List.length_cons] at *; omega
          · exact absurd ⟨by rw [hy]; exact hc, by rw [hy]; exact hf⟩ h
        · exact absurd ⟨by rw [hx], by rw [hx]⟩ h
      · have hcB : chg y x.c x.f = y.f := by unfold chg; rw [if_neg (by simp [hc]), if_pos (by omega)]
        rw [hcB] at hto
        refine ⟨by omega, by omega, tA.cutt hA (by omega) (fun y l e h => by cases e; exact absurd ⟨rfl, rfl⟩ h), tB.cutt hB (by omega) (fun z r e h => by cases e; exact .inr ⟨hc.symm, by omega⟩), ?_⟩
        rcases tA with ⟨x', l', e, _, _, rfl, _, _⟩ | ⟨h, _, _⟩
        · cases e
          rcases tB with ⟨y', r', e, _, g, _⟩ | ⟨_, rfl, _⟩
          · cases e; exact absurd g hf
          · by_cases e : to = x.t
            · rw [e, cutL_pop]
              have := mu_le l (y :: r)
              have := mu_ge (x :: l) (y :: r)
              have : mu (x :: l) (y :: r) = 2 * ((x :: l).length + (y :: r).length) + 1 := by
                unfold mu; rw [if_neg (fun g => hf (by have := g.2; rw [hx, hy] at this; exact this.symm))]
              simp only [List.length_cons] at *; omega
            · have e2 : to = y.f := by omega
              rw [cutL_cut e]
              have g1 : mu (x :: l) (y :: r) = 2 * ((x :: l).length + (y :: r).length) + 1 := by
                unfold mu; rw [if_neg (fun g => hf (by have := g.2; rw [hx, hy] at this; exact this.symm))]
              have g2 : mu (⟨x.c, to, x.t, x.n⟩ :: l) (y :: r) = 2 * ((x :: l).length + (y :: r).length) := by
                unfold mu; rw [if_pos ⟨by show x.c = y.c; exact hc.symm, by show to = y.f; exact e2⟩]; simp
              omega
        · exact absurd ⟨by rw [hx], by rw [hx]⟩ h
    · have hcB : chg y x.c x.f = 9007199254740992 := by unfold chg; rw [if_pos hc]
      rw [hcB] at hto
      have ht : to = x.t := by omega
      refine ⟨by omega, by omega, tA.cutt hA (by omega) (fun y l e h => by cases e; exact absurd ⟨rfl, rfl⟩ h), tB.cutt hB (by omega) (fun z r e h => by cases e; exact .inl (by omega)), ?_⟩
      rcases tA with ⟨x', l', e, _, _, rfl, _, _⟩ | ⟨h, _, _⟩
      · cases e
        rcases tB with ⟨y', r', e, g, _⟩ | ⟨_, rfl, _⟩
        · cases e; exact absurd g hc
        · rw [ht, cutL_pop]
          have g1 : mu (x :: l) (y :: r) = 2 * ((x :: l).length + (y :: r).length) + 1 := by
            unfold mu; rw [if_neg (fun g => hc (by have := g.1; rw [hx, hy] at this; exact this.symm))]
          have := mu_le l (y :: r)
          simp only [List.length_cons] at *; omega
      · exact absurd ⟨by rw [hx], by rw [hx]⟩ h
end Go.Proofs.YtdblfabbmpdoiaaGreat
