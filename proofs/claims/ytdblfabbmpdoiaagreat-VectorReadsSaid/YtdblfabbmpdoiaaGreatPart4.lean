/- One step of ids.blend, in numbers. -/
import Derived.Test.YtdblfabbmpdoiaaGreatIdRw3
namespace Go.Proofs.YtdblfabbmpdoiaaGreat
open Go.RowKit
set_option linter.unusedVariables false
set_option linter.unusedSimpArgs false

/-- What is taken of L from (c, k) to to: n; L' is left. -/
def Took (L L' : List Tn) (c k to n : Int) : Prop :=
  (∃ x l, L = x :: l ∧ x.c = c ∧ x.f = k ∧ L' = cutL x l to ∧ n = x.n ∧ to ≤ x.t) ∨ (¬ ((hd L).c = c ∧ (hd L).f = k) ∧ L' = L ∧ n = 0)
/-- How much is still to come. -/
def mu (A B : List Tn) : Nat := 2 * (A.length + B.length) + if (hd A).c = (hd B).c ∧ (hd A).f = (hd B).f then 0 else 1
theorem Canon.hd_ok {A : List Tn} (h : Canon A) : (A = [] ∧ (hd A).c = 9007199254740992 ∧ (hd A).f = 0) ∨ ∃ x l, A = x :: l ∧ hd A = x ∧ x.ok = true := by
  cases A with
  | nil => exact .inl ⟨rfl, rfl, rfl⟩
  | cons x l => exact .inr ⟨x, l, rfl, rfl, h.ok⟩
theorem cutL_len (x : Tn) (l : List Tn) (to : Int) : (cutL x l to).length ≤ l.length + 1 := by
  unfold cutL; split <;> simp
theorem mu_le (A B : List Tn) : mu A B ≤ 2 * (A.length + B.length) + 1 := by
  unfold mu; split <;> omega
theorem mu_ge (A B : List Tn) : 2 * (A.length + B.length) ≤ mu A B := by
  unfold mu; split <;> omega
theorem mu_comm (A B : List Tn) : mu A B = mu B A := by
  unfold mu
  by_cases h : (hd A).c = (hd B).c ∧ (hd A).f = (hd B).f
  · rw [if_pos h, if_pos ⟨h.1.symm, h.2.symm⟩]; omega
  · rw [if_neg h, if_neg (fun e => h ⟨e.1.symm, e.2.symm⟩)]; omega
theorem cutL_pop (x : Tn) (l : List Tn) : cutL x l x.t = l := by unfold cutL; rw [if_pos rfl]
theorem cutL_cut {x : Tn} {l : List Tn} {to : Int} (h : to ≠ x.t) : cutL x l to = ⟨x.c, to, x.t, x.n⟩ :: l := by unfold cutL; rw [if_neg h]
theorem Took.cutt {A A' : List Tn} (hA : Canon A) {c k to n : Int} (h : Took A A' c k to n) (hk : k < to)
    (ha : ∀ x l, A = x :: l → ¬ (x.c = c ∧ x.f = k) → c < x.c ∨ (c = x.c ∧ to ≤ x.f)) : Cutt A A' c k to n := by
  rcases h with ⟨x, l, rfl, rfl, rfl, rfl, rfl, ht⟩ | ⟨hne, rfl, rfl⟩
  · exact Cutt.cut hA hk ht
  · refine Cutt.skip hA fun x l e => ha x l e ?_
    subst e; exact hne
/-- The first of two lists begins first, or both at once. -/
theorem step_first {A B A' B' : List Tn} (hA : Canon A) (hB : Canon B) (hne : A ≠ []) (hle : (hd A).c < (hd B).c ∨ ((hd A).c = (hd B).c ∧ (hd A).f ≤ (hd B).f)) {to n m : Int}
    (hto : to = min (chg (hd A) (hd A).c (hd A).f) (chg (hd B) (hd A).c (hd A).f)) (tA : Took A A' (hd A).c (hd A).f to n) (tB : Took B B' (hd A).c (hd A).f to m) :
    (1 ≤ (hd A).c ∧ (hd A).c ≤ 9007199254740991) ∧ (1 ≤ (hd A).f ∧ (hd A).f < to ∧ to ≤ 9007199254740992) ∧ Cutt A A' (hd A).c (hd A).f to n ∧ Cutt B B' (hd A).c (hd A).f to m ∧ mu A' B' < mu A B := by
  obtain ⟨x, l, rfl, hx, hxo⟩ : ∃ x l, A = x :: l ∧ hd A = x ∧ x.ok = true := by
    rcases hA.hd_ok with ⟨e, _⟩ | h
    · exact absurd e hne
    · exact h
  rw [hx] at hle hto tA tB ⊢
  have ho := Tn.ok_iff.1 hxo
  have hcA : chg x x.c x.f = x.t := by unfold chg; rw [if_neg (by simp), if_neg (by omega)]
  rw [hcA] at hto
  rcases hB.hd_ok with ⟨rfl, e1, e2⟩ | ⟨y, r, rfl, hy, hyo⟩
  · have hcB : chg (hd []) x.c x.f = 9007199254740992 := by unfold chg; rw [if_pos (by rw [e1]; omega)]
    rw [hcB] at hto
    have ht : to = x.t := by omega
    refine ⟨by omega, by omega, tA.cutt hA (by omega) (fun y l e h => by cases e; exact absurd ⟨rfl, rfl⟩ h), tB.cutt hB (by omega) (fun y l e _ => by cases e), ?_⟩
    rcases tA with ⟨x', l', e, _, _, rfl, _, _⟩ | ⟨h, _, _⟩
    · cases e
      rcases tB with ⟨y, r, e, _⟩ | ⟨_, rfl, _⟩
      · cases e
      · rw [ht, cutL_pop]
        have := mu_le l []
        have := mu_ge (x :: l) []
        simp only [List.length_cons, List.length_nil] at *; omega
    · exact absurd ⟨by rw [hx], by rw [hx]⟩ h
  · rw [hy] at hle hto
    have hoy := Tn.ok_iff.1 hyo
    by_cases hc : y.c = x.c
    · by_cases hf : y.f = x.f
      · have hcB : chg y x.c x.f = y.t := by unfold chg; rw [if_neg (by simp [hc]), if_neg (by omega)]
        rw [hcB] at hto
        refine ⟨by omega, by omega, tA.cutt hA (by omega) (fun y l e h => by cases e; exact absurd ⟨rfl, rfl⟩ h), tB.cutt hB (by omega) (fun z r e h => by cases e; exact absurd ⟨hc, hf⟩ h), ?_⟩
        rcases tA with ⟨x', l', e, _, _, rfl, _, _⟩ | ⟨h, _, _⟩
        · cases e
          rcases tB with ⟨y', r', e, _, _, rfl, _, _⟩ | ⟨h, _, _⟩
          · cases e
            have q := mu_ge (x :: l) (y :: r)
            have q2 := mu_le (cutL x l to) (cutL y r to)
            have p1 := cutL_len x l to
            have p2 := cutL_len y r to
            rcases (by omega : to = x.t ∨ to = y.t) with e | e
            · rw [e, cutL_pop] at q2
              rw [e, cutL_pop]
              rw [e] at p2
              simp only [List.length_cons] at *; omega
            · rw [e, cutL_pop] at q2
              rw [e, cutL_pop]
              rw [e] at p1
              simp only [List.length_cons] at *; omega
          · exact absurd ⟨by rw [hy]; exact hc, by rw [hy]; exact hf⟩ h
        · exact absurd ⟨by rw [hx], by rw [hx]⟩ h
      · have hcB : chg y x.c x.f = y.f := by unfold chg; rw [if_neg (by simp [hc]), if_pos (by omega)]
        rw [hcB] at hto
        refine ⟨by omega, by omega, tA.cutt hA (by omega) (fun y l e h => by cases e; exact absurd ⟨rfl, rfl⟩ h), tB.cutt hB (by omega) (fun z r e h => by cases e; exact .inr ⟨hc.symm, by omega⟩), ?_⟩
        rcases tA with ⟨x', l', e, _, _, rfl, _, _⟩ | ⟨h, _, _⟩
        · cases e
          rcases tB with ⟨y', r', e, _, g, _⟩ | ⟨_, rfl, _⟩
          · cases e; exact absurd g hf
          · by_cases e : to = x.t
            · rw [e, cutL_pop]
              have := mu_le l (y :: r)
              have := mu_ge (x :: l) (y :: r)
              have : mu (x :: l) (y :: r) = 2 * ((x :: l).length + (y :: r).length) + 1 := by
                unfold mu; rw [if_neg (fun g => hf (by have := g.2; rw [hx, hy] at this; exact this.symm))]
              simp only [List.length_cons] at *; omega
            · have e2 : to = y.f := by omega
              rw [cutL_cut e]
              have g1 : mu (x :: l) (y :: r) = 2 * ((x :: l).length + (y :: r).length) + 1 := by
                unfold mu; rw [if_neg (fun g => hf (by have := g.2; rw [hx, hy] at this; exact this.symm))]
              have g2 : mu (⟨x.c, to, x.t, x.n⟩ :: l) (y :: r) = 2 * ((x :: l).length + (y :: r).length) := by
                unfold mu; rw [if_pos ⟨by show x.c = y.c; exact hc.symm, by show to = y.f; exact e2⟩]; simp
              omega
        · exact absurd ⟨by rw [hx], by rw [hx]⟩ h
    · have hcB : chg y x.c x.f = 9007199254740992 := by unfold chg; rw [if_pos hc]
      rw [hcB] at hto
      have ht : to = x.t := by omega
      refine ⟨by omega, by omega, tA.cutt hA (by omega) (fun y l e h => by cases e; exact absurd ⟨rfl, rfl⟩ h), tB.cutt hB (by omega) (fun z r e h => by cases e; exact .inl (by omega)), ?_⟩
      rcases tA with ⟨x', l', e, _, _, rfl, _, _⟩ | ⟨h, _, _⟩
      · cases e
        rcases tB with ⟨y', r', e, g, _⟩ | ⟨_, rfl, _⟩
        · cases e; exact absurd g hc
        · rw [ht, cutL_pop]
          have g1 : mu (x :: l) (y :: r) = 2 * ((x :: l).length + (y :: r).length) + 1 := by
            unfold mu; rw [if_neg (fun g => hc (by have := g.1; rw [hx, hy] at this; exact this.symm))]
          have := mu_le l (y :: r)
          simp only [List.length_cons] at *; omega
      · exact absurd ⟨by rw [hx], by rw [hx]⟩ h
end Go.Proofs.YtdblfabbmpdoiaaGreat

/- One step of ids.blend, whichever list begins first. -/
namespace Go.Proofs.YtdblfabbmpdoiaaGreat
open Go.RowKit
set_option linter.unusedVariables false
set_option linter.unusedSimpArgs false

theorem lessI_iff {a b c d : Int} : lessI a b c d = true ↔ a < c ∨ (a = c ∧ b < d) := by
  unfold lessI
  split
  · rename_i h; simp [h]
  · rename_i h; simp [h]
theorem step_both {p : Int → Int → Int} (hp : Pick p) {A0 B0 out A B A' B' : List Tn} (h : Blend p A0 B0 out A B) (hne : ¬ (A = [] ∧ B = [])) {c k to n m : Int}
    (hat : (lessI (hd B).c (hd B).f (hd A).c (hd A).f = true ∧ c = (hd B).c ∧ k = (hd B).f) ∨ (lessI (hd B).c (hd B).f (hd A).c (hd A).f = false ∧ c = (hd A).c ∧ k = (hd A).f))
    (hto : to = min (chg (hd A) c k) (chg (hd B) c k)) (tA : Took A A' c k to n) (tB : Took B B' c k to m) :
    Blend p A0 B0 (lay out ⟨c, k, to, p n m⟩) A' B' ∧ mu A' B' < mu A B := by
  rcases hat with ⟨hl, rfl, rfl⟩ | ⟨hl, rfl, rfl⟩
  · have hl' := lessI_iff.1 hl
    have hB : B ≠ [] := by
      rintro rfl
      rcases h.ca.hd_ok with ⟨rfl, e1, e2⟩ | ⟨x, l, rfl, hx, hxo⟩
      · exact hne ⟨rfl, rfl⟩
      · have ho := Tn.ok_iff.1 hxo
        rw [hx] at hl'
        simp only [hd] at hl'; omega
    obtain ⟨s1, s2, s3, s4, s5⟩ := step_first h.cb h.ca hB (by omega) (by omega) tB tA
    refine ⟨h.step hp s1 s2 (.inr ?_) s4 s3, by rw [mu_comm A' B', mu_comm A B]; exact s5⟩
    rcases h.cb.hd_ok with ⟨e, _⟩ | ⟨x, l, e, hx, _⟩
    · exact absurd e hB
    · exact ⟨x, l, e, by rw [hx], by rw [hx]⟩
  · have hl' : ¬ _ := fun e => by rw [lessI_iff.2 e] at hl; cases hl
    have hA : A ≠ [] := by
      rintro rfl
      rcases h.cb.hd_ok with ⟨rfl, e1, e2⟩ | ⟨x, l, rfl, hx, hxo⟩
      · exact hne ⟨rfl, rfl⟩
      · have ho := Tn.ok_iff.1 hxo
        rw [hx] at hl'
        simp only [hd] at hl'; omega
    obtain ⟨s1, s2, s3, s4, s5⟩ := step_first h.ca h.cb hA (by omega) hto tA tB
    refine ⟨h.step hp s1 s2 (.inl ?_) s3 s4, s5⟩
    rcases h.ca.hd_ok with ⟨e, _⟩ | ⟨x, l, e, hx, _⟩
    · exact absurd e hA
    · exact ⟨x, l, e, by rw [hx], by rw [hx]⟩
theorem take_any (W0 : World) (L : List Tn) (r : Nat) (c k to : Int) (w : World) (h : Rw W0 w r L) (t0 : Touch (fun _ => False) W0 w) (hl : L.length ≤ 1073741824) (hc : c ≤ 9007199254740991) (hto : to ≤ chg (hd L) c k) :
    Calls Tryz.prog 86 #[rp r, idV c k, u64 to] w fun e w' => ∃ L' n, e = .returned (u64 n) ∧ Took L L' c k to n ∧ Rw W0 w' r L' ∧ Touch (fun k => k = r) w w' := by
  by_cases hs : (hd L).c = c ∧ (hd L).f = k
  · cases L with
    | nil => simp only [hd] at hs; omega
    | cons x l =>
      obtain ⟨rfl, rfl⟩ := hs
      refine (take_yes W0 x l r to w h t0 (by simp at hl; omega)).mono ?_
      rintro e w' ⟨rfl, h1, h2⟩
      refine ⟨_, _, rfl, .inl ⟨x, l, rfl, rfl, rfl, rfl, rfl, ?_⟩, h1, h2⟩
      simp only [hd] at hto
      unfold chg at hto
      rw [if_neg (by simp), if_neg (by omega)] at hto
      exact hto
  · obtain ⟨rv, hcl, hsl⟩ := h.ex
    refine (take_no (hd L) rv r c k to w hcl hs).mono ?_
    rintro e w' ⟨rfl, h2⟩
    exact ⟨L, 0, rfl, .inr ⟨hs, rfl, rfl⟩, h.on h2 id, h2.mono fun _ _ e => e.elim⟩
theorem Took.len {L L' : List Tn} {c k to n : Int} (h : Took L L' c k to n) : L'.length ≤ L.length := by
  rcases h with ⟨x, l, rfl, _, _, rfl, _⟩ | ⟨_, rfl, _⟩
  · exact cutL_len x l to
  · exact Nat.le_refl _
end Go.Proofs.YtdblfabbmpdoiaaGreat
