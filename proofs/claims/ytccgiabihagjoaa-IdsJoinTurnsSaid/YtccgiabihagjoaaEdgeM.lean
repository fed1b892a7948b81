/- What turns tell between edges that are next to one another. -/
import Derived.Test.YtccgiabihagjoaaIdM
namespace Go.Proofs.Ytccgiabihagjoaa
set_option linter.unusedVariables false
set_option linter.unusedSimpArgs false

/-- No right turn of client c begins or ends between p and q. -/
def Flat (l : List Tn) (c p q : Int) : Prop := ∀ x ∈ l, x.ok = true → x.c = c → (x.f ≤ p ∨ q ≤ x.f) ∧ (x.t ≤ p ∨ q ≤ x.t)
theorem Flat.turnOf {l : List Tn} {c p q : Int} (h : Flat l c p q) {k : Int} (h1 : p ≤ k) (h2 : k < q) : turnOf l c k = turnOf l c p := by
  induction l with
  | nil => rfl
  | cons x l ih =>
    have hi := ih fun y hy => h y (List.mem_cons_of_mem _ hy)
    rw [Go.Proofs.Ytccgiabihagjoaa.turnOf, Go.Proofs.Ytccgiabihagjoaa.turnOf, hi]
    by_cases ho : x.ok = true
    · have e : x.has c k = x.has c p := by
        by_cases hc : x.c = c
        · have hq := h x List.mem_cons_self ho hc
          by_cases g : x.has c p = true
          · rw [g]
            have := Tn.has_iff.1 g
            exact Tn.has_iff.2 (by omega)
          · have g2 : x.has c p = false := by simpa using g
            rw [g2]
            have := Tn.has_not.1 g2
            exact Tn.has_not.2 (by omega)
        · rw [Tn.has_not.2 fun g => hc g.1, Tn.has_not.2 fun g => hc g.1]
      rw [e]
    · simp [ho]
theorem turnOf_none {l : List Tn} {c k : Int} (h : ∀ x ∈ l, x.ok = true → x.c = c → k < x.f ∨ x.t ≤ k) : turnOf l c k = 0 := by
  induction l with
  | nil => rfl
  | cons x l ih =>
    rw [turnOf, ih fun y hy => h y (List.mem_cons_of_mem _ hy)]
    by_cases ho : x.ok = true
    · have e : x.has c k = false := Tn.has_not.2 fun g => by
        have := h x List.mem_cons_self ho g.1
        omega
      rw [e]; simp
    · simp [ho]
/-- What lies behind what ended goes on with it, if it touches it and is alike. -/
theorem follows_not {a b : Tn} (h : Bef a b) : follows a b = false ↔ a.c = b.c ∧ a.t = b.f ∧ a.n = b.n := by
  constructor
  · intro g
    have : ¬ follows a b = true := by rw [g]; simp
    rw [follows_iff] at this
    unfold Bef at h
    omega
  · intro g
    by_cases q : follows a b = true
    · rw [follows_iff] at q; omega
    · simpa using q
end Go.Proofs.Ytccgiabihagjoaa
