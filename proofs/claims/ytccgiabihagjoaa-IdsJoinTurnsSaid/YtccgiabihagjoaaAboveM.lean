/- Pieces laid from edge to edge, client by client. -/
import Derived.Test.YtccgiabihagjoaaEdgeM
namespace Go.Proofs.Ytccgiabihagjoaa
set_option linter.unusedVariables false
set_option linter.unusedSimpArgs false

/-- out tells F up to client c's clock p, and nothing behind it. -/
structure Upto (F : Int → Int → Int) (out : List Tn) (c p : Int) : Prop where
  canon : Canon out
  bef : ∀ y ∈ out, y.c < c ∨ (y.c = c ∧ y.t ≤ p)
  vals : ∀ d k, val out d k = if d < c ∨ (d = c ∧ k < p) then F d k else 0
theorem Upto.start {F : Int → Int → Int} {c p : Int} (h1 : ∀ d k, d < c → F d k = 0) (h2 : ∀ k, k < p → F c k = 0) : Upto F [] c p := by
  refine ⟨trivial, fun y hy => (by cases hy), fun d k => ?_⟩
  show (0 : Int) = _
  split
  · rename_i h
    rcases h with h | ⟨rfl, h⟩
    · rw [h1 d k h]
    · rw [h2 k h]
  · rfl
theorem Upto.step {F : Int → Int → Int} {out : List Tn} {c p q : Int} (h : Upto F out c p) (hpq : p < q) (hf : ∀ k, p ≤ k → k < q → F c k = F c p) (ht : F c p ≠ 0 → (⟨c, p, q, F c p⟩ : Tn).ok = true) : Upto F (lay out ⟨c, p, q, F c p⟩) c q := by
  obtain ⟨g1, g2, g3⟩ := Canon.lay (t := ⟨c, p, q, F c p⟩) h.canon (fun y hy => h.bef y hy) ht
  refine ⟨g1, fun y hy => ?_, fun d k => ?_⟩
  · rcases g3 y hy with g | g
    · have := h.bef y g; omega
    · exact .inr ⟨g.1, Int.le_of_eq g.2⟩
  · rw [g2, h.vals]
    by_cases hh : (⟨c, p, q, F c p⟩ : Tn).has d k = true
    · have e : c = d ∧ p ≤ k ∧ k < q := Tn.has_iff.1 hh
      rw [if_pos hh, if_neg (by omega), if_pos (by omega), ← e.1, hf k e.2.1 e.2.2]
      show 0 + F c p = F c p
      omega
    · have e : ¬ (c = d ∧ p ≤ k ∧ k < q) := fun g => hh (Tn.has_iff.2 g)
      rw [if_neg hh, Int.add_zero]
      by_cases a : d < c ∨ (d = c ∧ k < p)
      · rw [if_pos a, if_pos (by omega)]
      · rw [if_neg a, if_neg (by omega)]
theorem Upto.next {F : Int → Int → Int} {out : List Tn} {c p c2 p2 : Int} (h : Upto F out c p) (he : ∀ k, p ≤ k → F c k = 0) (hc : c < c2) (hm : ∀ d k, c < d → d < c2 → F d k = 0) (hb : ∀ k, k < p2 → F c2 k = 0) : Upto F out c2 p2 := by
  refine ⟨h.canon, fun y hy => ?_, fun d k => ?_⟩
  · have := h.bef y hy; omega
  · rw [h.vals]
    by_cases a : d < c ∨ (d = c ∧ k < p)
    · rw [if_pos a, if_pos (by omega)]
    · rw [if_neg a]
      split
      · rename_i b
        by_cases e : d = c
        · subst e; rw [he k (by omega)]
        · by_cases e2 : d = c2
          · subst e2; rw [hb k (by omega)]
          · rw [hm d k (by omega) (by omega)]
      · rfl
theorem Upto.done {F : Int → Int → Int} {out : List Tn} {c p : Int} (h : Upto F out c p) (he : ∀ k, p ≤ k → F c k = 0) (hr : ∀ d k, c < d → F d k = 0) : Form out F := by
  refine ⟨h.canon, fun d k => ?_⟩
  rw [h.vals]
  split
  · rfl
  · rename_i a
    by_cases e : d = c
    · subst e; rw [he k (by omega)]
    · rw [hr d k (by omega)]
end Go.Proofs.Ytccgiabihagjoaa
