/- One step of ids.blend, whichever list begins first. -/
import Derived.Test.YtdblfabbmpdoiaaGreatIdStep
namespace Go.Proofs.YtdblfabbmpdoiaaGreat
open Go.RowKit
set_option linter.unusedVariables false
set_option linter.unusedSimpArgs false

theorem lessI_iff {a b c d : Int} : lessI a b c d = true ↔ a < c ∨ (a = c ∧ b < d) := by
  unfold lessI
  split
  · rename_i h; simp [h]
  · rename_i h; simp [h]
theorem step_both {p : Int → Int → Int} (hp : Pick p) {A0 B0 out A B A' B' : List Tn} (h : Blend p A0 B0 out A B) (hne : ¬ (A = [] ∧ B = [])) {c k to n m : Int}
    (hat : (lessI (hd B).c (hd B).f (hd A).c (hd A).f = true ∧ c = (hd B).c ∧ k = (hd B).f) ∨ (lessI (hd B).c (hd B).f (hd A).c (hd A).f = false ∧ c = (hd A).c ∧ k = (hd A).f))
    (hto : to = min (chg (hd A) c k) (chg (hd B) c k)) (tA : Took A A' c k to n) (tB : Took B B' c k to m) :
    Blend p A0 B0 (lay out ⟨c, k, to, p n m⟩) A' B' ∧ mu A' B' < mu A B := by
  rcases hat with ⟨hl, rfl, rfl⟩ | ⟨hl, rfl, rfl⟩
  · have hl' := lessI_iff.1 hl
    have hB : B ≠ [] := by
      rintro rfl
      rcases h.ca.hd_ok with ⟨rfl, e1, e2⟩ | ⟨x, l, rfl, hx, hxo⟩
      · exact hne ⟨rfl, rfl⟩
      · have ho := Tn.ok_iff.1 hxo
        rw [hx] at hl'
        simp only [hd] at hl'; omega
    obtain ⟨s1, s2, s3, s4, s5⟩ := step_first h.cb h.ca hB (by omega) (by omega) tB tA
    refine ⟨h.step hp s1 s2 (.inr ?_) s4 s3, by rw [mu_comm A' B', mu_comm A B]; exact s5⟩
    rcases h.cb.hd_ok with ⟨e, _⟩ | ⟨x, l, e, hx, _⟩
    · exact absurd e hB
    · exact ⟨x, l, e, by rw [hx], by rw [hx]⟩
  · have hl' : ¬ _ := fun e => by rw [lessI_iff.2 e] at hl; cases hl
    have hA : A ≠ [] := by
      rintro rfl
      rcases h.cb.hd_ok with ⟨rfl, e1, e2⟩ | ⟨x, l, rfl, hx, hxo⟩
      · exact hne ⟨rfl, rfl⟩
      · have ho := Tn.ok_iff.1 hxo
        rw [hx] at hl'
        simp only [hd] at hl'; omega
    obtain ⟨s1, s2, s3, s4, s5⟩ := step_first h.ca h.cb hA (by omega) hto tA tB
    refine ⟨h.step hp s1 s2 (.inl ?_) s3 s4, s5⟩
    rcases h.ca.hd_ok with ⟨e, _⟩ | ⟨x, l, e, hx, _⟩
    · exact absurd e hA
    · exact ⟨x, l, e, by rw [hx], by rw [hx]⟩
theorem take_any (W0 : World) (L : List Tn) (r : Nat) (c k to : Int) (w : World) (h : Rw W0 w r L) (t0 : Touch (fun _ => False) W0 w) (hl : L.length ≤ 1073741824) (hc : c ≤ 9007199254740991) (hto : to ≤ chg (hd L) c k) :
    Calls Tryz.prog 86 #[rp r, idV c k, u64 to] w fun e w' => ∃ L' n, e = .returned (u64 n) ∧ Took L L' c k to n ∧ Rw W0 w' r L' ∧ Touch (fun k => k = r) w w' := by
  by_cases hs : (hd L).c = c ∧ (hd L).f = k
  · cases L with
    | nil => simp only [hd] at hs; omega
    | cons x l =>
      obtain ⟨rfl, rfl⟩ := hs
      refine (take_yes W0 x l r to w h t0 (by simp at hl; omega)).mono ?_
      rintro e w' ⟨rfl, h1, h2⟩
      refine ⟨_, _, rfl, .inl ⟨x, l, rfl, rfl, rfl, rfl, rfl, ?_⟩, h1, h2⟩
      simp only [hd] at hto
      unfold chg at hto
      rw [if_neg (by simp), if_neg (by omega)] at hto
      exact hto
  · obtain ⟨rv, hcl, hsl⟩ := h.ex
    refine (take_no (hd L) rv r c k to w hcl hs).mono ?_
    rintro e w' ⟨rfl, h2⟩
    exact ⟨L, 0, rfl, .inr ⟨hs, rfl, rfl⟩, h.on h2 id, h2.mono fun _ _ e => e.elim⟩
theorem Took.len {L L' : List Tn} {c k to n : Int} (h : Took L L' c k to n) : L'.length ≤ L.length := by
  rcases h with ⟨x, l, rfl, _, _, rfl, _⟩ | ⟨_, rfl, _⟩
  · exact cutL_len x l to
  · exact Nat.le_refl _
end Go.Proofs.YtdblfabbmpdoiaaGreat
