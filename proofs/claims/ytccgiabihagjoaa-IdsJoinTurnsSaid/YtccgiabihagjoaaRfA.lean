/- The document's small functions of ids: right, less, Right. -/
import Derived.Test.YtccgiabihagjoaaIdA
namespace Go.Proofs.Ytccgiabihagjoaa
open Go.RowKit
set_option linter.unusedVariables false
set_option linter.unusedSimpArgs false
set_option maxRecDepth 100000

set_option maxHeartbeats 800000 in
theorem rright_any (r : Rg) (w : World) : Calls Try.prog 42 #[rgV r] w fun e w' => e = .returned (.bool r.ok) ∧ w' = w.alloc (rgO r) := by
  obtain ⟨c, f, t⟩ := r
  unfold Rg.ok numOk
  simp only
  by_cases h1 : 1 ≤ c
  · by_cases h2 : c ≤ 9007199254740991
    · by_cases h3 : 1 ≤ f
      · by_cases h4 : f < t
        · by_cases h5 : t ≤ 9007199254740992
          · go_enter Try.func42, Try.ntmps42
            go_wp2_with fail
            go_ret
            exact ⟨by simp [h1, h2, h3, h4, h5], rfl⟩
          · go_enter Try.func42, Try.ntmps42
            go_wp2_with fail
            go_ret
            exact ⟨by simp [h1, h2, h3, h4, h5], rfl⟩
        · go_enter Try.func42, Try.ntmps42
          go_wp2_with fail
          go_ret
          exact ⟨by simp; omega, rfl⟩
      · go_enter Try.func42, Try.ntmps42
        go_wp2_with fail
        go_ret
        exact ⟨by simp; omega, rfl⟩
    · go_enter Try.func42, Try.ntmps42
      go_wp2_with fail
      go_ret
      exact ⟨by simp; omega, rfl⟩
  · go_enter Try.func42, Try.ntmps42
    go_wp2_with fail
    go_ret
    exact ⟨by simp; omega, rfl⟩
def lessR (a b : Rg) : Bool := decide (a.c < b.c ∨ (a.c = b.c ∧ a.f < b.f))
set_option maxHeartbeats 800000 in
theorem rlessR_any (a b : Rg) (w : World) : Calls Try.prog 46 #[rgV a, rgV b] w fun e w' => e = .returned (.bool (lessR a b)) ∧ w' = (w.alloc (rgO a)).alloc (rgO b) := by
  obtain ⟨c, f, t⟩ := a
  obtain ⟨c', f', t'⟩ := b
  unfold lessR
  simp only
  by_cases h2 : c < c'
  · go_enter Try.func46, Try.ntmps46
    go_wp2_with fail
    go_ret
    exact ⟨by simp [h2], rfl⟩
  · by_cases h1 : c = c'
    · subst h1
      go_enter Try.func46, Try.ntmps46
      go_wp2_with fail
      go_ret
      exact ⟨by simp, rfl⟩
    · go_enter Try.func46, Try.ntmps46
      go_wp2_with fail
      go_ret
      exact ⟨by simp; omega, rfl⟩
end Go.Proofs.Ytccgiabihagjoaa
