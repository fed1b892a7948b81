/- The document's turn; two lists of turns that are alike; few. -/
import Derived.Test.YtccgiabihagjoaaRfA
import Derived.Test.YtccgiabihagjoaaRowT
import Derived.Test.YtccgiabihagjoaaIdUse
namespace Go.Proofs.Ytccgiabihagjoaa
open Go.RowKit Go.Maps
set_option linter.unusedVariables false
set_option linter.unusedSimpArgs false
set_option maxRecDepth 100000

set_option maxHeartbeats 800000 in
theorem rturn_any (t : Tn) (w : World) : Calls Try.prog 26 #[tnV t] w fun e w' => e = .returned (.bool t.ok) ∧ w' = (w.alloc (tnO t)).alloc (rgO t.rg) := by
  have h2 := fun W => rright_any t.rg W
  unfold Tn.ok numOk
  generalize t.rg.ok = b at h2 ⊢
  obtain ⟨c, f, t, n⟩ := t
  simp only [Tn.rg] at h2 ⊢
  cases b with
  | false =>
    go_enter Try.func26, Try.ntmps26
    go_wp2_with (go_at_call 42; refine (h2 _).mono ?_; rintro e w' ⟨rfl, rfl⟩)
    go_ret
    exact ⟨by simp, rfl⟩
  | true =>
    by_cases g1 : 1 ≤ n
    · by_cases g2 : n ≤ 9007199254740991
      · go_enter Try.func26, Try.ntmps26
        go_wp2_with (go_at_call 42; refine (h2 _).mono ?_; rintro e w' ⟨rfl, rfl⟩)
        go_ret
        exact ⟨by simp [g1, g2], rfl⟩
      · go_enter Try.func26, Try.ntmps26
        go_wp2_with (go_at_call 42; refine (h2 _).mono ?_; rintro e w' ⟨rfl, rfl⟩)
        go_ret
        exact ⟨by simp [g1, g2], rfl⟩
    · go_enter Try.func26, Try.ntmps26
      go_wp2_with (go_at_call 42; refine (h2 _).mono ?_; rintro e w' ⟨rfl, rfl⟩)
      go_ret
      exact ⟨by simp [g1]; omega, rfl⟩
set_option maxHeartbeats 800000 in
theorem turnsEq_any (a : List Tn) (va vb : Value) (w : World) (ha : SlT w va a) (hb : SlT w vb a) (hll : a.length ≤ 1073741824) :
    Calls Try.prog 9 #[va, vb] w fun e w' => e = .returned (.bool true) ∧ Touch (fun _ => False) w w' := by
  have HA : Hid (SlT w va a) := ha
  have HB : Hid (SlT w vb a) := hb
  obtain ⟨aoa, capa, rfl, _⟩ := ha
  obtain ⟨aob, capb, rfl, _⟩ := hb
  go_enter Try.func9, Try.ntmps9
  go_wp2_with fail
  go_loopg [5] a.length (fun g s5 wx => ∃ (j q : Nat), j + g = a.length ∧ s5 = .int .i64 (j : Int) ∧ wx = w.drewN q)
  case atStart => exact ⟨0, 0, by omega, rfl, rfl⟩
  case round =>
    obtain ⟨j, q, hjg, rfl, hwr⟩ := hrel
    rw [hwr]
    by_cases hlt : j < a.length
    · have hne : a ≠ [] := by rintro rfl; simp at hlt
      obtain ⟨b, o, cp, e, _, _, hb, hrow⟩ := HA.out.row hne
      obtain ⟨rfl, _, rfl⟩ : aoa = some ⟨b, o, none⟩ ∧ True ∧ capa = cp := by simpa using e
      obtain ⟨b', o', cp', e', _, _, hb', hrow'⟩ := HB.out.row hne
      obtain ⟨rfl, _, rfl⟩ : aob = some ⟨b', o', none⟩ ∧ True ∧ capb = cp' := by simpa using e'
      obtain ⟨c0, c1, c2, c3⟩ := hrow j hlt
      obtain ⟨d0, d1, d2, d3⟩ := hrow' j hlt
      generalize a[j] = r at *
      have hi1 : (0 : Int) ≤ (j : Int) := by omega
      have hi2 : (j : Int) < (a.length : Int) := by omega
      clear hrow hrow' e e' hne hwr
      go_wp2_with fail
      go_quiet (fail)
      go_wp2_with fail
      go_roundg (a.length - (j + 1))
      case measure => omega
      case rel => exact ⟨j + 1, _, by omega, by go_num, rfl⟩
    · have hjl : j = a.length := by omega
      subst hjl
      clear hwr
      go_wp2_with fail
      go_ret
      exact ⟨rfl, (Touch.refl _ w).drewN' q⟩
set_option maxHeartbeats 400000 in
theorem few_any (n : Nat) (ao : Option Addr) (cap : Nat) (w : World) : Calls Try.prog 6 #[.slice ao n cap] w fun e w' => e = .returned (.bool (decide (n ≤ 60))) ∧ w' = w := by
  by_cases h : n ≤ 60
  · rw [decide_eq_true h]
    go_enter Try.func6, Try.ntmps6
    go_wp2_with fail
    go_ret
    exact ⟨by simp; omega, rfl⟩
  · rw [decide_eq_false h]
    go_enter Try.func6, Try.ntmps6
    go_wp2_with fail
    go_ret
    exact ⟨by simp; omega, rfl⟩
end Go.Proofs.Ytccgiabihagjoaa
