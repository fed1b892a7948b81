/- quirehelp.Ranges of two slices that read the same; Clean of one right range. -/
import Derived.Test.YtphcnjbiojdalaaGreatDoorRfC
import Derived.BigQuiet
import Derived.Deep.QuietTactic
namespace Go.Proofs.YtphcnjbiojdalaaGreatDoor
open Go.RowKit Go.Maps
set_option linter.unusedVariables false
set_option linter.unusedSimpArgs false
set_option maxRecDepth 100000

theorem Touch.drewN' {S : Nat → Prop} {a b : World} (h : Touch S a b) (q : Nat) : Touch S a (b.drewN q) := ⟨h.os, h.tape, h.output, h.size, h.block⟩
set_option maxHeartbeats 1600000 in
theorem rangesEq_any (a : List Rg) (va vb : Value) (w : World) (ha : SlR w va a) (hb : SlR w vb a) (hll : a.length ≤ 1073741824) :
    Calls Tryz.prog 33 #[va, vb] w fun e w' => e = .returned (.bool true) ∧ Touch (fun _ => False) w w' := by
  have HA : Hid (SlR w va a) := ha
  have HB : Hid (SlR w vb a) := hb
  obtain ⟨aoa, capa, rfl, _⟩ := ha
  obtain ⟨aob, capb, rfl, _⟩ := hb
  go_enter Tryz.func33, Tryz.ntmps33
  go_wp2_with fail
  go_loopg [5] a.length (fun g s5 wx => ∃ (j q : Nat), j + g = a.length ∧ s5 = .int .i64 (j : Int) ∧ wx = w.drewN q)
  case atStart => exact ⟨0, 0, by omega, rfl, rfl⟩
  case round =>
    obtain ⟨j, q, hjg, rfl, hwr⟩ := hrel
    rw [hwr]
    by_cases hlt : j < a.length
    · have hne : a ≠ [] := by rintro rfl; simp at hlt
      obtain ⟨b, o, cp, e, _, _, hb, hrow⟩ := HA.out.row hne
      obtain ⟨rfl, _, rfl⟩ : aoa = some ⟨b, o, none⟩ ∧ True ∧ capa = cp := by simpa using e
      obtain ⟨b', o', cp', e', _, _, hb', hrow'⟩ := HB.out.row hne
      obtain ⟨rfl, _, rfl⟩ : aob = some ⟨b', o', none⟩ ∧ True ∧ capb = cp' := by simpa using e'
      obtain ⟨c0, c1, c2⟩ := hrow j hlt
      obtain ⟨d0, d1, d2⟩ := hrow' j hlt
      generalize a[j] = r at *
      have hi1 : (0 : Int) ≤ (j : Int) := by omega
      have hi2 : (j : Int) < (a.length : Int) := by omega
      clear hrow hrow' e e' hne hwr
      go_wp2_with fail
      go_quiet (fail)
      go_wp2_with fail
      go_roundg (a.length - (j + 1))
      case measure => omega
      case rel => exact ⟨j + 1, _, by omega, by go_num, rfl⟩
    · have hjl : j = a.length := by omega
      subst hjl
      clear hwr
      go_wp2_with fail
      go_ret
      exact ⟨rfl, (Touch.refl _ w).drewN' q⟩
theorem clean_one (r : Rg) (hr : r.ok = true) (v : Value) (w : World) (hs : SlR w v [r]) : Calls Tryz.prog 34 #[v] w fun e w' => ∃ v', e = .returned v' ∧ NewR w w' v' [r] := by
  refine (rclean_any [r] v w hs (by simp)).mono ?_
  rintro e w' ⟨v', out, rfl, hN, hF, _⟩
  have h1 : Form (tns (mergeR [r])) (turnOf (tns [r])) := clean_form (l := [r]) (s := [r]) (by rw [List.filter_cons_of_pos hr]; exact List.Perm.refl _) (List.pairwise_singleton _ _)
  have h2 : out = mergeR [r] := tns_inj (hF.eq h1 (fun _ _ => rfl))
  have h3 : mergeR [r] = [r] := rfl
  rw [h2, h3] at hN
  exact ⟨v', rfl, hN⟩
end Go.Proofs.YtphcnjbiojdalaaGreatDoor
