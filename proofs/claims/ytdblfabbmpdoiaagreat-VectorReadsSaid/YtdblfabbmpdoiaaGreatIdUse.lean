/- The contracts of ids.Count and of the statements' helps. -/
import Derived.Test.YtdblfabbmpdoiaaGreatIdClean
import Derived.BigQuiet
import Derived.Deep.QuietTactic
namespace Go.Proofs.YtdblfabbmpdoiaaGreat
open Go.RowKit Go.Maps
set_option linter.unusedVariables false
set_option linter.unusedSimpArgs false
set_option maxRecDepth 100000

theorem Touch.drewN' {S : Nat → Prop} {a b : World} (h : Touch S a b) (q : Nat) : Touch S a (b.drewN q) := ⟨h.os, h.tape, h.output, h.size, h.block⟩
def cntR : List Rg → Int
  | [] => 0
  | r :: l => (r.t - r.f) + cntR l
theorem cntR_append (a b : List Rg) : cntR (a ++ b) = cntR a + cntR b := by
  induction a with
  | nil => simp [cntR]
  | cons x a ih => rw [List.cons_append, cntR, cntR, ih]; omega
theorem cntR_bound (l : List Rg) (h : ∀ r ∈ l, r.ok = true) : 0 ≤ cntR l ∧ cntR l ≤ 9007199254740992 * l.length := by
  induction l with
  | nil => simp [cntR]
  | cons x l ih =>
    have h1 := Rg.ok_iff.1 (h x List.mem_cons_self)
    have h2 := ih fun r hr => h r (List.mem_cons_of_mem _ hr)
    rw [cntR, List.length_cons]
    omega
theorem Form.oks {l : List Rg} {F : Int → Int → Int} (h : Form (tns l) F) : ∀ r ∈ l, r.ok = true := by
  intro r hr
  have := h.1.oks r.tn (List.mem_map_of_mem hr)
  rwa [Rg.tn_ok] at this
set_option maxHeartbeats 1600000 in
theorem rangesEq_any (a : List Rg) (va vb : Value) (w : World) (ha : SlR w va a) (hb : SlR w vb a) (hll : a.length ≤ 1073741824) :
    Calls Tryz.prog 21 #[va, vb] w fun e w' => e = .returned (.bool true) ∧ Touch (fun _ => False) w w' := by
  have HA : Hid (SlR w va a) := ha
  have HB : Hid (SlR w vb a) := hb
  obtain ⟨aoa, capa, rfl, _⟩ := ha
  obtain ⟨aob, capb, rfl, _⟩ := hb
  go_enter Tryz.func21, Tryz.ntmps21
  go_wp2_with fail
  go_loopg [5] a.length (fun g s5 wx => ∃ (j q : Nat), j + g = a.length ∧ s5 = .int .i64 (j : Int) ∧ wx = w.drewN q)
  case atStart => exact ⟨0, 0, by omega, rfl, rfl⟩
  case round =>
    obtain ⟨j, q, hjg, rfl, hwr⟩ := hrel
    rw [hwr]
    by_cases hlt : j < a.length
    · have hne : a ≠ [] := by rintro rfl; simp at hlt
      obtain ⟨b, o, cp, e, _, _, hb, hrow⟩ := HA.out.row hne
      obtain ⟨rfl, _, rfl⟩ : aoa = some ⟨b, o, none⟩ ∧ True ∧ capa = cp := by simpa using e
      obtain ⟨b', o', cp', e', _, _, hb', hrow'⟩ := HB.out.row hne
      obtain ⟨rfl, _, rfl⟩ : aob = some ⟨b', o', none⟩ ∧ True ∧ capb = cp' := by simpa using e'
      obtain ⟨c0, c1, c2⟩ := hrow j hlt
      obtain ⟨d0, d1, d2⟩ := hrow' j hlt
      generalize a[j] = r at *
      have hi1 : (0 : Int) ≤ (j : Int) := by omega
      have hi2 : (j : Int) < (a.length : Int) := by omega
      clear hrow hrow' e e' hne hwr
      go_wp2_with fail
      go_quiet (fail)
      go_wp2_with fail
      go_roundg (a.length - (j + 1))
      case measure => omega
      case rel => exact ⟨j + 1, _, by omega, by go_num, rfl⟩
    · have hjl : j = a.length := by omega
      subst hjl
      clear hwr
      go_wp2_with fail
      go_ret
      exact ⟨rfl, (Touch.refl _ w).drewN' q⟩
end Go.Proofs.YtdblfabbmpdoiaaGreat
