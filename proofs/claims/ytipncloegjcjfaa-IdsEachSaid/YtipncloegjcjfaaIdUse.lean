/- The contracts of ids.Count and of the statements' helps. -/
import Derived.Test.YtipncloegjcjfaaIdClean
import Derived.BigQuiet
import Derived.Deep.QuietTactic
namespace Go.Proofs.Ytipncloegjcjfaa
open Go.RowKit Go.Maps
set_option linter.unusedVariables false
set_option linter.unusedSimpArgs false
set_option maxRecDepth 100000

theorem Touch.drewN' {S : Nat → Prop} {a b : World} (h : Touch S a b) (q : Nat) : Touch S a (b.drewN q) := ⟨h.os, h.tape, h.output, h.size, h.block⟩
def cntR : List Rg → Int
  | [] => 0
  | r :: l => (r.t - r.f) + cntR l
theorem cntR_append (a b : List Rg) : cntR (a ++ b) = cntR a + cntR b := by
  induction a with
  | nil => simp [cntR]
  | cons x a ih => rw [List.cons_append, cntR, cntR, ih]; omega
theorem cntR_bound (l : List Rg) (h : ∀ r ∈ l, r.ok = true) : 0 ≤ cntR l ∧ cntR l ≤ 9007199254740992 * l.length := by
  induction l with
  | nil => simp [cntR]
  | cons x l ih =>
    have h1 := Rg.ok_iff.1 (h x List.mem_cons_self)
    have h2 := ih fun r hr => h r (List.mem_cons_of_mem _ hr)
    rw [cntR, List.length_cons]
    omega
theorem Form.oks {l : List Rg} {F : Int → Int → Int} (h : Form (tns l) F) : ∀ r ∈ l, r.ok = true := by
  intro r hr
  have := h.1.oks r.tn (List.mem_map_of_mem hr)
  rwa [Rg.tn_ok] at this
set_option maxHeartbeats 1600000 in
theorem count_any (l : List Rg) (v : Value) (w : World) (hs : SlR w v l) (hll : l.length ≤ 1000) :
    Calls Try.prog 18 #[v] w fun e w' => ∃ out, e = .returned (u64 (cntR out)) ∧ Form (tns out) (turnOf (tns l)) ∧ out.length ≤ l.length ∧ Touch (fun _ => False) w w' := by
  have HC := cleanI_any l v w hs (by omega)
  obtain ⟨ao, cap, rfl, _⟩ := hs
  go_enter Try.func18, Try.ntmps18
  go_wp2_with fail
  refine HC.mono ?_
  rintro e w1 ⟨v1, out, rfl, hN, hF, hol⟩
  have HF : Hid (Form (tns out) (turnOf (tns l)) ∧ Touch (fun _ => False) w w1) := ⟨hF, hN.touch⟩
  have HSl : Hid (SlR w1 v1 out) := hN.sl
  obtain ⟨ao1, cap1, rfl, _, hc1, hc2⟩ := hN.shape
  clear hN hF HC
  go_wp2_with fail
  go_loopg [3, 9] out.length (fun g s3 s9 wx => ∃ (j : Nat), j + g = out.length ∧ s9 = .int .i64 (j : Int) ∧ s3 = u64 (cntR (out.take j)) ∧ Hid (Touch (fun _ => False) w1 wx))
  case atStart => exact ⟨0, by omega, rfl, rfl, Touch.refl _ _⟩
  case round =>
    obtain ⟨j, hjg, rfl, rfl, H⟩ := hrel
    by_cases hlt : j < out.length
    · have hne : out ≠ [] := by rintro rfl; simp at hlt
      obtain ⟨b, o, cp, e, _, _, hb, hrow⟩ := (HSl.out.touch H.out).row hne
      obtain ⟨rfl, _, rfl⟩ : ao1 = some ⟨b, o, none⟩ ∧ True ∧ cap1 = cp := by simpa using e
      obtain ⟨c0, c1, c2⟩ := hrow j hlt
      have HE : Hid (cntR (out.take (j + 1)) = cntR (out.take j) + (out[j].t - out[j].f)) := by
        rw [Hid, List.take_succ_eq_append_getElem hlt, cntR_append]; simp [cntR]
      have hok := Rg.ok_iff.1 (HF.out.1.oks out[j] (List.getElem_mem hlt))
      have hbd := cntR_bound (out.take j) (fun r hr => HF.out.1.oks r (List.mem_of_mem_take hr))
      have htl : (out.take j).length ≤ 1000 := by rw [List.length_take]; omega
      generalize cntR (out.take j) = A at *
      generalize out[j] = r at *
      obtain ⟨rc, rf, rt⟩ := r
      simp only at *
      have hA : 0 ≤ A ∧ A ≤ 9007199254740992000 := by omega
      clear hbd htl hrow e hne
      go_wp2_with fail
      go_roundg (out.length - (j + 1))
      case measure => omega
      case rel => exact ⟨j + 1, by omega, by go_num, by rw [HE.out], H.out.alloc _⟩
    · have hjl : j = out.length := by omega
      subst hjl
      rw [List.take_length]
      have HQ : Hid (Form (tns out) (turnOf (tns l)) ∧ out.length ≤ l.length ∧ Touch (fun _ => False) w wr) := ⟨HF.out.1, hol, HF.out.2.trans H.out⟩
      obtain ⟨A, hA⟩ : ∃ A, A = cntR out := ⟨_, rfl⟩
      rw [← hA]
      have HA : Hid (A = cntR out) := hA
      clear H hA
      go_wp2_with fail
      refine bodyPost_ret (v := u64 A) (by simp [results, Try.results18, go_sem]) rfl ?_
      exact ⟨out, by rw [HA.out], HQ.out⟩
set_option maxHeartbeats 1600000 in
theorem rangesEq_any (a : List Rg) (va vb : Value) (w : World) (ha : SlR w va a) (hb : SlR w vb a) (hll : a.length ≤ 1073741824) :
    Calls Try.prog 12 #[va, vb] w fun e w' => e = .returned (.bool true) ∧ Touch (fun _ => False) w w' := by
  have HA : Hid (SlR w va a) := ha
  have HB : Hid (SlR w vb a) := hb
  obtain ⟨aoa, capa, rfl, _⟩ := ha
  obtain ⟨aob, capb, rfl, _⟩ := hb
  go_enter Try.func12, Try.ntmps12
  go_wp2_with fail
  go_loopg [5] a.length (fun g s5 wx => ∃ (j q : Nat), j + g = a.length ∧ s5 = .int .i64 (j : Int) ∧ wx = w.drewN q)
  case atStart => exact ⟨0, 0, by omega, rfl, rfl⟩
  case round =>
    obtain ⟨j, q, hjg, rfl, hwr⟩ := hrel
    rw [hwr]
    by_cases hlt : j < a.length
    · have hne : a ≠ [] := by rintro rfl; simp at hlt
      obtain ⟨b, o, cp, e, _, _, hb, hrow⟩ := HA.out.row hne
      obtain ⟨rfl, _, rfl⟩ : aoa = some ⟨b, o, none⟩ ∧ True ∧ capa = cp := by simpa using e
      obtain ⟨b', o', cp', e', _, _, hb', hrow'⟩ := HB.out.row hne
      obtain ⟨rfl, _, rfl⟩ : aob = some ⟨b', o', none⟩ ∧ True ∧ capb = cp' := by simpa using e'
      obtain ⟨c0, c1, c2⟩ := hrow j hlt
      obtain ⟨d0, d1, d2⟩ := hrow' j hlt
      generalize a[j] = r at *
      have hi1 : (0 : Int) ≤ (j : Int) := by omega
      have hi2 : (j : Int) < (a.length : Int) := by omega
      clear hrow hrow' e e' hne hwr
      go_wp2_with fail
      go_quiet (fail)
      go_wp2_with fail
      go_roundg (a.length - (j + 1))
      case measure => omega
      case rel => exact ⟨j + 1, _, by omega, by go_num, rfl⟩
    · have hjl : j = a.length := by omega
      subst hjl
      clear hwr
      go_wp2_with fail
      go_ret
      exact ⟨rfl, (Touch.refl _ w).drewN' q⟩
set_option maxHeartbeats 400000 in
theorem light_any (n : Nat) (ao : Option Addr) (cap : Nat) (w : World) : Calls Try.prog 10 #[.slice ao n cap] w fun e w' => e = .returned (.bool (decide (n ≤ 60))) ∧ w' = w := by
  by_cases h : n ≤ 60
  · rw [decide_eq_true h]
    go_enter Try.func10, Try.ntmps10
    go_wp2_with fail
    go_ret
    exact ⟨by simp; omega, rfl⟩
  · rw [decide_eq_false h]
    go_enter Try.func10, Try.ntmps10
    go_wp2_with fail
    go_ret
    exact ⟨by simp; omega, rfl⟩
end Go.Proofs.Ytipncloegjcjfaa
