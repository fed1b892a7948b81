/- The contract of ids.Hidden. -/
import Derived.Test.YtccgiabihagjoaaIdTurns
namespace Go.Proofs.Ytccgiabihagjoaa
open Go.RowKit Go.Maps
set_option linter.unusedVariables false
set_option linter.unusedSimpArgs false
set_option maxRecDepth 100000

def oddT (t : Tn) : Bool := decide (t.n.tmod 2 = 1)
theorem odd_any (t : Tn) (w : World) : Calls Try.prog 27 #[tnV t] w fun e w' => e = .returned (.bool (oddT t)) ∧ Grows w w' := by
  unfold oddT
  obtain ⟨c, f, t, n⟩ := t
  simp only
  by_cases h : n.tmod 2 = 1
  · go_enter Try.func27, Try.ntmps27
    go_wp2_with fail
    go_ret
    exact ⟨by simp [h], (Grows.refl w).alloc _⟩
  · go_enter Try.func27, Try.ntmps27
    go_wp2_with fail
    go_ret
    exact ⟨by simp [h], (Grows.refl w).alloc _⟩
/-- What the odd ones tell. -/
theorem Canon.odd {l : List Tn} (h : Canon l) (c k : Int) : Go.Proofs.Ytccgiabihagjoaa.turnOf (tns ((l.filter oddT).map Tn.rg)) c k = val l c k % 2 := by
  induction l with
  | nil => rfl
  | cons x l ih =>
    have hi := ih h.tail
    have ho := Tn.ok_iff.1 h.ok
    have hok : x.rg.tn.ok = true := by rw [Rg.tn_ok, Rg.ok_iff]; exact ⟨ho.1, ho.2.1⟩
    have hhas : x.rg.tn.has c k = x.has c k := rfl
    have e1 : x.rg.tn.n = 1 := rfl
    have em : x.n.tmod 2 = x.n % 2 := Int.tmod_eq_emod_of_nonneg (by omega)
    rw [val]
    by_cases hq : x.has c k = true
    · have hz := h.tail_zero hq
      rw [if_pos hq]
      rw [hz] at hi
      by_cases hod : oddT x = true
      · rw [List.filter_cons_of_pos hod, List.map_cons, tns_cons, Go.Proofs.Ytccgiabihagjoaa.turnOf, hok, hhas, hq, hi, e1]
        unfold oddT at hod
        rw [decide_eq_true_iff, em] at hod
        simp; omega
      · rw [List.filter_cons_of_neg hod, hi]
        unfold oddT at hod
        rw [decide_eq_true_iff, em] at hod
        omega
    · rw [if_neg hq]
      by_cases hod : oddT x = true
      · rw [List.filter_cons_of_pos hod, List.map_cons, tns_cons, Go.Proofs.Ytccgiabihagjoaa.turnOf, hok, hhas, if_neg (by simpa using hq), hi]
      · rw [List.filter_cons_of_neg hod, hi]
set_option maxHeartbeats 800000 in
theorem hidden_any (l : List Tn) (v : Value) (w : World) (hs : SlT w v l) (hsz : l.length ≤ 8000 ∨ (Canon l ∧ l.length ≤ 134217728)) :
    Calls Try.prog 13 #[v] w fun e w' => ∃ v' out, e = .returned v' ∧ NewR w w' v' out ∧ Form (tns out) (fun c k => turnOf l c k % 2) ∧ out.length ≤ 134217728 := by
  have HT := turns_any l v w hs (hsz.elim .inl fun h => .inr h.1) (by omega)
  have HL : Hid (∀ out : List Tn, Form out (turnOf l) → out.length ≤ 2 * (l.length * l.length) → out.length ≤ 134217728) := fun out hf h => by
    rcases hsz with q | q
    · have := Nat.mul_le_mul q q; omega
    · have : out = l := Form.eq hf ⟨q.1, fun c k => (q.1.turnOf c k).symm⟩ fun _ _ => rfl
      rw [this]; exact q.2
  obtain ⟨ao, cap, rfl, _⟩ := hs
  clear hsz
  go_enter Try.func13, Try.ntmps13
  go_wp2_with fail
  refine HT.mono ?_
  rintro e w1 ⟨v1, out, rfl, s1, f1, b1, t1⟩
  have hol := HL.out out f1 b1
  have hv1 : v1.oneCell' = true := by obtain ⟨ao, cap, rfl, _⟩ := s1.shape; rfl
  have HO := onlyT_any v1 (.func (.func 27) #[] #[]) w1 hv1 rfl
  have HC := pickedT 27 oddT out v1 w1 s1 (by omega) (enters_of Try.func27 (by kernel_rfl) rfl) (fun r W => odd_any r W)
  have hfl := List.length_filter_le oddT out
  have H1 : Hid ((∀ c k, turnOf (tns ((out.filter oddT).map Tn.rg)) c k = turnOf l c k % 2) ∧ Touch (fun _ => False) w w1) := ⟨fun c k => by rw [Canon.odd f1.1 c k, f1.2 c k], t1⟩
  obtain ⟨ao1, cap1, rfl, _⟩ := s1.shape
  clear s1 f1 b1 t1 HT HL
  go_wp2_with fail
  refine HO.mono ?_
  rintro e w2 ⟨rfl, rfl⟩
  go_wp2_with fail
  refine HC.mono ?_
  rintro e w2 ⟨v2, rfl, hN2⟩
  have HR := rangesOf_any (out.filter oddT) v2 w2 hN2.sl (by omega)
  have H2 : Hid (Touch (fun _ => False) w w2) := H1.out.2.trans hN2.touch
  obtain ⟨ao2, cap2, rfl, _⟩ := hN2.shape
  clear HO HC hN2
  go_wp2_with fail
  refine HR.mono ?_
  rintro e w3 ⟨v3, rfl, hN3⟩
  have hml : ((out.filter oddT).map Tn.rg).length ≤ 134217728 := by rw [List.length_map]; omega
  generalize (out.filter oddT).map Tn.rg = rl at *
  have HK := cleanI_any _ v3 w3 hN3.sl (by omega)
  have H3 : Hid (Touch (fun _ => False) w w3) := H2.out.trans hN3.touch
  obtain ⟨ao3, cap3, rfl, _⟩ := hN3.shape
  clear HR hN3
  go_wp2_with fail
  refine HK.mono ?_
  rintro e w4 ⟨v4, rs, rfl, hN4, f4, l4⟩
  have HE : Hid (NewR w w4 v4 rs ∧ Form (tns rs) (fun c k => turnOf l c k % 2)) := ⟨hN4.since H3.out, Form.of (G := fun c k => turnOf l c k % 2) f4 H1.out.1⟩
  obtain ⟨ao4, cap4, rfl, _⟩ := hN4.shape
  clear HK hN4 f4
  go_wp2_with fail
  refine bodyPost_ret (v := .slice ao4 rs.length cap4) (by simp [results, Try.results13, go_sem]) rfl ?_
  exact ⟨_, _, rfl, HE.out.1, HE.out.2, by omega⟩
end Go.Proofs.Ytccgiabihagjoaa
