/- The contract of ids.Turns. -/
import Derived.Test.YtccgiabihagjoaaIdSettle
namespace Go.Proofs.Ytccgiabihagjoaa
open Go.RowKit Go.Maps
set_option linter.unusedVariables false
set_option linter.unusedSimpArgs false
set_option maxRecDepth 100000

/-- Behind Turns: turns that lie, in their form. -/
def TurP (l : List Tn) (w : World) (e : Ending) (w' : World) : Prop := ∃ v' out, e = .returned v' ∧ SlT w' v' out ∧ Form out (turnOf l) ∧ (out.length ≤ 2 * (l.length * l.length)) ∧ Touch (fun _ => False) w w'
theorem Canon.filter {l : List Tn} (h : Canon l) : l.filter Tn.ok = l := List.filter_eq_self.2 h.oks
set_option maxHeartbeats 800000 in
theorem turns_any (l : List Tn) (v : Value) (w : World) (hs : SlT w v l) (hsz : l.length ≤ 8000 ∨ Canon l) (hll : l.length ≤ 1073741824) :
    Calls Try.prog 7 #[v] w (TurP l w) := by
  have hv1 : v.oneCell' = true := by obtain ⟨ao, cap, rfl, _⟩ := hs; rfl
  have HO := onlyT_any v (.func (.func 23) #[] #[]) w hv1 rfl
  have HC := pickedT 23 Tn.ok l v w hs hll (enters_of Try.func23 (by kernel_rfl) rfl) (fun r W => rightTurn_any r W)
  have hfl := List.length_filter_le Tn.ok l
  have HS := fun W v' (q : SlT W v' (l.filter Tn.ok)) => settle_any _ (l.filter Tn.ok) v' W rfl q (fun x hx => (List.mem_filter.1 hx).2) (hsz.elim (fun h => .inl (by omega)) fun h => .inr (by rw [h.filter]; exact h)) (by omega)
  have HQ : Hid (∀ W e W', Touch (fun _ => False) w W → SetP (l.filter Tn.ok) W e W' → TurP l w e W') := by
    rintro W e W' t ⟨v', out, rfl, q1, q2, q3, q4⟩
    refine ⟨v', out, rfl, q1, q2.of fun c k => turnOf_filter l c k, ?_, t.trans q4⟩
    have := Nat.mul_le_mul hfl hfl
    omega
  obtain ⟨ao, cap, rfl, _⟩ := hs
  clear hsz hfl
  go_enter Try.func7, Try.ntmps7
  go_wp2_with fail
  refine HO.mono ?_
  rintro e w1 ⟨rfl, rfl⟩
  go_wp2_with fail
  refine HC.mono ?_
  rintro e w2 ⟨v2, rfl, hN2⟩
  have HS2 := HS w2 v2 hN2.sl
  have HT : Hid (Touch (fun _ => False) w w2) := hN2.touch
  obtain ⟨ao2, cap2, rfl, _⟩ := hN2.shape
  clear HO HC hN2 HS
  go_wp2_with fail
  refine HS2.mono ?_
  rintro e w3 q
  have q2 := HQ.out _ _ _ HT.out q
  obtain ⟨v3, out, rfl, p1, p2, p3, p4⟩ := q2
  have HE : Hid (SlT w3 v3 out ∧ Form out (turnOf l) ∧ (out.length ≤ 2 * (l.length * l.length)) ∧ Touch (fun _ => False) w w3) := ⟨p1, p2, p3, p4⟩
  obtain ⟨ao3, cap3, rfl, _⟩ := p1.shape
  clear p1 p2 p3 p4 q HS2
  go_wp2_with fail
  refine bodyPost_ret (v := .slice ao3 out.length cap3) (by simp [results, Try.results7, go_sem]) rfl ?_
  exact ⟨_, _, rfl, HE.out⟩
end Go.Proofs.Ytccgiabihagjoaa
