/- The contracts of ids.JoinTurns and Above; turns as what they tell. -/
import Derived.Test.YtccgiabihagjoaaRtT
import Derived.Test.YtccgiabihagjoaaIdTof
import Derived.Test.YtccgiabihagjoaaTurned6
import Derived.Test.YtccgiabihagjoaaIdBlend
import Derived.Test.YtccgiabihagjoaaIdSets
namespace Go.Proofs.Ytccgiabihagjoaa
open Go.RowKit Go.Maps
set_option linter.unusedVariables false
set_option linter.unusedSimpArgs false
set_option maxRecDepth 100000

/-- A slice of turns that tells F: a short one, or one in its form. -/
def TLst (W : World) (v : Value) (F : Int → Int → Int) (N : Nat) : Prop := ∃ l, SlT W v l ∧ (∀ c k, turnOf l c k = F c k) ∧ (l.length ≤ 60 ∨ Canon l) ∧ l.length ≤ N
def TCst (W : World) (v : Value) (F : Int → Int → Int) (N : Nat) : Prop := ∃ l, SlT W v l ∧ Form l F ∧ l.length ≤ N
def TRef (W : World) (v : Value) (F : Int → Int → Int) : Prop := ∃ l, SlT W v l ∧ Form l F
theorem TCst.lst {W : World} {v : Value} {F : Int → Int → Int} {N : Nat} (h : TCst W v F N) : TLst W v F N := by
  obtain ⟨l, h1, h2, h3⟩ := h
  exact ⟨l, h1, fun c k => by rw [h2.1.turnOf, h2.2], .inr h2.1, h3⟩
theorem TCst.touch {W W' : World} {v : Value} {F : Int → Int → Int} {N : Nat} (h : TCst W v F N) (t : Touch (fun _ => False) W W') : TCst W' v F N := by
  obtain ⟨l, h1, h2, h3⟩ := h
  exact ⟨l, h1.touch t, h2, h3⟩
theorem TLst.touch {W W' : World} {v : Value} {F : Int → Int → Int} {N : Nat} (h : TLst W v F N) (t : Touch (fun _ => False) W W') : TLst W' v F N := by
  obtain ⟨l, h1, h2, h3, h4⟩ := h
  exact ⟨l, h1.touch t, h2, h3, h4⟩
theorem TRef.touch {W W' : World} {v : Value} {F : Int → Int → Int} (h : TRef W v F) (t : Touch (fun _ => False) W W') : TRef W' v F := by
  obtain ⟨l, h1, h2⟩ := h
  exact ⟨l, h1.touch t, h2⟩
theorem TCst.shape {W : World} {v : Value} {F : Int → Int → Int} {N : Nat} (h : TCst W v F N) : ∃ ao n cap, v = .slice ao n cap := by
  obtain ⟨l, ⟨ao, cap, e, _⟩, _⟩ := h
  exact ⟨ao, _, cap, e⟩
theorem TRef.shape {W : World} {v : Value} {F : Int → Int → Int} (h : TRef W v F) : ∃ ao n cap, v = .slice ao n cap := by
  obtain ⟨l, ⟨ao, cap, e, _⟩, _⟩ := h
  exact ⟨ao, _, cap, e⟩
theorem TCst.zero {W : World} {ao : Option Addr} {n cap : Nat} {F : Int → Int → Int} {N : Nat} (h : TCst W (.slice ao n cap) F N) (hF : ∀ c k, F c k = 0) : n = 0 := by
  obtain ⟨l, ⟨ao', cap', e, _⟩, h2, _⟩ := h
  have hn : Form ([] : List Tn) (fun _ _ => 0) := ⟨trivial, fun c k => rfl⟩
  have : l = [] := h2.eq hn hF
  subst this
  simp only [Value.slice.injEq] at e
  exact e.2.1
section
variable {W : World} {va vb : Value} {F G : Int → Int → Int} {N M : Nat}
theorem turns_set (ha : TLst W va F N) (hN : N ≤ 10000000) : Calls Try.prog 7 #[va] W fun e w' => ∃ v', e = .returned v' ∧ TCst w' v' F (N + 7200) ∧ Touch (fun _ => False) W w' := by
  obtain ⟨a, a1, a2, a3, a4⟩ := ha
  refine (turns_any a va W a1 (a3.elim (fun h => .inl (by omega)) .inr) (by omega)).mono ?_
  rintro e w' ⟨v', out, rfl, hS, hF, hl, hT⟩
  refine ⟨v', rfl, ⟨out, hS, hF.of a2, ?_⟩, hT⟩
  rcases a3 with h | h
  · have : a.length * a.length ≤ 60 * 60 := Nat.mul_le_mul h h
    omega
  · have e : out = a := hF.eq (⟨h, fun c k => (h.turnOf c k).symm⟩ : Form a (turnOf a)) fun _ _ => rfl
    rw [e]; omega
theorem rjoinT_set (ha : TLst W va F 60) (hb : TLst W vb G 60) : Calls Try.prog 18 #[va, vb] W fun e w' => ∃ v', e = .returned v' ∧ TRef w' v' (fun c k => max (F c k) (G c k)) ∧ Touch (fun _ => False) W w' := by
  obtain ⟨a, a1, a2, _, a4⟩ := ha
  obtain ⟨b, b1, b2, _, b4⟩ := hb
  refine (rjoinT_any a b va vb W a1 b1 (by omega) (by omega)).mono ?_
  rintro e w' ⟨v', out, rfl, hN, hF⟩
  exact ⟨v', rfl, ⟨out, hN.sl, hF.of fun c k => by rw [a2, b2]⟩, hN.touch⟩
theorem rabove_set (ha : TLst W va F 60) (hb : TLst W vb G 60) : Calls Try.prog 19 #[va, vb] W fun e w' => ∃ v', e = .returned v' ∧ TRef w' v' (fun c k => ifAb (F c k) (G c k)) ∧ Touch (fun _ => False) W w' := by
  obtain ⟨a, a1, a2, _, a4⟩ := ha
  obtain ⟨b, b1, b2, _, b4⟩ := hb
  refine (above_any a b va vb W a1 b1 (by omega) (by omega)).mono ?_
  rintro e w' ⟨v', out, rfl, hN, hF, _⟩
  exact ⟨v', rfl, ⟨out, hN.sl, hF.of fun c k => by unfold fAb; rw [a2, b2]⟩, hN.touch⟩
theorem sameT_ref (ha : TCst W va F N) (hb : TRef W vb G) (h : ∀ c k, F c k = G c k) (hN : N ≤ 10000000) : Calls Try.prog 9 #[va, vb] W fun e w' => e = .returned (.bool true) ∧ Touch (fun _ => False) W w' := by
  obtain ⟨a, a1, a2, a3⟩ := ha
  obtain ⟨b, b1, b2⟩ := hb
  obtain rfl : a = b := a2.eq b2 h
  exact turnsEq_any a va vb W a1 b1 (by omega)
theorem TCst.ref (h : TCst W va F N) : TRef W va F := by
  obtain ⟨l, h1, h2, _⟩ := h
  exact ⟨l, h1, h2⟩
theorem turnOf_set (ha : TLst W va F N) (c k : Int) (hN : N ≤ 10000000) : Calls Try.prog 8 #[va, .agg #[.int .u64 c, .int .u64 k]] W fun e w' => e = .returned (.int .u64 (F c k)) ∧ Touch (fun _ => False) W w' := by
  obtain ⟨a, a1, a2, _, a4⟩ := ha
  rw [← a2]
  exact turnOfI_any a va c k W a1 (by omega)
end
set_option maxHeartbeats 800000 in
theorem joinT_set {W : World} {va vb : Value} {F G : Int → Int → Int} {N M : Nat} (ha : TLst W va F N) (hb : TLst W vb G M) (hN : N ≤ 1000000) (hM : M ≤ 1000000) : Calls Try.prog 16 #[va, vb] W fun e w' => ∃ v', e = .returned v' ∧ TCst w' v' (fun c k => max (F c k) (G c k)) (2 * (N + 7200 + (M + 7200)) + 1) ∧ Touch (fun _ => False) W w' := by
  have C1 := turns_set ha (by omega)
  have HB : Hid (TLst W vb G M) := hb
  have sa : ∃ ao n cap, va = .slice ao n cap := by obtain ⟨l, ⟨ao, cap, e, _⟩, _⟩ := ha; exact ⟨_, _, _, e⟩
  have sb : ∃ ao n cap, vb = .slice ao n cap := by obtain ⟨l, ⟨ao, cap, e, _⟩, _⟩ := hb; exact ⟨_, _, _, e⟩
  obtain ⟨aoa, na, capa, rfl⟩ := sa
  obtain ⟨aob, nb, capb, rfl⟩ := sb
  clear ha hb
  go_enter Try.func16, Try.ntmps16
  go_wp2_with fail
  refine C1.mono ?_
  rintro e w1 ⟨v1, rfl, h1, t1⟩
  have C2 := turns_set (HB.out.touch t1) (by omega)
  have H1 : Hid (TCst w1 v1 F (N + 7200) ∧ Touch (fun _ => False) W w1) := ⟨h1, t1⟩
  obtain ⟨ao1, n1, cap1, rfl⟩ := h1.shape
  clear h1 t1 C1 HB
  go_wp2_with fail
  refine C2.mono ?_
  rintro e w2 ⟨v2, rfl, h2, t2⟩
  obtain ⟨la, p1, p2, p3⟩ := H1.out.1.touch t2
  obtain ⟨lb, q1, q2, q3⟩ := h2
  have C3 := blend_any w2 la lb _ v2 34 max pick_max (enters_of Try.func34 (by kernel_rfl) rfl) (fun x y W => greater_any x y W) p1 q1 p2.1 q2.1 (by omega) (by omega)
  have HX : Hid ((∀ c k, val la c k = F c k) ∧ (∀ c k, val lb c k = G c k) ∧ la.length ≤ N + 7200 ∧ lb.length ≤ M + 7200 ∧ Touch (fun _ => False) W w2) := ⟨p2.2, q2.2, p3, q3, H1.out.2.trans t2⟩
  obtain ⟨ao2, cap2, rfl, _⟩ := q1
  clear p1 p2 p3 q2 q3 t2 C2 H1
  go_wp2_with fail
  refine C3.mono ?_
  rintro e w3 ⟨v3, out, rfl, n3, f3, l3⟩
  have HQ : Hid (TCst w3 v3 (fun c k => max (F c k) (G c k)) (2 * (N + 7200 + (M + 7200)) + 1) ∧ Touch (fun _ => False) W w3) := ⟨⟨out, n3.sl, f3.of fun c k => by rw [HX.out.1, HX.out.2.1], by have := HX.out.2.2.1; have := HX.out.2.2.2.1; omega⟩, HX.out.2.2.2.2.trans n3.touch⟩
  obtain ⟨ao4, cap4, rfl, _⟩ := n3.shape
  clear n3 f3 l3 C3 HX
  go_wp2_with fail
  refine bodyPost_ret (v := .slice ao4 out.length cap4) (by simp [results, Try.results16, go_sem]) rfl ?_
  exact ⟨_, rfl, HQ.out⟩
set_option maxHeartbeats 800000 in
theorem aboveT_set {W : World} {va vb : Value} {F G : Int → Int → Int} {N M : Nat} (ha : TLst W va F N) (hb : TLst W vb G M) (hN : N ≤ 1000000) (hM : M ≤ 1000000) : Calls Try.prog 17 #[va, vb] W fun e w' => ∃ v', e = .returned v' ∧ TCst w' v' (fun c k => ifAb (F c k) (G c k)) (2 * (N + 7200 + (M + 7200)) + 1) ∧ Touch (fun _ => False) W w' := by
  have C1 := turns_set ha (by omega)
  have HB : Hid (TLst W vb G M) := hb
  have sa : ∃ ao n cap, va = .slice ao n cap := by obtain ⟨l, ⟨ao, cap, e, _⟩, _⟩ := ha; exact ⟨_, _, _, e⟩
  have sb : ∃ ao n cap, vb = .slice ao n cap := by obtain ⟨l, ⟨ao, cap, e, _⟩, _⟩ := hb; exact ⟨_, _, _, e⟩
  obtain ⟨aoa, na, capa, rfl⟩ := sa
  obtain ⟨aob, nb, capb, rfl⟩ := sb
  clear ha hb
  go_enter Try.func17, Try.ntmps17
  go_wp2_with fail
  refine C1.mono ?_
  rintro e w1 ⟨v1, rfl, h1, t1⟩
  have C2 := turns_set (HB.out.touch t1) (by omega)
  have H1 : Hid (TCst w1 v1 F (N + 7200) ∧ Touch (fun _ => False) W w1) := ⟨h1, t1⟩
  obtain ⟨ao1, n1, cap1, rfl⟩ := h1.shape
  clear h1 t1 C1 HB
  go_wp2_with fail
  refine C2.mono ?_
  rintro e w2 ⟨v2, rfl, h2, t2⟩
  obtain ⟨la, p1, p2, p3⟩ := H1.out.1.touch t2
  obtain ⟨lb, q1, q2, q3⟩ := h2
  have C3 := blend_any w2 la lb _ v2 35 ifAb pick_ab (enters_of Try.func35 (by kernel_rfl) rfl) (fun x y W => ifAbove_any x y W) p1 q1 p2.1 q2.1 (by omega) (by omega)
  have HX : Hid ((∀ c k, val la c k = F c k) ∧ (∀ c k, val lb c k = G c k) ∧ la.length ≤ N + 7200 ∧ lb.length ≤ M + 7200 ∧ Touch (fun _ => False) W w2) := ⟨p2.2, q2.2, p3, q3, H1.out.2.trans t2⟩
  obtain ⟨ao2, cap2, rfl, _⟩ := q1
  clear p1 p2 p3 q2 q3 t2 C2 H1
  go_wp2_with fail
  refine C3.mono ?_
  rintro e w3 ⟨v3, out, rfl, n3, f3, l3⟩
  have HQ : Hid (TCst w3 v3 (fun c k => ifAb (F c k) (G c k)) (2 * (N + 7200 + (M + 7200)) + 1) ∧ Touch (fun _ => False) W w3) := ⟨⟨out, n3.sl, f3.of fun c k => by rw [HX.out.1, HX.out.2.1], by have := HX.out.2.2.1; have := HX.out.2.2.2.1; omega⟩, HX.out.2.2.2.2.trans n3.touch⟩
  obtain ⟨ao4, cap4, rfl, _⟩ := n3.shape
  clear n3 f3 l3 C3 HX
  go_wp2_with fail
  refine bodyPost_ret (v := .slice ao4 out.length cap4) (by simp [results, Try.results17, go_sem]) rfl ?_
  exact ⟨_, rfl, HQ.out⟩
end Go.Proofs.Ytccgiabihagjoaa
