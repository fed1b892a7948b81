/- The contracts of ids.once, rangesOf, mix, Join, Meet, Minus. -/
import Derived.Test.YtccgiabihagjoaaIdClean
import Derived.Test.YtccgiabihagjoaaIdBlend
namespace Go.Proofs.Ytccgiabihagjoaa
open Go.RowKit Go.Maps
set_option linter.unusedVariables false
set_option linter.unusedSimpArgs false
set_option maxRecDepth 100000

theorem tns_len (l : List Rg) : (tns l).length = l.length := by unfold tns; simp
theorem tns_take (l : List Rg) (j : Nat) : tns (l.take j) = (tns l).take j := by unfold tns; rw [List.map_take]
set_option maxHeartbeats 400000 in
theorem rangeOf_any (t : Tn) (w : World) : Calls Try.prog 25 #[tnV t] w fun e w' => e = .returned (rgV t.rg) ∧ w' = (w.alloc (tnO t)).alloc (rgO t.rg) := by
  obtain ⟨c, f, t, n⟩ := t
  go_enter Try.func25, Try.ntmps25
  go_wp2_with fail
  exact bodyPost_ret (v := rgV ⟨c, f, t⟩) (by simp [results, Try.results25, go_sem]) rfl ⟨rfl, rfl⟩
set_option maxHeartbeats 1600000 in
theorem rangesOf_any (l : List Tn) (v : Value) (w : World) (hs : SlT w v l) (hll : l.length ≤ 1073741824) :
    Calls Try.prog 29 #[v] w fun e w' => ∃ v', e = .returned v' ∧ NewR w w' v' (l.map Tn.rg) := by
  have HSl : Hid (SlT w v l) := hs
  obtain ⟨ao1, cap1, rfl, _, hc1, hc2, _⟩ := hs
  have HR := fun t W => rangeOf_any t W
  go_enter Try.func29, Try.ntmps29
  go_wp2_with fail
  go_loopg [3, 8] l.length (fun g s3 s8 wx => ∃ (j : Nat) (rs : List Rg), j + g = l.length ∧ s8 = .int .i64 (j : Int) ∧ Hid (NewR w wx s3 rs ∧ rs = (l.take j).map Tn.rg) ∧ rs.length = j ∧ ∃ ao cap, s3 = .slice ao rs.length cap)
  case atStart => exact ⟨0, [], by omega, rfl, ⟨NewR.nil w w (Touch.refl _ _), rfl⟩, rfl, ⟨_, _, rfl⟩⟩
  case round =>
    obtain ⟨j, ts, hjg, rfl, H, hts, ⟨ao3, cap3, rfl⟩⟩ := hrel
    subst hts
    by_cases hlt : ts.length < l.length
    · have hne : l ≠ [] := by rintro rfl; simp at hlt
      obtain ⟨b, o, cp, e, _, _, hb, hrow⟩ := (HSl.out.touch H.out.1.touch).row hne
      obtain ⟨rfl, _, rfl⟩ : ao1 = some ⟨b, o, none⟩ ∧ True ∧ cap1 = cp := by simpa using e
      obtain ⟨c0, c1, c2, c3⟩ := hrow ts.length hlt
      have HE : Hid (l.take (ts.length + 1) = l.take ts.length ++ [l[ts.length]]) := List.take_succ_eq_append_getElem hlt
      generalize l[ts.length] = r at *
      have HRr := HR r
      obtain ⟨v5, w5, hrun, hN5, _⟩ := NewR.app1 (H.out.1.on ((((Touch.refl _ wr).alloc (tnO r)).alloc (tnO r)).alloc (rgO r.rg))) r.rg (by omega)
      rw [World.size_alloc, World.size_alloc, World.size_alloc] at hrun
      obtain ⟨rc, rf, rt, rn⟩ := r
      have HQ : Hid (NewR w w5 v5 (ts ++ [Tn.rg ⟨rc, rf, rt, rn⟩]) ∧ ts ++ [Tn.rg ⟨rc, rf, rt, rn⟩] = (l.take (ts.length + 1)).map Tn.rg) := ⟨hN5, by rw [HE.out, List.map_append, ← H.out.2]; rfl⟩
      have hl5 : (ts ++ [Tn.rg ⟨rc, rf, rt, rn⟩]).length = ts.length + 1 := by simp
      obtain ⟨ao5, cap5, hv5, _⟩ := hN5.shape
      rw [hl5] at hv5
      subst hv5
      clear hN5 hrow e hne HR
      simp only [Tn.rg] at hrun c0 c1 c2 c3 HRr
      go_wp2_with (first | (go_at_call 25; refine (HRr _).mono ?_; rintro e w' ⟨rfl, rfl⟩) | (at_builtin; refine wpList_append_runR rfl _ _ rfl _ _ _ rfl rfl hrun ?_))
      go_roundg (l.length - (ts.length + 1))
      case measure => omega
      case rel => exact ⟨ts.length + 1, _, by omega, by go_num, HQ.out, hl5, ⟨_, _, by rw [hl5]⟩⟩
    · have hjl : ts.length = l.length := by omega
      have HQ : Hid (NewR w wr (.slice ao3 ts.length cap3) (l.map Tn.rg)) := by
        have h := H.out.1
        have e := H.out.2
        rw [hjl, List.take_length] at e
        subst e; exact h
      clear H
      go_wp2_with fail
      refine bodyPost_ret (v := .slice ao3 ts.length cap3) (by simp [results, Try.results29, go_sem]) rfl ?_
      exact ⟨_, rfl, HQ.out⟩

theorem rg_tns (l : List Tn) (h : ∀ x ∈ l, x.n = 1) : tns (l.map Tn.rg) = l := by
  induction l with
  | nil => rfl
  | cons x l ih =>
    have := h x List.mem_cons_self
    obtain ⟨c, f, t, n⟩ := x
    simp only at this
    subst this
    rw [List.map_cons, tns_cons, ih fun y hy => h y (List.mem_cons_of_mem _ hy)]
    rfl
/-- What a list in its form tells is told by one of it, at where it begins. -/
theorem Canon.told {l : List Tn} (h : Canon l) {x : Tn} (hx : x ∈ l) : val l x.c x.f = x.n := by
  induction l with
  | nil => cases hx
  | cons y l ih =>
    have ho := Tn.ok_iff.1 h.ok
    rcases List.mem_cons.1 hx with rfl | hx
    · have : x.has x.c x.f = true := Tn.has_iff.2 ⟨rfl, Int.le_refl _, by omega⟩
      rw [val, if_pos this]
    · have hb := h.bef x hx
      have hox := Tn.ok_iff.1 (h.tail.oks x hx)
      have : y.has x.c x.f = false := Tn.has_not.2 (by unfold Bef at hb; omega)
      rw [val, this]
      exact ih h.tail hx
/-- A list of turns that tells 0 and 1 alone is one of ranges. -/
theorem Form.ranges {l : List Tn} {F : Int → Int → Int} (h : Form l F) (hF : ∀ c k, F c k = 0 ∨ F c k = 1) : Form (tns (l.map Tn.rg)) F := by
  rw [rg_tns]
  · exact h
  · intro x hx
    have h1 := h.1.told hx
    have h2 := Tn.ok_iff.1 (h.1.oks x hx)
    have h3 := hF x.c x.f
    rw [← h.2, h1] at h3
    omega
theorem turnOf_tns (l : List Rg) (c k : Int) : turnOf (tns l) c k = 0 ∨ turnOf (tns l) c k = 1 := by
  induction l with
  | nil => exact .inl rfl
  | cons x l ih =>
    rw [tns_cons, turnOf]
    have : x.tn.n = 1 := rfl
    split
    · rw [this]; omega
    · exact ih
/-- Picks of sets are sets. -/
def Pick01 (p : Int → Int → Int) : Prop := ∀ x y, (x = 0 ∨ x = 1) → (y = 0 ∨ y = 1) → p x y = 0 ∨ p x y = 1
theorem pick_max : Pick max := ⟨rfl, fun x y _ _ _ _ => by omega⟩
theorem pick_min : Pick min := ⟨rfl, fun x y _ _ _ _ => by omega⟩
theorem pick_ab : Pick ifAb := ⟨rfl, fun x y _ _ _ _ => by unfold ifAb; split <;> omega⟩
theorem p01_max : Pick01 max := fun x y _ _ => by omega
theorem p01_min : Pick01 min := fun x y _ _ => by omega
theorem p01_ab : Pick01 ifAb := fun x y _ _ => by unfold ifAb; split <;> omega

end Go.Proofs.Ytccgiabihagjoaa
