/- The contracts of ids.once, rangesOf, mix, Join, Meet, Minus. -/
import Derived.Test.YtdblfabbmpdoiaaGreatIdClean
import Derived.Test.YtdblfabbmpdoiaaGreatIdBlend
namespace Go.Proofs.YtdblfabbmpdoiaaGreat
open Go.RowKit Go.Maps
set_option linter.unusedVariables false
set_option linter.unusedSimpArgs false
set_option maxRecDepth 100000

theorem tns_len (l : List Rg) : (tns l).length = l.length := by unfold tns; simp
theorem tns_take (l : List Rg) (j : Nat) : tns (l.take j) = (tns l).take j := by unfold tns; rw [List.map_take]
set_option maxHeartbeats 1600000 in
theorem once_any (l : List Rg) (v : Value) (w : World) (hs : SlR w v l) (hll : l.length ≤ 134217728) :
    Calls Tryz.prog 66 #[v] w fun e w' => ∃ v' ts, e = .returned v' ∧ NewT w w' v' ts ∧ Form ts (turnOf (tns l)) ∧ ts.length ≤ l.length := by
  have HC := cleanI_any l v w hs (by omega)
  obtain ⟨ao, cap, rfl, _⟩ := hs
  go_enter Tryz.func66, Tryz.ntmps66
  go_wp2_with fail
  refine HC.mono ?_
  rintro e w1 ⟨v1, out, rfl, hN, hF, hol⟩
  have HF : Hid (Form (tns out) (turnOf (tns l)) ∧ Touch (fun _ => False) w w1) := ⟨hF, hN.touch⟩
  have HSl : Hid (SlR w1 v1 out) := hN.sl
  obtain ⟨ao1, cap1, rfl, _, hc1, hc2⟩ := hN.shape
  clear hN hF HC
  go_wp2_with fail
  go_loopg [3, 9] out.length (fun g s3 s9 wx => ∃ (j : Nat) (ts : List Tn), j + g = out.length ∧ s9 = .int .i64 (j : Int) ∧ Hid (NewT w1 wx s3 ts ∧ ts = tns (out.take j)) ∧ ts.length = j ∧ ∃ ao cap, s3 = .slice ao ts.length cap)
  case atStart => exact ⟨0, [], by omega, rfl, ⟨NewT.nil w1 w1 (Touch.refl _ _), rfl⟩, rfl, ⟨_, _, rfl⟩⟩
  case round =>
    obtain ⟨j, ts, hjg, rfl, H, hts, ⟨ao3, cap3, rfl⟩⟩ := hrel
    by_cases hlt : j < out.length
    · have hne : out ≠ [] := by rintro rfl; simp at hlt
      obtain ⟨b, o, cp, e, _, _, hb, hrow⟩ := (HSl.out.touch H.out.1.touch).row hne
      obtain ⟨rfl, _, rfl⟩ : ao1 = some ⟨b, o, none⟩ ∧ True ∧ cap1 = cp := by simpa using e
      obtain ⟨c0, c1, c2⟩ := hrow j hlt
      have HE : Hid (out.take (j + 1) = out.take j ++ [out[j]]) := List.take_succ_eq_append_getElem hlt
      generalize out[j] = r at *
      obtain ⟨v5, w5, hrun, hN5, _⟩ := NewT.app1 (H.out.1.on ((Touch.refl _ wr).alloc (rgO r))) r.tn (by omega)
      rw [World.size_alloc] at hrun
      obtain ⟨rc, rf, rt⟩ := r
      have HQ : Hid (NewT w1 w5 v5 (ts ++ [Rg.tn ⟨rc, rf, rt⟩]) ∧ ts ++ [Rg.tn ⟨rc, rf, rt⟩] = tns (out.take (j + 1))) := ⟨hN5, by rw [HE.out, tns_append, ← H.out.2]; rfl⟩
      have hl5 : (ts ++ [Rg.tn ⟨rc, rf, rt⟩]).length = j + 1 := by simp [hts]
      obtain ⟨ao5, cap5, hv5, _⟩ := hN5.shape
      rw [hl5] at hv5
      subst hv5
      clear hN5 hrow e hne
      simp only [Rg.tn] at hrun c0 c1 c2
      go_wp2_with (at_builtin; refine wpList_append_runT rfl _ _ rfl _ _ _ rfl rfl hrun ?_)
      go_roundg (out.length - (j + 1))
      case measure => omega
      case rel => exact ⟨j + 1, _, by omega, by go_num, HQ.out, hl5, ⟨_, _, by rw [hl5]⟩⟩
    · have hjl : j = out.length := by omega
      subst hjl
      have HQ : Hid (NewT w wr (.slice ao3 ts.length cap3) ts ∧ Form ts (turnOf (tns l)) ∧ ts.length ≤ l.length) := ⟨H.out.1.since HF.out.2, by rw [H.out.2, List.take_length]; exact HF.out.1, by omega⟩
      clear H
      go_wp2_with fail
      refine bodyPost_ret (v := .slice ao3 ts.length cap3) (by simp [results, Tryz.results66, go_sem]) rfl ?_
      exact ⟨_, _, rfl, HQ.out⟩
set_option maxHeartbeats 400000 in
theorem rangeOf_any (t : Tn) (w : World) : Calls Tryz.prog 80 #[tnV t] w fun e w' => e = .returned (rgV t.rg) ∧ w' = (w.alloc (tnO t)).alloc (rgO t.rg) := by
  obtain ⟨c, f, t, n⟩ := t
  go_enter Tryz.func80, Tryz.ntmps80
  go_wp2_with fail
  exact bodyPost_ret (v := rgV ⟨c, f, t⟩) (by simp [results, Tryz.results80, go_sem]) rfl ⟨rfl, rfl⟩
set_option maxHeartbeats 1600000 in
theorem rangesOf_any (l : List Tn) (v : Value) (w : World) (hs : SlT w v l) (hll : l.length ≤ 1073741824) :
    Calls Tryz.prog 64 #[v] w fun e w' => ∃ v', e = .returned v' ∧ NewR w w' v' (l.map Tn.rg) := by
  have HSl : Hid (SlT w v l) := hs
  obtain ⟨ao1, cap1, rfl, _, hc1, hc2, _⟩ := hs
  have HR := fun t W => rangeOf_any t W
  go_enter Tryz.func64, Tryz.ntmps64
  go_wp2_with fail
  go_loopg [3, 8] l.length (fun g s3 s8 wx => ∃ (j : Nat) (rs : List Rg), j + g = l.length ∧ s8 = .int .i64 (j : Int) ∧ Hid (NewR w wx s3 rs ∧ rs = (l.take j).map Tn.rg) ∧ rs.length = j ∧ ∃ ao cap, s3 = .slice ao rs.length cap)
  case atStart => exact ⟨0, [], by omega, rfl, ⟨NewR.nil w w (Touch.refl _ _), rfl⟩, rfl, ⟨_, _, rfl⟩⟩
  case round =>
    obtain ⟨j, ts, hjg, rfl, H, hts, ⟨ao3, cap3, rfl⟩⟩ := hrel
    subst hts
    by_cases hlt : ts.length < l.length
    · have hne : l ≠ [] := by rintro rfl; simp at hlt
      obtain ⟨b, o, cp, e, _, _, hb, hrow⟩ := (HSl.out.touch H.out.1.touch).row hne
      obtain ⟨rfl, _, rfl⟩ : ao1 = some ⟨b, o, none⟩ ∧ True ∧ cap1 = cp := by simpa using e
      obtain ⟨c0, c1, c2, c3⟩ := hrow ts.length hlt
      have HE : Hid (l.take (ts.length + 1) = l.take ts.length ++ [l[ts.length]]) := List.take_succ_eq_append_getElem hlt
      generalize l[ts.length] = r at *
      have HRr := HR r
      obtain ⟨v5, w5, hrun, hN5, _⟩ := NewR.app1 (H.out.1.on ((((Touch.refl _ wr).alloc (tnO r)).alloc (tnO r)).alloc (rgO r.rg))) r.rg (by omega)
      rw [World.size_alloc, World.size_alloc, World.size_alloc] at hrun
      obtain ⟨rc, rf, rt, rn⟩ := r
      have HQ : Hid (NewR w w5 v5 (ts ++ [Tn.rg ⟨rc, rf, rt, rn⟩]) ∧ ts ++ [Tn.rg ⟨rc, rf, rt, rn⟩] = (l.take (ts.length + 1)).map Tn.rg) := ⟨hN5, by rw [HE.out, List.map_append, ← H.out.2]; rfl⟩
      have hl5 : (ts ++ [Tn.rg ⟨rc, rf, rt, rn⟩]).length = ts.length + 1 := by simp
      obtain ⟨ao5, cap5, hv5, _⟩ := hN5.shape
      rw [hl5] at hv5
      subst hv5
      clear hN5 hrow e hne HR
      simp only [Tn.rg] at hrun c0 c1 c2 c3 HRr
      go_wp2_with (first | (go_at_call 80; refine (HRr _).mono ?_; rintro e w' ⟨rfl, rfl⟩) | (at_builtin; refine wpList_append_runR rfl _ _ rfl _ _ _ rfl rfl hrun ?_))
      go_roundg (l.length - (ts.length + 1))
      case measure => omega
      case rel => exact ⟨ts.length + 1, _, by omega, by go_num, HQ.out, hl5, ⟨_, _, by rw [hl5]⟩⟩
    · have hjl : ts.length = l.length := by omega
      have HQ : Hid (NewR w wr (.slice ao3 ts.length cap3) (l.map Tn.rg)) := by
        have h := H.out.1
        have e := H.out.2
        rw [hjl, List.take_length] at e
        subst e; exact h
      clear H
      go_wp2_with fail
      refine bodyPost_ret (v := .slice ao3 ts.length cap3) (by simp [results, Tryz.results64, go_sem]) rfl ?_
      exact ⟨_, rfl, HQ.out⟩

theorem rg_tns (l : List Tn) (h : ∀ x ∈ l, x.n = 1) : tns (l.map Tn.rg) = l := by
  induction l with
  | nil => rfl
  | cons x l ih =>
    have := h x List.mem_cons_self
    obtain ⟨c, f, t, n⟩ := x
    simp only at this
    subst this
    rw [List.map_cons, tns_cons, ih fun y hy => h y (List.mem_cons_of_mem _ hy)]
    rfl
/-- What a list in its form tells is told by one of it, at where it begins. -/
theorem Canon.told {l : List Tn} (h : Canon l) {x : Tn} (hx : x ∈ l) : val l x.c x.f = x.n := by
  induction l with
  | nil => cases hx
  | cons y l ih =>
    have ho := Tn.ok_iff.1 h.ok
    rcases List.mem_cons.1 hx with rfl | hx
    · have : x.has x.c x.f = true := Tn.has_iff.2 ⟨rfl, Int.le_refl _, by omega⟩
      rw [val, if_pos this]
    · have hb := h.bef x hx
      have hox := Tn.ok_iff.1 (h.tail.oks x hx)
      have : y.has x.c x.f = false := Tn.has_not.2 (by unfold Bef at hb; omega)
      rw [val, this]
      exact ih h.tail hx
/-- A list of turns that tells 0 and 1 alone is one of ranges. -/
theorem Form.ranges {l : List Tn} {F : Int → Int → Int} (h : Form l F) (hF : ∀ c k, F c k = 0 ∨ F c k = 1) : Form (tns (l.map Tn.rg)) F := by
  rw [rg_tns]
  · exact h
  · intro x hx
    have h1 := h.1.told hx
    have h2 := Tn.ok_iff.1 (h.1.oks x hx)
    have h3 := hF x.c x.f
    rw [← h.2, h1] at h3
    omega
theorem turnOf_tns (l : List Rg) (c k : Int) : turnOf (tns l) c k = 0 ∨ turnOf (tns l) c k = 1 := by
  induction l with
  | nil => exact .inl rfl
  | cons x l ih =>
    rw [tns_cons, turnOf]
    have : x.tn.n = 1 := rfl
    split
    · rw [this]; omega
    · exact ih
/-- Picks of sets are sets. -/
def Pick01 (p : Int → Int → Int) : Prop := ∀ x y, (x = 0 ∨ x = 1) → (y = 0 ∨ y = 1) → p x y = 0 ∨ p x y = 1
set_option maxHeartbeats 1600000 in
theorem mix_any (a b : List Rg) (va vb : Value) (w : World) (ha : SlR w va a) (hb : SlR w vb b) (hla : a.length ≤ 33554432) (hlb : b.length ≤ 33554432) (G : Nat) (p : Int → Int → Int) (hp : Pick p) (h01 : Pick01 p) (eG : ∀ args w, (callFunc G args).run Tryz.prog w = .ok (.enter G args) w)
    (hG : ∀ x y W, Calls Tryz.prog G #[u64 x, u64 y] W fun e w' => e = .returned (u64 (p x y)) ∧ w' = W) :
    Calls Tryz.prog 54 #[va, vb, .func (.func G) #[] #[]] w fun e w' => ∃ v' out, e = .returned v' ∧ NewR w w' v' out ∧ Form (tns out) (fun c k => p (turnOf (tns a) c k) (turnOf (tns b) c k)) ∧ out.length ≤ 2 * (a.length + b.length) + 1 := by
  have O1 := once_any a va w ha (by omega)
  have O2 := fun W (t : Touch (fun _ => False) w W) => once_any b vb W (hb.touch t) (by omega)
  have HB := fun W A0 B0 v1 v2 h1 h2 h3 h4 h5 h6 => blend_any W A0 B0 v1 v2 G p hp eG hG h1 h2 h3 h4 h5 h6
  have H01 : Hid (Pick01 p) := h01
  clear hp h01 hG
  obtain ⟨aoa, capa, rfl, _⟩ := ha
  obtain ⟨aob, capb, rfl, _⟩ := hb
  go_enter Tryz.func54, Tryz.ntmps54
  go_wp2_with fail
  refine O1.mono ?_
  rintro e w1 ⟨v1, A0, rfl, n1, f1, l1⟩
  have O2' := O2 w1 n1.touch
  have H1 : Hid (NewT w w1 v1 A0 ∧ Form A0 (turnOf (tns a)) ∧ A0.length ≤ a.length) := ⟨n1, f1, l1⟩
  obtain ⟨ao1, cap1, rfl, _⟩ := n1.shape
  clear n1 f1 O1 O2
  go_wp2_with fail
  refine O2'.mono ?_
  rintro e w2 ⟨v2, B0, rfl, n2, f2, l2⟩
  have B' := HB w2 A0 B0 _ _ (H1.out.1.sl.touch n2.touch) n2.sl H1.out.2.1.1 f2.1 (by omega) (by omega)
  have H2 : Hid (Touch (fun _ => False) w w2 ∧ Form B0 (turnOf (tns b))) := ⟨H1.out.1.touch.trans n2.touch, f2⟩
  obtain ⟨ao2, cap2, rfl, _⟩ := n2.shape
  clear n2 f2 O2' HB
  go_wp2_with fail
  refine B'.mono ?_
  rintro e w3 ⟨v3, out, rfl, n3, f3, l3⟩
  have R' := rangesOf_any out _ w3 n3.sl (by omega)
  have H3 : Hid (Touch (fun _ => False) w w3 ∧ Form (tns (out.map Tn.rg)) (fun c k => p (turnOf (tns a) c k) (turnOf (tns b) c k))) := by
    refine ⟨H2.out.1.trans n3.touch, ?_⟩
    have g := f3.of (G := fun c k => p (turnOf (tns a) c k) (turnOf (tns b) c k)) fun c k => by rw [H1.out.2.1.2, H2.out.2.2]
    exact g.ranges fun c k => H01.out _ _ (turnOf_tns a c k) (turnOf_tns b c k)
  obtain ⟨ao3, cap3, rfl, _⟩ := n3.shape
  clear n3 f3 B'
  go_wp2_with fail
  refine R'.mono ?_
  rintro e w4 ⟨v4, rfl, n4⟩
  have HQ : Hid (NewR w w4 v4 (out.map Tn.rg)) := n4.since H3.out.1
  have hml : (out.map Tn.rg).length = out.length := by simp
  obtain ⟨ao4, cap4, rfl, _⟩ := n4.shape
  clear n4 R'
  go_wp2_with fail
  refine bodyPost_ret (v := .slice ao4 (out.map Tn.rg).length cap4) (by simp [results, Tryz.results54, go_sem]) rfl ?_
  exact ⟨_, _, rfl, HQ.out, H3.out.2, by omega⟩
theorem pick_max : Pick max := ⟨rfl, fun x y _ _ _ _ => by omega⟩
theorem pick_min : Pick min := ⟨rfl, fun x y _ _ _ _ => by omega⟩
theorem pick_ab : Pick ifAb := ⟨rfl, fun x y _ _ _ _ => by unfold ifAb; split <;> omega⟩
theorem p01_max : Pick01 max := fun x y _ _ => by omega
theorem p01_min : Pick01 min := fun x y _ _ => by omega
theorem p01_ab : Pick01 ifAb := fun x y _ _ => by unfold ifAb; split <;> omega

set_option maxHeartbeats 400000 in
theorem meetI_any (a b : List Rg) (va vb : Value) (w : World) (ha : SlR w va a) (hb : SlR w vb b) (hla : a.length ≤ 33554432) (hlb : b.length ≤ 33554432) :
    Calls Tryz.prog 43 #[va, vb] w fun e w' => ∃ v' out, e = .returned v' ∧ NewR w w' v' out ∧ Form (tns out) (fun c k => min (turnOf (tns a) c k) (turnOf (tns b) c k)) ∧ out.length ≤ 2 * (a.length + b.length) + 1 := by
  have M := mix_any a b va vb w ha hb hla hlb 58 min pick_min p01_min (enters_of Tryz.func58 (by kernel_rfl) rfl) (fun x y W => lesser_any x y W)
  obtain ⟨aoa, capa, rfl, _⟩ := ha
  obtain ⟨aob, capb, rfl, _⟩ := hb
  go_enter Tryz.func43, Tryz.ntmps43
  go_wp2_with fail
  refine M.mono ?_
  rintro e w1 ⟨v1, out, rfl, n1, f1, l1⟩
  have HQ : Hid (NewR w w1 v1 out ∧ Form (tns out) (fun c k => min (turnOf (tns a) c k) (turnOf (tns b) c k))) := ⟨n1, f1⟩
  obtain ⟨ao4, cap4, rfl, _⟩ := n1.shape
  clear n1 f1 M
  go_wp2_with fail
  refine bodyPost_ret (v := .slice ao4 out.length cap4) (by simp [results, Tryz.results43, go_sem]) rfl ?_
  exact ⟨_, _, rfl, HQ.out.1, HQ.out.2, l1⟩
set_option maxHeartbeats 400000 in
theorem minusI_any (a b : List Rg) (va vb : Value) (w : World) (ha : SlR w va a) (hb : SlR w vb b) (hla : a.length ≤ 33554432) (hlb : b.length ≤ 33554432) :
    Calls Tryz.prog 39 #[va, vb] w fun e w' => ∃ v' out, e = .returned v' ∧ NewR w w' v' out ∧ Form (tns out) (fun c k => ifAb (turnOf (tns a) c k) (turnOf (tns b) c k)) ∧ out.length ≤ 2 * (a.length + b.length) + 1 := by
  have M := mix_any a b va vb w ha hb hla hlb 55 ifAb pick_ab p01_ab (enters_of Tryz.func55 (by kernel_rfl) rfl) (fun x y W => ifAbove_any x y W)
  obtain ⟨aoa, capa, rfl, _⟩ := ha
  obtain ⟨aob, capb, rfl, _⟩ := hb
  go_enter Tryz.func39, Tryz.ntmps39
  go_wp2_with fail
  refine M.mono ?_
  rintro e w1 ⟨v1, out, rfl, n1, f1, l1⟩
  have HQ : Hid (NewR w w1 v1 out ∧ Form (tns out) (fun c k => ifAb (turnOf (tns a) c k) (turnOf (tns b) c k))) := ⟨n1, f1⟩
  obtain ⟨ao4, cap4, rfl, _⟩ := n1.shape
  clear n1 f1 M
  go_wp2_with fail
  refine bodyPost_ret (v := .slice ao4 out.length cap4) (by simp [results, Tryz.results39, go_sem]) rfl ?_
  exact ⟨_, _, rfl, HQ.out.1, HQ.out.2, l1⟩
end Go.Proofs.YtdblfabbmpdoiaaGreat
