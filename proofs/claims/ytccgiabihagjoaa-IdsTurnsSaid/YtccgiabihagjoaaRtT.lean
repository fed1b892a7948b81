/- The contracts of the document's Turns, JoinTurns, Hidden; of ids.JoinTurns and Above. -/
import Derived.Test.YtccgiabihagjoaaRtA
import Derived.Test.YtccgiabihagjoaaIdHid
import Derived.Test.YtccgiabihagjoaaRfC
namespace Go.Proofs.Ytccgiabihagjoaa
open Go.RowKit Go.Maps
set_option linter.unusedVariables false
set_option linter.unusedSimpArgs false
set_option maxRecDepth 100000

theorem fAb_nil (l : List Tn) (c k : Int) : fAb l [] c k = turnOf l c k := by
  have := (turnOf_pos l c k).1
  unfold fAb ifAb
  show (if (0 : Int) < turnOf l c k then turnOf l c k else 0) = _
  split <;> omega
set_option maxHeartbeats 800000 in
theorem rturns_any (l : List Tn) (v : Value) (w : World) (hs : SlT w v l) (hll : l.length ≤ 1000) :
    Calls Try.prog 10 #[v] w fun e w' => ∃ v' out, e = .returned v' ∧ NewT w w' v' out ∧ Form out (turnOf l) ∧ out.length ≤ 4000000 := by
  have K := above_any l [] v (.slice none 0 0) w hs (SlT.nil w) hll (by simp)
  obtain ⟨ao, cap, rfl, _⟩ := hs
  go_enter Try.func10, Try.ntmps10
  go_wp2_with fail
  refine K.mono ?_
  rintro e w1 ⟨v1, out, rfl, n1, f1, l1⟩
  have HQ : Hid (NewT w w1 v1 out ∧ Form out (turnOf l) ∧ out.length ≤ 4000000) := ⟨n1, f1.of fun c k => fAb_nil l c k, l1⟩
  obtain ⟨ao1, cap1, rfl, _⟩ := n1.shape
  clear n1 f1 l1 K
  go_wp2_with fail
  refine bodyPost_ret (v := .slice ao1 out.length cap1) (by simp [results, Try.results10, go_sem]) rfl ?_
  first | exact ⟨_, _, rfl, HQ.out⟩ | exact ⟨_, rfl, _, HQ.out⟩
set_option maxHeartbeats 800000 in
theorem rjoinT_any (a b : List Tn) (va vb : Value) (w : World) (ha : SlT w va a) (hb : SlT w vb b) (hla : a.length ≤ 400) (hlb : b.length ≤ 400) :
    Calls Try.prog 18 #[va, vb] w fun e w' => ∃ v' out, e = .returned v' ∧ NewT w w' v' out ∧ Form out (fun c k => max (turnOf a c k) (turnOf b c k)) := by
  have la := ha
  have lb := hb
  obtain ⟨aoa, capa, rfl, _⟩ := ha
  obtain ⟨aob, capb, rfl, _⟩ := hb
  obtain ⟨v2, w2, hrun2, hN2, _⟩ := (NewT.nil w w (Touch.refl _ _)).app aoa a.length capa a rfl la.lies.1 la.lies.2 (by simp; omega)
  obtain ⟨v3, w3, hrun3, hN3, _⟩ := hN2.app aob b.length capb b rfl lb.lies.1 (lb.lies.2.touch hN2.touch) (by simp; omega)
  obtain ⟨ab, hab⟩ : ∃ ab, Hid (ab = a ++ b) := ⟨_, rfl⟩
  rw [List.nil_append] at hN2 hN3
  rw [← hab.out] at hN3
  have C2 := rturns_any ab v3 w3 hN3.sl (by rw [hab.out]; simp; omega)
  have HT1 : Hid (Touch (fun _ => False) w w3) := hN3.touch
  obtain ⟨ao2, cap2, rfl, _⟩ := hN2.shape
  obtain ⟨ao3, cap3, rfl, _⟩ := hN3.shape
  clear hN2 hN3 la lb
  go_enter Try.func18, Try.ntmps18
  go_wp2_with (first | (at_builtin; refine wpList_append_runT rfl _ _ rfl _ _ _ rfl rfl hrun2 ?_) | (at_builtin; refine wpList_append_runT rfl _ _ rfl _ _ _ rfl rfl hrun3 ?_))
  refine C2.mono ?_
  rintro e w4 ⟨v4, out, rfl, n4, f4, l4⟩
  have HQ : Hid (NewT w w4 v4 out ∧ Form out (fun c k => max (turnOf a c k) (turnOf b c k))) := ⟨n4.since HT1.out, f4.of fun c k => by rw [hab.out, turnOf_append]⟩
  obtain ⟨ao5, cap5, rfl, _⟩ := n4.shape
  clear n4 f4 C2 l4
  go_wp2_with fail
  refine bodyPost_ret (v := .slice ao5 out.length cap5) (by simp [results, Try.results18, go_sem]) rfl ?_
  first | exact ⟨_, _, rfl, HQ.out⟩ | exact ⟨_, rfl, _, HQ.out⟩
theorem step_append_rtR {w w' : World} {ops : Array Oper} {o : Oper} {a : Act} {K : Act → World → Prop} {Q : Exit → Act → World → Prop} {E : Prop} (hw : Region.wanted o (yielded ops a.tmps) = true) (s x : Operand)
    (ho : o.op = .call { callee := .builtin .append, args := #[s, x], argTypes := #[32, 32] }) (v y v' : Value) (hs : a.eval s = v) (hx : a.eval x = y)
    (hrun : (Builtin.append_ #[32, 32] o.type #[v, y]).run Try.prog w = .ok v' w') (h : K (a.put o.dst v') w') :
    if Region.wanted o (yielded ops a.tmps) = true then Oper.wp Try.prog o a w K Q else E := by
  rw [if_pos hw]
  unfold Oper.wp
  simp [execOp, ho, resolve, invoke, builtin, hs, hx, hrun, Result.andThen]
  exact h
theorem odd_next {l : List Tn} {i : Nat} (hi : i < l.length) : ((l.take (i + 1)).filter oddT).map Tn.rg = ((l.take i).filter oddT).map Tn.rg ++ (if oddT l[i] then [l[i].rg] else []) := by
  rw [List.take_succ_eq_append_getElem hi, List.filter_append, List.map_append]
  congr 1
  by_cases h : oddT l[i] = true <;> simp [h]
set_option maxHeartbeats 1600000 in
theorem rhidden_any (l : List Tn) (v : Value) (w : World) (hs : SlT w v l) (hll : l.length ≤ 1000) :
    Calls Try.prog 14 #[v] w fun e w' => ∃ v' out, e = .returned v' ∧ NewR w w' v' out ∧ Form (tns out) (fun c k => turnOf l c k % 2) := by
  have HC := rturns_any l v w hs hll
  obtain ⟨ao, cap, rfl, _⟩ := hs
  go_enter Try.func14, Try.ntmps14
  go_wp2_with fail
  refine HC.mono ?_
  rintro e w1 ⟨v1, ol, rfl, hN, hF, hol⟩
  have HF : Hid (Form ol (turnOf l) ∧ Touch (fun _ => False) w w1) := ⟨hF, hN.touch⟩
  have HSl : Hid (SlT w1 v1 ol) := hN.sl
  obtain ⟨ao1, cap1, rfl, _, hc1, hc2⟩ := hN.shape
  clear hN hF HC
  go_wp2_with fail
  go_loopg [3, 4] ol.length (fun g s3 s4 wx => ∃ (j L : Nat) (rs : List Rg), j + g = ol.length ∧ s4 = .int .i64 (j : Int) ∧ Hid (NewR w1 wx s3 rs ∧ rs = ((ol.take j).filter oddT).map Tn.rg) ∧ Hid (rs.length = L) ∧ L ≤ j ∧ ∃ ao cap, s3 = .slice ao L cap)
  case atStart => exact ⟨0, 0, [], by omega, rfl, ⟨NewR.nil w1 w1 (Touch.refl _ _), rfl⟩, rfl, Nat.le_refl _, ⟨_, _, rfl⟩⟩
  case round =>
    obtain ⟨j, L, rs, hjg, rfl, H, HJ, hLj, ⟨ao3, cap3, rfl⟩⟩ := hrel
    obtain ⟨wx, hwx⟩ : ∃ wx, wx = wr := ⟨_, rfl⟩
    subst hwx
    by_cases hlt : j < ol.length
    · have hne : ol ≠ [] := by rintro rfl; simp at hlt
      obtain ⟨b, o, cp, e, _, _, hb, hrow⟩ := (HSl.out.touch H.out.1.touch).row hne
      obtain ⟨rfl, _, rfl⟩ : ao1 = some ⟨b, o, none⟩ ∧ True ∧ cap1 = cp := by simpa using e
      have HK : Hid (∀ W, Touch (fun _ => False) w1 W → W.cell? ⟨b, o + j * 4, none⟩ = some (.int .u64 ol[j].c) ∧ W.cell? ⟨b, o + j * 4 + 1, none⟩ = some (.int .u64 ol[j].f) ∧ W.cell? ⟨b, o + j * 4 + 2, none⟩ = some (.int .u64 ol[j].t) ∧ W.cell? ⟨b, o + j * 4 + 3, none⟩ = some (.int .u64 ol[j].n)) := fun W t => by
        obtain ⟨b', o', cp', e', _, _, hb', hrow'⟩ := (HSl.out.touch t).row hne
        simp only [Value.slice.injEq, Option.some.injEq, Addr.mk.injEq] at e'
        obtain ⟨⟨rfl, rfl, _⟩, _, _⟩ := e'
        exact hrow' j hlt
      have HE : Hid (((ol.take (j + 1)).filter oddT).map Tn.rg = rs ++ (if oddT ol[j] then [ol[j].rg] else [])) := by rw [Hid, odd_next hlt, ← H.out.2]
      have HN0 : Hid (NewR w1 wx (.slice ao3 L cap3) rs) := by have := H.out.1; exact this
      clear hrow e hne H
      generalize ol[j] = x at *
      obtain ⟨xc, xf, xt, xn⟩ := x
      simp only at HK
      have i3 : (j : Int) < (ol.length : Int) := by omega
      have i4 : (0 : Int) ≤ (j : Int) := by omega
      obtain ⟨c0, c1, c2, c3⟩ := HK.out wx HN0.out.touch
      by_cases hod : xn.tmod 2 = 1
      · have HM : Hid (((ol.take (j + 1)).filter oddT).map Tn.rg = rs ++ [⟨xc, xf, xt⟩]) := by
          rw [Hid, HE.out, if_pos (by unfold oddT; simpa using hod)]; rfl
        obtain ⟨v5, w5, hrun, hN5, _⟩ := NewR.app1 (HN0.out.on (Touch.refl _ _).drew) ⟨xc, xf, xt⟩ (by have := HJ.out; omega)
        have hrun2 : (Builtin.append_ #[32, 32] 32 #[.slice ao3 L cap3, .slice (some ⟨wx.heap.size, 0, none⟩) 1 1]).run Try.prog ((wx.alloc (rgO ⟨xc, xf, xt⟩)).drew) = .ok v5 w5 := hrun
        have HQ : Hid (NewR w1 w5 v5 (rs ++ [⟨xc, xf, xt⟩]) ∧ rs ++ [⟨xc, xf, xt⟩] = ((ol.take (j + 1)).filter oddT).map Tn.rg) := ⟨hN5, HM.out.symm⟩
        have hl5 : (rs ++ [(⟨xc, xf, xt⟩ : Rg)]).length = L + 1 := by simp [HJ.out]
        obtain ⟨ao5, cap5, hv5, _⟩ := hN5.shape
        rw [hl5] at hv5
        subst hv5
        have S0 : wx.cell? ⟨b, o + j * 4, none⟩ = some (.int .u64 xc) ∧ wx.cell? ⟨b, o + j * 4 + 1, none⟩ = some (.int .u64 xf) ∧ wx.cell? ⟨b, o + j * 4 + 2, none⟩ = some (.int .u64 xt) := ⟨c0, c1, c2⟩
        have S1 : wx.drew.cell? ⟨b, o + j * 4, none⟩ = some (.int .u64 xc) ∧ wx.drew.cell? ⟨b, o + j * 4 + 1, none⟩ = some (.int .u64 xf) ∧ wx.drew.cell? ⟨b, o + j * 4 + 2, none⟩ = some (.int .u64 xt) := ⟨c0, c1, c2⟩
        have S2 : ((wx.alloc (rgO ⟨xc, xf, xt⟩)).drew).cell? ⟨b, o + j * 4, none⟩ = some (.int .u64 xc) ∧ ((wx.alloc (rgO ⟨xc, xf, xt⟩)).drew).cell? ⟨b, o + j * 4 + 1, none⟩ = some (.int .u64 xf) ∧ ((wx.alloc (rgO ⟨xc, xf, xt⟩)).drew).cell? ⟨b, o + j * 4 + 2, none⟩ = some (.int .u64 xt) := by
          obtain ⟨a0, a1, a2, _⟩ := HK.out _ (HN0.out.touch.alloc (rgO ⟨xc, xf, xt⟩)).drew
          exact ⟨a0, a1, a2⟩
        have S3 : w5.cell? ⟨b, o + j * 4, none⟩ = some (.int .u64 xc) ∧ w5.cell? ⟨b, o + j * 4 + 1, none⟩ = some (.int .u64 xf) ∧ w5.cell? ⟨b, o + j * 4 + 2, none⟩ = some (.int .u64 xt) := by
          obtain ⟨a0, a1, a2, _⟩ := HK.out _ hN5.touch
          exact ⟨a0, a1, a2⟩
        have HL5 : Hid ((rs ++ [(⟨xc, xf, xt⟩ : Rg)]).length = L + 1) := hl5
        clear hN5 hrun hl5 HN0 HM HE HK
        go_wp2_with fail
        go_region_held3 (fun W => W.cell? ⟨b, o + j * 4, none⟩ = some (.int .u64 xc) ∧ W.cell? ⟨b, o + j * 4 + 1, none⟩ = some (.int .u64 xf) ∧ W.cell? ⟨b, o + j * 4 + 2, none⟩ = some (.int .u64 xt)) (first | assumption)
          (first | (refine step_append_rtR (by rfl) _ _ rfl _ _ _ rfl rfl hrun2 ?_))
        all_goals (try go_wp2_with fail)
        all_goals (go_roundg (ol.length - (j + 1)))
        all_goals (first | (case measure => omega) | skip)
        all_goals exact ⟨j + 1, L + 1, _, by omega, by go_num, HQ.out, HL5.out, by omega, ⟨_, _, rfl⟩⟩
      · have HM : Hid (rs = ((ol.take (j + 1)).filter oddT).map Tn.rg) := by
          rw [Hid, HE.out, if_neg (by unfold oddT; simpa using hod), List.append_nil]
        have hod2 : (xn.tmod 2 == 1) = false := by simpa using hod
        clear HE HK
        go_wp2_with fail
        go_roundg (ol.length - (j + 1))
        case measure => omega
        case rel => exact ⟨j + 1, L, rs, by omega, by go_num, ⟨HN0.out, HM.out⟩, HJ.out, by omega, ⟨_, _, rfl⟩⟩
    · have hjl : j = ol.length := by omega
      subst hjl
      have C2 := rclean_any rs _ wx (show SlR wx (.slice ao3 L cap3) rs from H.out.1.sl) (by have := HJ.out; omega)
      have HFx : Hid ((∀ c k, turnOf (tns rs) c k = turnOf l c k % 2) ∧ Touch (fun _ => False) w wx) := by
        refine ⟨fun c k => ?_, HF.out.2.trans H.out.1.touch⟩
        have e := H.out.2
        rw [List.take_length] at e
        rw [e, HF.out.1.1.odd, HF.out.1.2]
      clear H HSl
      go_wp2_with fail
      refine C2.mono ?_
      rintro e w5 ⟨v5, out, rfl, n5, f5, _⟩
      have HQ : Hid (NewR w w5 v5 out ∧ Form (tns out) (fun c k => turnOf l c k % 2)) := ⟨n5.since HFx.out.2, f5.of HFx.out.1⟩
      obtain ⟨ao5, cap5, rfl, _⟩ := n5.shape
      clear n5 f5 C2
      go_wp2_with fail
      refine bodyPost_ret (v := .slice ao5 out.length cap5) (by simp [results, Try.results14, go_sem]) rfl ?_
      first | exact ⟨_, _, rfl, HQ.out⟩ | exact ⟨_, rfl, _, HQ.out⟩
end Go.Proofs.Ytccgiabihagjoaa
