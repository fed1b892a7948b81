/- The contracts of the document's Ranges, Join, Meet, Within of clocks, and of its Right. -/
import Derived.Test.YtdblfabbmpdoiaaRvC
import Derived.Test.YtdblfabbmpdoiaaRowR
import Derived.Deep.RegionHeld3
namespace Go.Proofs.Ytdblfabbmpdoiaa
open Go.RowKit Go.Maps
set_option linter.unusedVariables false
set_option linter.unusedSimpArgs false
set_option maxRecDepth 100000

theorem step_append_rvR {w w' : World} {ops : Array Oper} {o : Oper} {a : Act} {K : Act → World → Prop} {Q : Exit → Act → World → Prop} {E : Prop} (hw : Region.wanted o (yielded ops a.tmps) = true) (s x : Operand)
    (ho : o.op = .call { callee := .builtin .append, args := #[s, x], argTypes := #[34, 34] }) (v y v' : Value) (hs : a.eval s = v) (hx : a.eval x = y)
    (hrun : (Builtin.append_ #[34, 34] o.type #[v, y]).run Try.prog w = .ok v' w') (h : K (a.put o.dst v') w') :
    if Region.wanted o (yielded ops a.tmps) = true then Oper.wp Try.prog o a w K Q else E := by
  rw [if_pos hw]
  unfold Oper.wp
  simp [execOp, ho, resolve, invoke, builtin, hs, hx, hrun, Result.andThen]
  exact h
theorem step_append_rvC {w w' : World} {ops : Array Oper} {o : Oper} {a : Act} {K : Act → World → Prop} {Q : Exit → Act → World → Prop} {E : Prop} (hw : Region.wanted o (yielded ops a.tmps) = true) (s x : Operand)
    (ho : o.op = .call { callee := .builtin .append, args := #[s, x], argTypes := #[22, 22] }) (v y v' : Value) (hs : a.eval s = v) (hx : a.eval x = y)
    (hrun : (Builtin.append_ #[22, 22] o.type #[v, y]).run Try.prog w = .ok v' w') (h : K (a.put o.dst v') w') :
    if Region.wanted o (yielded ops a.tmps) = true then Oper.wp Try.prog o a w K Q else E := by
  rw [if_pos hw]
  unfold Oper.wp
  simp [execOp, ho, resolve, invoke, builtin, hs, hx, hrun, Result.andThen]
  exact h
set_option maxHeartbeats 800000 in
theorem rvright_any (c k : Int) (w : World) : Calls Try.prog 14 #[idV c k] w fun e w' => e = .returned (.bool (numOk c && numOk k)) ∧ w' = w.alloc (idO c k) := by
  by_cases h1 : 1 ≤ c
  · by_cases h2 : c ≤ 9007199254740991
    · by_cases h3 : 1 ≤ k
      · by_cases h4 : k ≤ 9007199254740991
        · go_enter Try.func14, Try.ntmps14
          go_wp2_with fail
          go_ret
          exact ⟨by simp [numOk, h1, h2, h3, h4], rfl⟩
        · go_enter Try.func14, Try.ntmps14
          go_wp2_with fail
          go_ret
          exact ⟨by simp [numOk, h1, h2, h3, h4], rfl⟩
      · go_enter Try.func14, Try.ntmps14
        go_wp2_with fail
        go_ret
        exact ⟨by simp [numOk, h1, h2]; omega, rfl⟩
    · go_enter Try.func14, Try.ntmps14
      go_wp2_with fail
      go_ret
      exact ⟨by simp [numOk, h1]; omega, rfl⟩
  · go_enter Try.func14, Try.ntmps14
    go_wp2_with fail
    go_ret
    exact ⟨by simp [numOk]; omega, rfl⟩
set_option maxHeartbeats 1600000 in
theorem rvranges_any (l : List Ck) (v : Value) (w : World) (hs : SlC w v l) (hll : l.length ≤ 134217728) :
    Calls Try.prog 17 #[v] w fun e w' => ∃ v' out, e = .returned v' ∧ NewR w w' v' (rngs out) ∧ VForm out (atC l) ∧ out.length ≤ l.length := by
  have HC := rvclean_any l v w hs (by omega)
  obtain ⟨ao, cap, rfl, _⟩ := hs
  go_enter Try.func17, Try.ntmps17
  go_wp2_with fail
  refine HC.mono ?_
  rintro e w1 ⟨v1, out, rfl, hN, hF, hol⟩
  have HF : Hid (VForm out (atC l) ∧ Touch (fun _ => False) w w1 ∧ out.length ≤ l.length) := ⟨hF, hN.touch, hol⟩
  have HSl : Hid (SlC w1 v1 out) := hN.sl
  have hol2 : out.length ≤ 134217728 := by omega
  obtain ⟨ao1, cap1, rfl, _, hc1, hc2⟩ := hN.shape
  clear hN hF HC hol hll
  go_wp2_with fail
  go_loopg [3, 4] out.length (fun g s3 s4 wx => ∃ (j : Nat) (rs : List Rg), j + g = out.length ∧ s4 = .int .i64 (j : Int) ∧ Hid (NewR w1 wx s3 rs ∧ rs = rngs (out.take j)) ∧ rs.length = j ∧ ∃ ao cap, s3 = .slice ao rs.length cap)
  case atStart => exact ⟨0, [], by omega, rfl, ⟨NewR.nil w1 w1 (Touch.refl _ _), rfl⟩, rfl, ⟨_, _, rfl⟩⟩
  case round =>
    obtain ⟨j, rs, hjg, rfl, H, hrs, ⟨ao3, cap3, rfl⟩⟩ := hrel
    obtain ⟨wx, hwx⟩ : ∃ wx, wx = wr := ⟨_, rfl⟩
    subst hwx
    have HJ : Hid (rs.length = j) := hrs
    rw [hrs]
    rw [hrs] at H
    clear hrs
    by_cases hlt : j < out.length
    · have hne : out ≠ [] := by rintro rfl; simp at hlt
      obtain ⟨b, o, cp, e, _, _, hb, hrow⟩ := (HSl.out.touch H.out.1.touch).row hne
      obtain ⟨rfl, _, rfl⟩ : ao1 = some ⟨b, o, none⟩ ∧ True ∧ cap1 = cp := by simpa using e
      have hok := (Ck.ok_iff.1 (HF.out.1.oks out[j] (List.getElem_mem hlt))).2
      have HE : Hid (out.take (j + 1) = out.take j ++ [out[j]]) := List.take_succ_eq_append_getElem hlt
      have HK : Hid (∀ W, Touch (fun _ => False) w1 W → W.cell? ⟨b, o + j * 2, none⟩ = some (.int .u64 out[j].c) ∧ W.cell? ⟨b, o + j * 2 + 1, none⟩ = some (.int .u64 out[j].k)) := fun W t => by
        obtain ⟨b', o', cp', e', _, _, hb', hrow'⟩ := (HSl.out.touch t).row hne
        simp only [Value.slice.injEq, Option.some.injEq, Addr.mk.injEq] at e'
        obtain ⟨⟨rfl, rfl, _⟩, _, _⟩ := e'
        exact hrow' j hlt
      clear hrow e hne
      generalize out[j] = x at *
      obtain ⟨xc, xk⟩ := x
      simp only at hok HK
      have HN0 : Hid (NewR w1 wx (.slice ao3 j cap3) rs) := H.out.1
      obtain ⟨v5, w5, hrun, hN5, _⟩ := NewR.app1 (HN0.out.on (Touch.refl _ _).drew) ⟨xc, 1, xk + 1⟩ (by have := HJ.out; omega)
      have hrun2 : (Builtin.append_ #[34, 34] 34 #[.slice ao3 j cap3, .slice (some ⟨wx.heap.size, 0, none⟩) 1 1]).run Try.prog ((wx.alloc (rgO ⟨xc, 1, xk + 1⟩)).drew) = .ok v5 w5 := hrun
      have HQ : Hid (NewR w1 w5 v5 (rs ++ [⟨xc, 1, xk + 1⟩]) ∧ rs ++ [⟨xc, 1, xk + 1⟩] = rngs (out.take (j + 1))) := ⟨hN5, by rw [HE.out, H.out.2]; unfold rngs; rw [List.map_append]; rfl⟩
      have hl5 : (rs ++ [(⟨xc, 1, xk + 1⟩ : Rg)]).length = j + 1 := by simp [HJ.out]
      obtain ⟨ao5, cap5, hv5, _⟩ := hN5.shape
      rw [hl5] at hv5
      subst hv5
      have S0 := HK.out wx HN0.out.touch
      have S1 := HK.out wx.drew HN0.out.touch.drew
      have S2 := HK.out (wx.alloc (rgO ⟨xc, 1, xk + 1⟩)).drew (HN0.out.touch.alloc _).drew
      have S3 := HK.out w5 hN5.touch
      have HL5 : Hid ((rs ++ [(⟨xc, 1, xk + 1⟩ : Rg)]).length = j + 1) := hl5
      have i3 : (j : Int) < (out.length : Int) := by omega
      have i4 : (0 : Int) ≤ (j : Int) := by omega
      have i5 : IntKind.u64.wrap (xk + 1) = xk + 1 := by simp [IntKind.wrap, IntKind.bits, IntKind.signed]; omega
      clear hN5 hrun hl5 HN0 H
      go_wp2_with fail
      go_region_held3 (fun W => W.cell? ⟨b, o + j * 2, none⟩ = some (.int .u64 xc) ∧ W.cell? ⟨b, o + j * 2 + 1, none⟩ = some (.int .u64 xk)) (first | assumption)
        (first | (refine step_append_rvR (by rfl) _ _ rfl _ _ _ rfl rfl hrun2 ?_))
      all_goals (try go_wp2_with fail)
      all_goals (go_roundg (out.length - (j + 1)))
      all_goals (first | (case measure => omega) | skip)
      all_goals exact ⟨j + 1, _, by omega, by go_num, HQ.out, HL5.out, ⟨_, _, by rw [HL5.out]⟩⟩
    · have hjl : j = out.length := by omega
      subst hjl
      have HQ : Hid (NewR w wx (.slice ao3 out.length cap3) (rngs out) ∧ VForm out (atC l) ∧ out.length ≤ l.length) := by
        have h := H.out.1
        have e := H.out.2
        rw [List.take_length] at e
        subst e
        exact ⟨h.since HF.out.2.1, HF.out.1, HF.out.2.2⟩
      clear H
      go_wp2_with fail
      refine bodyPost_ret (v := .slice ao3 out.length cap3) (by simp [results, Try.results17, go_sem]) rfl ?_
      exact ⟨_, out, rfl, HQ.out⟩
set_option maxHeartbeats 800000 in
theorem rvjoin_any (a b : List Ck) (va vb : Value) (w : World) (ha : SlC w va a) (hb : SlC w vb b) (hla : a.length ≤ 1048576) (hlb : b.length ≤ 1048576) :
    Calls Try.prog 21 #[va, vb] w fun e w' => ∃ v' out, e = .returned v' ∧ NewC w w' v' out ∧ VForm out (fun c => max (atC a c) (atC b c)) ∧ out.length ≤ a.length + b.length := by
  obtain ⟨aoa, capa, rfl, na, _, _, La⟩ := ha
  obtain ⟨aob, capb, rfl, nb, _, _, Lb⟩ := hb
  obtain ⟨v2, w2, hrun2, hN2, _⟩ := (NewC.nil w w (Touch.refl _ _)).app aoa a.length capa a rfl na La (by simp; omega)
  obtain ⟨v3, w3, hrun3, hN3, _⟩ := hN2.app aob b.length capb b rfl nb (Lb.touch hN2.touch) (by simp; omega)
  obtain ⟨ab, hab⟩ : ∃ ab, Hid (ab = a ++ b) := ⟨_, rfl⟩
  rw [List.nil_append] at hN2 hN3
  rw [← hab.out] at hN3
  have C2 := rvclean_any ab v3 w3 hN3.sl (by rw [hab.out]; simp; omega)
  have HT1 : Hid (Touch (fun _ => False) w w3) := hN3.touch
  obtain ⟨ao2, cap2, rfl, _⟩ := hN2.shape
  obtain ⟨ao3, cap3, rfl, _⟩ := hN3.shape
  clear hN2 hN3 na nb La Lb
  go_enter Try.func21, Try.ntmps21
  go_wp2_with (first | (at_builtin; refine wpList_append_runC rfl _ _ rfl _ _ _ rfl rfl hrun2 ?_) | (at_builtin; refine wpList_append_runC rfl _ _ rfl _ _ _ rfl rfl hrun3 ?_))
  refine C2.mono ?_
  rintro e w4 ⟨v4, out, rfl, n4, f4, l4⟩
  have HQ : Hid (NewC w w4 v4 out ∧ VForm out (fun c => max (atC a c) (atC b c)) ∧ out.length ≤ a.length + b.length) := ⟨n4.since HT1.out, f4.of fun c => by rw [hab.out, atC_append], by rw [hab.out] at l4; simpa using l4⟩
  obtain ⟨ao5, cap5, rfl, _⟩ := n4.shape
  clear n4 f4 C2 l4
  go_wp2_with fail
  refine bodyPost_ret (v := .slice ao5 out.length cap5) (by simp [results, Try.results21, go_sem]) rfl ?_
  exact ⟨_, out, rfl, HQ.out⟩
end Go.Proofs.Ytdblfabbmpdoiaa
