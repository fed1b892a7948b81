/- The contract of the document's Meet. -/
import Derived.Test.YtipncloegjcjfaaRfJ
namespace Go.Proofs.Ytipncloegjcjfaa
open Go.RowKit Go.Maps
set_option linter.unusedVariables false
set_option linter.unusedSimpArgs false
set_option maxRecDepth 100000

theorem step_append_runR {w w' : World} {ops : Array Oper} {o : Oper} {a : Act} {K : Act → World → Prop} {Q : Exit → Act → World → Prop} {E : Prop} (hw : Region.wanted o (yielded ops a.tmps) = true) (s x : Operand)
    (ho : o.op = .call { callee := .builtin .append, args := #[s, x], argTypes := #[22, 22] }) (v y v' : Value) (hs : a.eval s = v) (hx : a.eval x = y)
    (hrun : (Builtin.append_ #[22, 22] o.type #[v, y]).run Try.prog w = .ok v' w') (h : K (a.put o.dst v') w') :
    if Region.wanted o (yielded ops a.tmps) = true then Oper.wp Try.prog o a w K Q else E := by
  rw [if_pos hw]
  unfold Oper.wp
  simp [execOp, ho, resolve, invoke, builtin, hs, hx, hrun, Result.andThen]
  exact h
set_option maxHeartbeats 8000000 in
theorem rmeet_any (a b : List Rg) (va vb : Value) (w : World) (ha : SlR w va a) (hb : SlR w vb b) (hla : a.length ≤ 1000) (hlb : b.length ≤ 1000) :
    Calls Try.prog 24 #[va, vb] w fun e w' => ∃ v' out, e = .returned v' ∧ NewR w w' v' out ∧ Form (tns out) (fun c k => min (turnOf (tns a) c k) (turnOf (tns b) c k)) := by
  have C1 := rclean_any a va w ha (by omega)
  have HB : Hid (SlR w vb b) := hb
  obtain ⟨aoa, capa, rfl, _⟩ := ha
  obtain ⟨aob, capb, rfl, _⟩ := hb
  go_enter Try.func24, Try.ntmps24
  go_wp2_with fail
  refine C1.mono ?_
  rintro e w1 ⟨v1, oa, rfl, n1, f1, l1⟩
  have C2 := rclean_any b _ w1 (HB.out.touch n1.touch) (by omega)
  have H1 : Hid (NewR w w1 v1 oa ∧ Form (tns oa) (turnOf (tns a))) := ⟨n1, f1⟩
  obtain ⟨ao1, cap1, rfl, _⟩ := n1.shape
  clear n1 f1 C1
  go_wp2_with fail
  refine C2.mono ?_
  rintro e w2 ⟨v2, ob, rfl, n2, f2, l2⟩
  have HSa : Hid (SlR w2 (.slice ao1 oa.length cap1) oa) := H1.out.1.sl.touch n2.touch
  have HSb : Hid (SlR w2 v2 ob) := n2.sl
  have HF : Hid (Form (tns oa) (turnOf (tns a)) ∧ Form (tns ob) (turnOf (tns b)) ∧ Touch (fun _ => False) w w2) := ⟨H1.out.2, f2, H1.out.1.touch.trans n2.touch⟩
  obtain ⟨ao2, cap2', rfl, _⟩ := n2.shape
  clear n2 f2 C2 H1 HB
  have hprod : oa.length * ob.length ≤ 1000000 := by
    have := Nat.mul_le_mul (by omega : oa.length ≤ 1000) (by omega : ob.length ≤ 1000); omega
  go_wp2_with fail
  go_loopg [5, 6] oa.length (fun g s5 s6 wx => ∃ (i : Nat) (o : List Rg), i + g = oa.length ∧ s6 = .int .i64 (i : Int) ∧ Hid (NewR w2 wx s5 o ∧ o = capsAll (oa.take i) ob) ∧ ∃ ao cap, s5 = .slice ao o.length cap)
  case atStart => exact ⟨0, [], by omega, rfl, ⟨NewR.nil w2 w2 (Touch.refl _ _), rfl⟩, ⟨_, _, rfl⟩⟩
  case round =>
    obtain ⟨i, o, hig, rfl, H, ⟨ao5, cap5, rfl⟩⟩ := hrel
    obtain ⟨wo, hwo⟩ : ∃ wo, wo = wr := ⟨_, rfl⟩
    subst hwo
    by_cases hlt : i < oa.length
    · have hne : oa ≠ [] := by rintro rfl; simp at hlt
      have HSt : Hid (capsAll (oa.take (i + 1)) ob = capsAll (oa.take i) ob ++ caps oa[i] ob) := capsAll_step oa ob hlt
      obtain ⟨b1, o1, cp1, e1, _, _, hb1, hrow1⟩ := HSa.out.row hne
      obtain ⟨rfl, _, rfl⟩ : ao1 = some ⟨b1, o1, none⟩ ∧ True ∧ cap1 = cp1 := by simpa using e1
      have HXc : Hid (∀ W, Touch (fun _ => False) w2 W → W.cell? ⟨b1, o1 + i * 3, none⟩ = some (.int .u64 oa[i].c) ∧ W.cell? ⟨b1, o1 + i * 3 + 1, none⟩ = some (.int .u64 oa[i].f) ∧ W.cell? ⟨b1, o1 + i * 3 + 2, none⟩ = some (.int .u64 oa[i].t)) := fun W t => by
        have hz := hrow1 i hlt
        exact ⟨by rw [World.cell?_of_block (t.block _ hb1 id)]; exact hz.1, by rw [World.cell?_of_block (t.block _ hb1 id)]; exact hz.2.1, by rw [World.cell?_of_block (t.block _ hb1 id)]; exact hz.2.2⟩
      have HLn : Hid (∀ j, (o ++ caps oa[i] (ob.take j)).length ≤ 2000000) := fun j => by
        have h1 := capsAll_len (oa.take i) ob
        have h2 := caps_len oa[i] (ob.take j)
        have h3 : (oa.take i).length * ob.length ≤ oa.length * ob.length := Nat.mul_le_mul_right _ (by simp; omega)
        rw [H.out.2, List.length_append]
        have h4 : (ob.take j).length ≤ ob.length := by simp; omega
        omega
      clear hrow1 e1 hne
      generalize oa[i] = x at *
      obtain ⟨xc, xf, xt⟩ := x
      simp only at HXc
      have i3 : (i : Int) < (oa.length : Int) := by omega
      have i4 : (0 : Int) ≤ (i : Int) := by omega
      go_wp2_with fail
      go_loopg [5, 7] ob.length (fun g s5 s7 wx => ∃ (j : Nat) (p : List Rg), j + g = ob.length ∧ s7 = .int .i64 (j : Int) ∧ Hid (NewR w2 wx s5 p ∧ p = o ++ caps ⟨xc, xf, xt⟩ (ob.take j)) ∧ ∃ ao cap, s5 = .slice ao p.length cap)
      case atStart => exact ⟨0, o, by omega, rfl, ⟨H.out.1, by simp [caps]⟩, ⟨_, _, rfl⟩⟩
      case round =>
        obtain ⟨j, p, hjg, rfl, HI, ⟨ao6, cap6, rfl⟩⟩ := hrel
        obtain ⟨wx, hwx⟩ : ∃ wx, wx = wr := ⟨_, rfl⟩
        subst hwx
        by_cases hlt2 : j < ob.length
        · have hne2 : ob ≠ [] := by rintro rfl; simp at hlt2
          have HS2 : Hid (o ++ caps ⟨xc, xf, xt⟩ (ob.take (j + 1)) = p ++ cap2 ⟨xc, xf, xt⟩ ob[j]) := by rw [Hid, caps_step _ _ hlt2, HI.out.2, List.append_assoc]
          have hpl : p.length ≤ 2000000 := by rw [HI.out.2]; exact HLn.out j
          obtain ⟨b2, o2, cp2, e2, _, _, hb2, hrow2⟩ := HSb.out.row hne2
          obtain ⟨rfl, _, rfl⟩ : ao2 = some ⟨b2, o2, none⟩ ∧ True ∧ cap2' = cp2 := by simpa using e2
          have HK : Hid (∀ W, Touch (fun _ => False) w2 W → (W.cell? ⟨b1, o1 + i * 3, none⟩ = some (.int .u64 xc) ∧ W.cell? ⟨b1, o1 + i * 3 + 1, none⟩ = some (.int .u64 xf) ∧ W.cell? ⟨b1, o1 + i * 3 + 2, none⟩ = some (.int .u64 xt)) ∧ W.cell? ⟨b2, o2 + j * 3, none⟩ = some (.int .u64 ob[j].c) ∧ W.cell? ⟨b2, o2 + j * 3 + 1, none⟩ = some (.int .u64 ob[j].f) ∧ W.cell? ⟨b2, o2 + j * 3 + 2, none⟩ = some (.int .u64 ob[j].t)) := fun W t => by
            have t' := t
            have hz := hrow2 j hlt2
            exact ⟨HXc.out W t', by rw [World.cell?_of_block (t'.block _ hb2 id)]; exact hz.1, by rw [World.cell?_of_block (t'.block _ hb2 id)]; exact hz.2.1, by rw [World.cell?_of_block (t'.block _ hb2 id)]; exact hz.2.2⟩
          clear hrow2 e2 hne2
          generalize ob[j] = y at *
          obtain ⟨yc, yf, yt⟩ := y
          simp only at HK
          have i5 : (j : Int) < (ob.length : Int) := by omega
          have i6 : (0 : Int) ≤ (j : Int) := by omega
          obtain ⟨⟨c0, c1, c2⟩, d0, d1, d2⟩ := HK.out wx HI.out.1.touch
          by_cases hc : xc = yc
          · subst hc
            have HS3 : Hid (o ++ caps ⟨xc, xf, xt⟩ (ob.take (j + 1)) = p ++ [⟨xc, max xf yf, min xt yt⟩]) := by rw [Hid, HS2.out]; simp [cap2]
            clear HS2
            go_wp2_with fail
            go_quiet (fail)
            go_wp2_with fail
            have HN0 : Hid (NewR w2 (wx.drewN nq) (.slice ao6 p.length cap6) p) := HI.out.1.on (show Touch (fun _ => False) wx (wx.drewN nq) from ⟨rfl, rfl, rfl, Nat.le_refl _, fun _ _ _ => rfl⟩)
            clear c0 c1 c2 d0 d1 d2
            generalize wx.drewN nq = wq at *
            obtain ⟨v5, w5, hrun, hN5, _⟩ := NewR.app1 (HN0.out.on (Touch.refl _ _).drew) ⟨xc, max xf yf, min xt yt⟩ (by omega)
            have hrun2 : (Builtin.append_ #[22, 22] 22 #[.slice ao6 p.length cap6, .slice (some ⟨wq.heap.size, 0, none⟩) 1 1]).run Try.prog ((wq.alloc (rgO ⟨xc, max xf yf, min xt yt⟩)).drew) = .ok v5 w5 := hrun
            have HQ : Hid (NewR w2 w5 v5 (p ++ [⟨xc, max xf yf, min xt yt⟩])) := hN5
            have hl5 : (p ++ [(⟨xc, max xf yf, min xt yt⟩ : Rg)]).length = p.length + 1 := by simp
            obtain ⟨ao8, cap8, hv8, _⟩ := hN5.shape
            rw [hl5] at hv8
            subst hv8
            have S0 := HK.out wq HN0.out.touch
            have S1 := HK.out wq.drew HN0.out.touch.drew
            have S2 := HK.out (wq.alloc (rgO ⟨xc, max xf yf, min xt yt⟩)).drew (HN0.out.touch.alloc _).drew
            have S3 := HK.out w5 hN5.touch
            have HL5 : Hid ((p ++ [(⟨xc, max xf yf, min xt yt⟩ : Rg)]).length = p.length + 1) := hl5
            clear hrun hN5 hl5 HN0
            generalize hM : max xf yf = M at *
            generalize hm : min xt yt = m at *
            go_region_held3 (fun W => (W.cell? ⟨b1, o1 + i * 3, none⟩ = some (.int .u64 xc) ∧ W.cell? ⟨b1, o1 + i * 3 + 1, none⟩ = some (.int .u64 xf) ∧ W.cell? ⟨b1, o1 + i * 3 + 2, none⟩ = some (.int .u64 xt)) ∧ W.cell? ⟨b2, o2 + j * 3, none⟩ = some (.int .u64 xc) ∧ W.cell? ⟨b2, o2 + j * 3 + 1, none⟩ = some (.int .u64 yf) ∧ W.cell? ⟨b2, o2 + j * 3 + 2, none⟩ = some (.int .u64 yt)) (first | assumption)
              (first | (refine step_append_runR (by rfl) _ _ rfl _ _ _ rfl rfl hrun2 ?_))
            all_goals (try go_wp2_with fail)
            all_goals (go_roundg (ob.length - (j + 1)))
            all_goals (first | (case measure => omega) | skip)
            all_goals exact ⟨j + 1, _, by omega, by go_num, ⟨HQ.out, HS3.out.symm⟩, ⟨_, _, by rw [HL5.out]⟩⟩
          · have HS3 : Hid (o ++ caps ⟨xc, xf, xt⟩ (ob.take (j + 1)) = p) := by rw [Hid, HS2.out]; simp [cap2, hc]
            clear HS2
            go_wp2_with fail
            go_quiet (fail)
            have HQ : Hid (NewR w2 (wx.drewN nq) (.slice ao6 p.length cap6) p) := HI.out.1.on (show Touch (fun _ => False) wx (wx.drewN nq) from ⟨rfl, rfl, rfl, Nat.le_refl _, fun _ _ _ => rfl⟩)
            go_wp2_with fail
            go_roundg (ob.length - (j + 1))
            case measure => omega
            case rel => exact ⟨j + 1, p, by omega, by go_num, ⟨HQ.out, HS3.out.symm⟩, ⟨_, _, rfl⟩⟩
        · have hjl : j = ob.length := by omega
          subst hjl
          have HQ : Hid (NewR w2 wx (.slice ao6 p.length cap6) p ∧ p = capsAll (oa.take (i + 1)) ob) := ⟨HI.out.1, by rw [HI.out.2, List.take_length, HSt.out, ← H.out.2]⟩
          go_wp2_with fail
          go_roundg (oa.length - (i + 1))
          case measure => omega
          case rel => exact ⟨i + 1, p, by omega, by go_num, HQ.out, ⟨_, _, rfl⟩⟩
    · have hil : i = oa.length := by omega
      subst hil
      have hol : o.length ≤ 1000000 := by
        have := capsAll_len (oa.take oa.length) ob
        rw [H.out.2]; rw [List.take_length] at *; omega
      have C3 := rclean_any o _ wo H.out.1.sl (by omega)
      have HE : Hid (o = capsAll oa ob ∧ Touch (fun _ => False) w wo) := ⟨by rw [H.out.2, List.take_length], HF.out.2.2.trans H.out.1.touch⟩
      clear H
      go_wp2_with fail
      refine C3.mono ?_
      rintro e w5 ⟨v5, out, rfl, n5, f5, _⟩
      have HQ : Hid (NewR w w5 v5 out ∧ Form (tns out) (fun c k => min (turnOf (tns a) c k) (turnOf (tns b) c k))) := ⟨n5.since HE.out.2, f5.of fun c k => by rw [HE.out.1]; exact capsAll_turn HF.out.1 HF.out.2.1 c k⟩
      obtain ⟨ao7, cap7, rfl, _⟩ := n5.shape
      clear n5 f5 C3
      go_wp2_with fail
      refine bodyPost_ret (v := .slice ao7 out.length cap7) (by simp [results, Try.results24, go_sem]) rfl ?_
      exact ⟨_, _, rfl, HQ.out⟩
end Go.Proofs.Ytipncloegjcjfaa
