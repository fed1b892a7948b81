/- The contract of the document's Minus. -/
import Derived.Test.YtdblfabbmpdoiaaRfM
import Derived.Test.YtdblfabbmpdoiaaRfN
namespace Go.Proofs.Ytdblfabbmpdoiaa
open Go.RowKit Go.Maps
set_option linter.unusedVariables false
set_option linter.unusedSimpArgs false
set_option maxRecDepth 100000

/-- What is left of a behind j of b's ranges. -/
def leftF (oa ob : List Rg) (j : Nat) (c k : Int) : Int := if hasB oa c k && !((ob.take j).any fun r => r.has c k) then 1 else 0
theorem leftF_zero {oa : List Rg} {F : Int → Int → Int} (ob : List Rg) (h : Form (tns oa) F) : Form (tns oa) (leftF oa ob 0) := by
  refine h.of fun c k => ?_
  unfold leftF
  rw [← h.2, ← h.1.turnOf, turn_has]; simp
theorem leftF_step {oa ob o nx o' : List Rg} {j : Nat} (hj : j < ob.length) (hob : ob[j].ok = true) (ho : Form (tns o) (leftF oa ob j)) (hn : nx = cutAll ob[j] o) (ho' : Form (tns o') (turnOf (tns nx))) : Form (tns o') (leftF oa ob (j + 1)) := by
  refine ho'.of fun c k => ?_
  rw [turn_has, hn, cutAll_has _ _ hob ho.oks]
  have e : hasB o c k = (hasB oa c k && !((ob.take j).any fun r => r.has c k)) := by
    have h1 := turn_has o c k
    rw [ho.1.turnOf, ho.2] at h1
    unfold leftF at h1
    cases e1 : hasB o c k <;> cases e2 : (hasB oa c k && !((ob.take j).any fun r => r.has c k)) <;> simp [e1, e2] at h1 <;> rfl
  unfold leftF
  rw [e, List.take_succ_eq_append_getElem hj, List.any_append]
  simp only [List.any_cons, List.any_nil, Bool.or_false]
  generalize ob[j].has c k = z
  generalize (ob.take j).any (fun r => r.has c k) = y
  generalize hasB oa c k = x
  cases x <;> cases y <;> cases z <;> rfl
theorem leftF_end {a b oa ob : List Rg} (ha : Form (tns oa) (turnOf (tns a))) (hb : Form (tns ob) (turnOf (tns b))) (c k : Int) : leftF oa ob ob.length c k = ifAb (turnOf (tns a) c k) (turnOf (tns b) c k) := by
  unfold leftF
  rw [List.take_length, ← ha.2, ← hb.2, ← ha.1.turnOf, ← hb.1.turnOf, turn_has oa, turn_has ob]
  have e : (ob.any fun r => r.has c k) = hasB ob c k := by
    rw [hasB_any]
    have h := hb.oks
    clear ha hb
    induction ob with
    | nil => rfl
    | cons r l ih => rw [List.any_cons, List.any_cons, ih fun x hx => h x (List.mem_cons_of_mem _ hx), h r List.mem_cons_self, Bool.true_and]
  rw [e]
  cases hasB oa c k <;> cases hasB ob c k <;> simp [ifAb]
theorem LiesR.lit2 (W : World) (r s : Rg) : LiesR (W.alloc (.cells #[.int .u64 r.c, .int .u64 r.f, .int .u64 r.t, .int .u64 s.c, .int .u64 s.f, .int .u64 s.t] 41)) (some ⟨W.heap.size, 0, none⟩) [r, s] := (SlR.lit2 W r s).lies'.2

set_option maxHeartbeats 8000000 in
theorem rminus_any (a b : List Rg) (va vb : Value) (w : World) (ha : SlR w va a) (hb : SlR w vb b) (hla : a.length ≤ 1000) (hlb : b.length ≤ 1000) :
    Calls Try.prog 33 #[va, vb] w fun e w' => ∃ v' out, e = .returned v' ∧ SlR w' v' out ∧ Touch (fun _ => False) w w' ∧ Form (tns out) (fun c k => ifAb (turnOf (tns a) c k) (turnOf (tns b) c k)) := by
  have C1 := rclean_any a va w ha (by omega)
  have HB : Hid (SlR w vb b) := hb
  obtain ⟨aoa, capa, rfl, _⟩ := ha
  obtain ⟨aob, capb, rfl, _⟩ := hb
  go_enter Try.func33, Try.ntmps33
  go_wp2_with fail
  refine C1.mono ?_
  rintro e w1 ⟨v1, oa, rfl, n1, f1, l1⟩
  have C2 := rclean_any b _ w1 (HB.out.touch n1.touch) (by omega)
  have H1 : Hid (NewR w w1 v1 oa ∧ Form (tns oa) (turnOf (tns a))) := ⟨n1, f1⟩
  obtain ⟨ao1, cap1, rfl, _⟩ := n1.shape
  clear n1 f1 C1
  go_wp2_with fail
  refine C2.mono ?_
  rintro e w2 ⟨v2, ob, rfl, n2, f2, l2⟩
  have HSa : Hid (SlR w2 (.slice ao1 oa.length cap1) oa) := H1.out.1.sl.touch n2.touch
  have HSb : Hid (SlR w2 v2 ob) := n2.sl
  have HF : Hid (Form (tns oa) (turnOf (tns a)) ∧ Form (tns ob) (turnOf (tns b)) ∧ Touch (fun _ => False) w w2) := ⟨H1.out.2, f2, H1.out.1.touch.trans n2.touch⟩
  obtain ⟨ao2, cap2', rfl, _⟩ := n2.shape
  clear n2 f2 C2 H1 HB
  go_wp2_with fail
  go_loopg [5, 6] ob.length (fun g s5 s6 wx => ∃ (j : Nat) (o : List Rg), j + g = ob.length ∧ s6 = .int .i64 (j : Int) ∧ Hid (SlR wx s5 o ∧ Form (tns o) (leftF oa ob j) ∧ Touch (fun _ => False) w2 wx) ∧ o.length ≤ oa.length + j ∧ ∃ ao cap, s5 = .slice ao o.length cap)
  case atStart => exact ⟨0, oa, by omega, rfl, ⟨HSa.out, leftF_zero ob HF.out.1, Touch.refl _ _⟩, by omega, ⟨_, _, rfl⟩⟩
  case round =>
    obtain ⟨j, o, hjg, rfl, H, hol, ⟨ao5, cap5, rfl⟩⟩ := hrel
    obtain ⟨wo, hwo⟩ : ∃ wo, wo = wr := ⟨_, rfl⟩
    subst hwo
    by_cases hlt : j < ob.length
    · have hne : ob ≠ [] := by rintro rfl; simp at hlt
      obtain ⟨b2, o2, cp2, e2, _, _, hb2, hrow2⟩ := HSb.out.row hne
      obtain ⟨rfl, _, rfl⟩ : ao2 = some ⟨b2, o2, none⟩ ∧ True ∧ cap2' = cp2 := by simpa using e2
      have HYc : Hid (∀ W, Touch (fun _ => False) w2 W → W.cell? ⟨b2, o2 + j * 3, none⟩ = some (.int .u64 ob[j].c) ∧ W.cell? ⟨b2, o2 + j * 3 + 1, none⟩ = some (.int .u64 ob[j].f) ∧ W.cell? ⟨b2, o2 + j * 3 + 2, none⟩ = some (.int .u64 ob[j].t)) := fun W t => by
        have hz := hrow2 j hlt
        exact ⟨by rw [World.cell?_of_block (t.block _ hb2 id)]; exact hz.1, by rw [World.cell?_of_block (t.block _ hb2 id)]; exact hz.2.1, by rw [World.cell?_of_block (t.block _ hb2 id)]; exact hz.2.2⟩
      have HY : Hid (ob[j].ok = true) := HF.out.2.1.oks _ (List.getElem_mem hlt)
      have HStep : Hid (∀ nx o', nx = cutAll ob[j] o → Form (tns o') (turnOf (tns nx)) → Form (tns o') (leftF oa ob (j + 1)) ∧ o'.length ≤ o.length + 1) := fun nx o' h1 h2 => by
        refine ⟨leftF_step hlt HY.out H.out.2.1 h1 h2, ?_⟩
        have h3 := h2.short
        have h4 := cutAll_ok ob[j] o H.out.2.1.1 HY.out
        rw [h1] at h3
        unfold okLen at h4; omega
      have HCl : Hid (∀ i, (cutAll ob[j] (o.take i)).length ≤ 4000) := fun i => by
        have h1 := cutAll_len ob[j] (o.take i)
        have h2 : (o.take i).length ≤ o.length := by simp; omega
        omega
      clear hrow2 e2 hne
      generalize ob[j] = y at *
      obtain ⟨yc, yf, yt⟩ := y
      simp only at HYc
      have i5 : (j : Int) < (ob.length : Int) := by omega
      have i6 : (0 : Int) ≤ (j : Int) := by omega
      go_wp2_with fail
      go_loopg [7, 8] o.length (fun g s7 s8 wx => ∃ (i : Nat) (nx : List Rg), i + g = o.length ∧ s8 = .int .i64 (i : Int) ∧ Hid (NewR wo wx s7 nx ∧ nx = cutAll ⟨yc, yf, yt⟩ (o.take i)) ∧ ∃ ao cap, s7 = .slice ao nx.length cap)
      case atStart => exact ⟨0, [], by omega, rfl, ⟨NewR.nil wo wo (Touch.refl _ _), rfl⟩, ⟨_, _, rfl⟩⟩
      case round =>
        obtain ⟨i, nx, hig, rfl, HI, ⟨ao7, cap7, rfl⟩⟩ := hrel
        obtain ⟨wx, hwx⟩ : ∃ wx, wx = wr := ⟨_, rfl⟩
        subst hwx
        by_cases hlt2 : i < o.length
        · have hne2 : o ≠ [] := by rintro rfl; simp at hlt2
          have HS2 : Hid (cutAll ⟨yc, yf, yt⟩ (o.take (i + 1)) = nx ++ cutR ⟨yc, yf, yt⟩ o[i]) := by rw [Hid, cutAll_step _ _ hlt2, HI.out.2]
          have hpl : nx.length ≤ 4000 := by rw [HI.out.2]; exact HCl.out i
          obtain ⟨b1, o1, cp1, e1, _, _, hb1, hrow1⟩ := (H.out.1.touch HI.out.1.touch).row hne2
          obtain ⟨rfl, _, rfl⟩ : ao5 = some ⟨b1, o1, none⟩ ∧ True ∧ cap5 = cp1 := by simpa using e1
          obtain ⟨c0, c1, c2⟩ := hrow1 i hlt2
          clear hrow1 e1 hne2
          generalize o[i] = r at *
          obtain ⟨rc, rf, rt⟩ := r
          simp only at c0 c1 c2
          have i3 : (i : Int) < (o.length : Int) := by omega
          have i4 : (0 : Int) ≤ (i : Int) := by omega
          have TX : Hid (Touch (fun _ => False) w2 wx) := H.out.2.2.trans HI.out.1.touch
          have hbx := heap_alloc_new wx (rgO ⟨rc, rf, rt⟩)
          obtain ⟨d0, d1, d2⟩ := HYc.out (wx.alloc (rgO ⟨rc, rf, rt⟩)) (TX.out.alloc _)
          have HNa : Hid (∀ q, NewR wo ((wx.alloc (rgO ⟨rc, rf, rt⟩)).drewN q) (.slice ao7 nx.length cap7) nx) := fun q => (HI.out.1.on ((Touch.refl _ _).alloc _)).on (show Touch (fun _ => False) _ _ from ⟨rfl, rfl, rfl, Nat.le_refl _, fun _ _ _ => rfl⟩)
          have HBX : Hid ((wx.alloc (rgO ⟨rc, rf, rt⟩)).heap[wx.heap.size]? = some (rgO ⟨rc, rf, rt⟩)) := hbx
          clear hbx
          by_cases hc : rc = yc
          · subst hc
            by_cases h1 : yt ≤ rf
            · have hz : True := trivial
              have HS3 : Hid (cutAll ⟨rc, yf, yt⟩ (o.take (i + 1)) = nx ++ [⟨rc, rf, rt⟩]) := by rw [Hid, HS2.out]; unfold cutR; rw [if_pos (.inr (.inl h1))]
              clear HS2
              go_wp2_with fail
              go_quiet (fail)
              obtain ⟨v5, w5, hrun, hN5, _⟩ := NewR.app1 (HNa.out nq) ⟨rc, rf, rt⟩ (by omega)
              rw [show ((wx.alloc (rgO ⟨rc, rf, rt⟩)).drewN nq).heap.size = wx.heap.size + 1 from by show (wx.alloc (rgO ⟨rc, rf, rt⟩)).heap.size = _; rw [World.size_alloc]] at hrun
              have hrun2 : (Builtin.append_ #[34, 34] 34 #[.slice ao7 nx.length cap7, .slice (some ⟨wx.heap.size + 1, 0, none⟩) 1 1]).run Try.prog (((wx.alloc (rgO ⟨rc, rf, rt⟩)).alloc (rgO ⟨rc, rf, rt⟩)).drewN nq) = .ok v5 w5 := hrun
              have HQ : Hid (NewR wo w5 v5 (nx ++ [⟨rc, rf, rt⟩])) := hN5
              have hl5 : (nx ++ [(⟨rc, rf, rt⟩ : Rg)]).length = nx.length + 1 := by simp
              obtain ⟨ao8, cap8, hv8, _⟩ := hN5.shape
              rw [hl5] at hv8
              subst hv8
              have HL5 : Hid ((nx ++ [(⟨rc, rf, rt⟩ : Rg)]).length = nx.length + 1) := hl5
              clear hrun hN5 hl5
              go_wp2_with (at_builtin; refine wpList_append_runR rfl _ _ rfl _ _ _ rfl rfl hrun2 ?_)
              go_roundg (o.length - (i + 1))
              case measure => omega
              case rel => exact ⟨i + 1, _, by omega, by go_num, ⟨HQ.out, HS3.out.symm⟩, ⟨_, _, by rw [HL5.out]⟩⟩
            · by_cases h2 : rt ≤ yf
              · have hz : True := trivial
                have HS3 : Hid (cutAll ⟨rc, yf, yt⟩ (o.take (i + 1)) = nx ++ [⟨rc, rf, rt⟩]) := by rw [Hid, HS2.out]; unfold cutR; rw [if_pos (.inr (.inr h2))]
                clear HS2
                go_wp2_with fail
                go_quiet (fail)
                obtain ⟨v5, w5, hrun, hN5, _⟩ := NewR.app1 (HNa.out nq) ⟨rc, rf, rt⟩ (by omega)
                rw [show ((wx.alloc (rgO ⟨rc, rf, rt⟩)).drewN nq).heap.size = wx.heap.size + 1 from by show (wx.alloc (rgO ⟨rc, rf, rt⟩)).heap.size = _; rw [World.size_alloc]] at hrun
                have hrun2 : (Builtin.append_ #[34, 34] 34 #[.slice ao7 nx.length cap7, .slice (some ⟨wx.heap.size + 1, 0, none⟩) 1 1]).run Try.prog (((wx.alloc (rgO ⟨rc, rf, rt⟩)).alloc (rgO ⟨rc, rf, rt⟩)).drewN nq) = .ok v5 w5 := hrun
                have HQ : Hid (NewR wo w5 v5 (nx ++ [⟨rc, rf, rt⟩])) := hN5
                have hl5 : (nx ++ [(⟨rc, rf, rt⟩ : Rg)]).length = nx.length + 1 := by simp
                obtain ⟨ao8, cap8, hv8, _⟩ := hN5.shape
                rw [hl5] at hv8
                subst hv8
                have HL5 : Hid ((nx ++ [(⟨rc, rf, rt⟩ : Rg)]).length = nx.length + 1) := hl5
                clear hrun hN5 hl5
                go_wp2_with (at_builtin; refine wpList_append_runR rfl _ _ rfl _ _ _ rfl rfl hrun2 ?_)
                go_roundg (o.length - (i + 1))
                case measure => omega
                case rel => exact ⟨i + 1, _, by omega, by go_num, ⟨HQ.out, HS3.out.symm⟩, ⟨_, _, by rw [HL5.out]⟩⟩
              · have HS3 : Hid (cutAll ⟨rc, yf, yt⟩ (o.take (i + 1)) = nx ++ [⟨rc, rf, yf⟩, ⟨rc, yt, rt⟩]) := by rw [Hid, HS2.out]; unfold cutR; rw [if_neg (by simp; omega)]
                clear HS2
                go_wp2_with fail
                go_quiet (fail)
                go_wp2_with fail
                have HNq := HNa.out nq
                have HKq : Hid (∀ W, Touch (fun _ => False) ((wx.alloc (rgO ⟨rc, rf, rt⟩)).drewN nq) W → (W.cell? ⟨wx.heap.size, 0, none⟩ = some (.int .u64 rc) ∧ W.cell? ⟨wx.heap.size, 1, none⟩ = some (.int .u64 rf) ∧ W.cell? ⟨wx.heap.size, 2, none⟩ = some (.int .u64 rt)) ∧ W.cell? ⟨b2, o2 + j * 3, none⟩ = some (.int .u64 rc) ∧ W.cell? ⟨b2, o2 + j * 3 + 1, none⟩ = some (.int .u64 yf) ∧ W.cell? ⟨b2, o2 + j * 3 + 2, none⟩ = some (.int .u64 yt)) := fun W t => by
                  have t0 : Touch (fun _ => False) (wx.alloc (rgO ⟨rc, rf, rt⟩)) W := Touch.trans (show Touch (fun _ => False) _ ((wx.alloc (rgO ⟨rc, rf, rt⟩)).drewN nq) from ⟨rfl, rfl, rfl, Nat.le_refl _, fun _ _ _ => rfl⟩) t
                  have hx := (t0.block _ (lt_of_heap HBX.out) id).trans HBX.out
                  exact ⟨⟨by rw [cell_of_block hx]; rfl, by rw [cell_of_block hx]; rfl, by rw [cell_of_block hx]; rfl⟩, HYc.out W ((TX.out.alloc _).trans t0)⟩
                have hsz : ((wx.alloc (rgO ⟨rc, rf, rt⟩)).drewN nq).heap.size = wx.heap.size + 1 := by show (wx.alloc (rgO ⟨rc, rf, rt⟩)).heap.size = _; rw [World.size_alloc]
                clear c0 c1 c2 d0 d1 d2 HNa HBX
                generalize (wx.alloc (rgO ⟨rc, rf, rt⟩)).drewN nq = wq at *
                have hL2 := LiesR.lit2 wq.drew ⟨rc, rf, yf⟩ ⟨rc, yt, rt⟩
                obtain ⟨v5, w5, hrun, hN5, hgr⟩ := NewR.app (HNq.on ((Touch.refl _ wq).drew.alloc (.cells #[.int .u64 rc, .int .u64 rf, .int .u64 yf, .int .u64 rc, .int .u64 yt, .int .u64 rt] 41))) (some ⟨wq.heap.size, 0, none⟩) 2 2 [⟨rc, rf, yf⟩, ⟨rc, yt, rt⟩] rfl (fun h => by cases h) hL2 (by simp; omega)
                have tq : Touch (fun k => (Value.slice ao7 nx.length cap7).ownBlock = some k) wq w5 := ((Touch.refl _ wq).drew.alloc _).grown hgr fun q e _ => e
                have S0 := HKq.out wq (Touch.refl _ _)
                have S1 := HKq.out wq.drew (Touch.refl _ _).drew
                have S2 := HKq.out (wq.alloc (.cells #[.int .u64 rc, .int .u64 rf, .int .u64 yf, .int .u64 rc, .int .u64 yt, .int .u64 rt] 41)).drew ((Touch.refl _ _).alloc _).drew
                have hob : (Value.slice ao7 nx.length cap7).ownBlock ≠ some wx.heap.size := fun e => by
                  rcases HI.out.1.owns.2 with ⟨e', _⟩ | ⟨g, cp, cur, e', _, hg, _⟩
                  · rw [e'] at e; simp [Value.ownBlock] at e
                  · rw [e'] at e
                    simp only [Value.ownBlock, Option.some.injEq] at e
                    have := lt_of_heap hg; omega
                have S3 : (w5.cell? ⟨wx.heap.size, 0, none⟩ = some (.int .u64 rc) ∧ w5.cell? ⟨wx.heap.size, 1, none⟩ = some (.int .u64 rf) ∧ w5.cell? ⟨wx.heap.size, 2, none⟩ = some (.int .u64 rt)) ∧ w5.cell? ⟨b2, o2 + j * 3, none⟩ = some (.int .u64 rc) ∧ w5.cell? ⟨b2, o2 + j * 3 + 1, none⟩ = some (.int .u64 yf) ∧ w5.cell? ⟨b2, o2 + j * 3 + 2, none⟩ = some (.int .u64 yt) := by
                  have hbk := tq.block wx.heap.size (by omega) hob
                  exact ⟨⟨by rw [World.cell?_of_block hbk]; exact S0.1.1, by rw [World.cell?_of_block hbk]; exact S0.1.2.1, by rw [World.cell?_of_block hbk]; exact S0.1.2.2⟩, HYc.out w5 (H.out.2.2.trans hN5.touch)⟩
                have HQ : Hid (NewR wo w5 v5 (nx ++ [⟨rc, rf, yf⟩, ⟨rc, yt, rt⟩])) := hN5
                have hl5 : (nx ++ [(⟨rc, rf, yf⟩ : Rg), ⟨rc, yt, rt⟩]).length = nx.length + 2 := by simp
                have hrun2 : (Builtin.append_ #[34, 34] 34 #[.slice ao7 nx.length cap7, .slice (some ⟨wx.heap.size + 1, 0, none⟩) 2 2]).run Try.prog ((wq.alloc (.cells #[.int .u64 rc, .int .u64 rf, .int .u64 yf, .int .u64 rc, .int .u64 yt, .int .u64 rt] 41)).drew) = .ok v5 w5 := by rw [← hsz]; exact hrun
                obtain ⟨ao8, cap8, hv8, _⟩ := hN5.shape
                rw [hl5] at hv8
                subst hv8
                have HL5 : Hid ((nx ++ [(⟨rc, rf, yf⟩ : Rg), ⟨rc, yt, rt⟩]).length = nx.length + 2) := hl5
                clear hrun hN5 hl5 hgr tq hL2 HNq
                go_region_held3 (fun W => (W.cell? ⟨wx.heap.size, 0, none⟩ = some (.int .u64 rc) ∧ W.cell? ⟨wx.heap.size, 1, none⟩ = some (.int .u64 rf) ∧ W.cell? ⟨wx.heap.size, 2, none⟩ = some (.int .u64 rt)) ∧ W.cell? ⟨b2, o2 + j * 3, none⟩ = some (.int .u64 rc) ∧ W.cell? ⟨b2, o2 + j * 3 + 1, none⟩ = some (.int .u64 yf) ∧ W.cell? ⟨b2, o2 + j * 3 + 2, none⟩ = some (.int .u64 yt)) (first | assumption)
                  (first | (refine step_append_runR (by rfl) _ _ rfl _ _ _ rfl rfl hrun2 ?_))
                all_goals (try go_wp2_with fail)
                all_goals (go_roundg (o.length - (i + 1)))
                all_goals (first | (case measure => omega) | skip)
                all_goals exact ⟨i + 1, _, by omega, by go_num, ⟨HQ.out, HS3.out.symm⟩, ⟨_, _, by rw [HL5.out]⟩⟩
          · have hz1 : (rc == yc) = false := by simp [hc]
            have hz2 : (rc != yc) = true := by simp [hc]
            have HS3 : Hid (cutAll ⟨yc, yf, yt⟩ (o.take (i + 1)) = nx ++ [⟨rc, rf, rt⟩]) := by rw [Hid, HS2.out]; unfold cutR; rw [if_pos (.inl hc)]
            clear HS2
            go_wp2_with fail
            go_quiet (fail)
            obtain ⟨v5, w5, hrun, hN5, _⟩ := NewR.app1 (HNa.out nq) ⟨rc, rf, rt⟩ (by omega)
            rw [show ((wx.alloc (rgO ⟨rc, rf, rt⟩)).drewN nq).heap.size = wx.heap.size + 1 from by show (wx.alloc (rgO ⟨rc, rf, rt⟩)).heap.size = _; rw [World.size_alloc]] at hrun
            have hrun2 : (Builtin.append_ #[34, 34] 34 #[.slice ao7 nx.length cap7, .slice (some ⟨wx.heap.size + 1, 0, none⟩) 1 1]).run Try.prog (((wx.alloc (rgO ⟨rc, rf, rt⟩)).alloc (rgO ⟨rc, rf, rt⟩)).drewN nq) = .ok v5 w5 := hrun
            have HQ : Hid (NewR wo w5 v5 (nx ++ [⟨rc, rf, rt⟩])) := hN5
            have hl5 : (nx ++ [(⟨rc, rf, rt⟩ : Rg)]).length = nx.length + 1 := by simp
            obtain ⟨ao8, cap8, hv8, _⟩ := hN5.shape
            rw [hl5] at hv8
            subst hv8
            have HL5 : Hid ((nx ++ [(⟨rc, rf, rt⟩ : Rg)]).length = nx.length + 1) := hl5
            clear hrun hN5 hl5
            go_wp2_with (at_builtin; refine wpList_append_runR rfl _ _ rfl _ _ _ rfl rfl hrun2 ?_)
            go_roundg (o.length - (i + 1))
            case measure => omega
            case rel => exact ⟨i + 1, _, by omega, by go_num, ⟨HQ.out, HS3.out.symm⟩, ⟨_, _, by rw [HL5.out]⟩⟩
        · have hil : i = o.length := by omega
          subst hil
          have hnl : nx.length ≤ 4000 := by rw [HI.out.2]; exact HCl.out _
          have C3 := rclean_any nx _ wx HI.out.1.sl (by omega)
          have HE : Hid (nx = cutAll ⟨yc, yf, yt⟩ o ∧ Touch (fun _ => False) w2 wx) := ⟨by rw [HI.out.2, List.take_length], H.out.2.2.trans HI.out.1.touch⟩
          clear HI
          go_wp2_with fail
          refine C3.mono ?_
          rintro e w5 ⟨v5, o', rfl, n5, f5, _⟩
          have HQ : Hid (SlR w5 v5 o' ∧ Form (tns o') (leftF oa ob (j + 1)) ∧ Touch (fun _ => False) w2 w5) := ⟨n5.sl, (HStep.out nx o' HE.out.1 f5).1, HE.out.2.trans n5.touch⟩
          have hl5 := (HStep.out nx o' HE.out.1 f5).2
          obtain ⟨ao8, cap8, rfl, _⟩ := n5.shape
          clear n5 f5 C3
          go_wp2_with fail
          go_roundg (ob.length - (j + 1))
          case measure => omega
          case rel => exact ⟨j + 1, o', by omega, by go_num, HQ, by omega, ⟨_, _, rfl⟩⟩
    · have hjl : j = ob.length := by omega
      subst hjl
      have HQ : Hid (SlR wo (.slice ao5 o.length cap5) o ∧ Touch (fun _ => False) w wo ∧ Form (tns o) (fun c k => ifAb (turnOf (tns a) c k) (turnOf (tns b) c k))) := ⟨H.out.1, HF.out.2.2.trans H.out.2.2, H.out.2.1.of fun c k => leftF_end HF.out.1 HF.out.2.1 c k⟩
      clear H
      go_wp2_with fail
      refine bodyPost_ret (v := .slice ao5 o.length cap5) (by simp [results, Try.results33, go_sem]) rfl ?_
      exact ⟨_, _, rfl, HQ.out⟩
end Go.Proofs.Ytdblfabbmpdoiaa
