/- The contract of ids.lay. -/
import Derived.Test.YtdblfabbmpdoiaaGreatRowT
import Derived.BigQuiet
import Derived.Deep.QuietTactic
import Derived.Deep.RegionHeld3
namespace Go.Proofs.YtdblfabbmpdoiaaGreat
open Go.RowKit Go.Maps
set_option linter.unusedVariables false
set_option linter.unusedSimpArgs false
set_option maxRecDepth 100000

theorem last_of : ∀ (l : List Tn), l ≠ [] → ∃ p x, l = p ++ [x]
  | l, h => ⟨l.dropLast, l.getLast h, (List.dropLast_concat_getLast h).symm⟩
theorem Touch.drewN {S : Nat → Prop} {a b : World} (h : Touch S a b) (q : Nat) : Touch S a (b.drewN q) := ⟨h.os, h.tape, h.output, h.size, h.block⟩
def SLay (w : World) (b n : Nat) (t x : Tn) (W : World) : Prop := W.cell? ⟨w.heap.size, 0, none⟩ = some (u64 t.c) ∧ W.cell? ⟨w.heap.size, 1, none⟩ = some (u64 t.f) ∧ W.cell? ⟨w.heap.size, 2, none⟩ = some (u64 t.t) ∧ W.cell? ⟨w.heap.size, 3, none⟩ = some (u64 t.n) ∧ W.cell? ⟨b, n * 4, none⟩ = some (u64 x.c) ∧ W.cell? ⟨b, n * 4 + 1, none⟩ = some (u64 x.f) ∧ W.cell? ⟨b, n * 4 + 2, none⟩ = some (u64 x.t) ∧ W.cell? ⟨b, n * 4 + 3, none⟩ = some (u64 x.n)
set_option maxHeartbeats 1600000 in
theorem lay_any (W w : World) (v : Value) (l : List Tn) (t : Tn) (h : NewT W w v l) (hl : l.length ≤ 1073741824) :
    Calls Tryz.prog 87 #[v, tnV t] w fun e w' => ∃ v', e = .returned v' ∧ NewT W w' v' (lay l t) ∧ Touch (fun k => v.ownBlock = some k) w w' := by
  obtain ⟨tc, tf, tt, tn⟩ := t
  have hB := heap_alloc_new w (tnO ⟨tc, tf, tt, tn⟩)
  have hN1 : NewT W (w.alloc (tnO ⟨tc, tf, tt, tn⟩)) v l := h.on ((Touch.refl _ w).alloc _)
  by_cases hn : tn = 0
  · subst hn
    have HQ : Hid (NewT W (w.alloc (tnO ⟨tc, tf, tt, 0⟩)) v (lay l ⟨tc, tf, tt, 0⟩) ∧ Touch (fun k => v.ownBlock = some k) w (w.alloc (tnO ⟨tc, tf, tt, 0⟩))) := by rw [lay_zero _ _ rfl]; exact ⟨hN1, (Touch.refl _ w).alloc _⟩
    obtain ⟨ao, cap, rfl, _⟩ := h.shape
    clear hN1 h hB
    go_enter Tryz.func87, Tryz.ntmps87
    go_wp2_with fail
    refine bodyPost_ret (v := .slice ao l.length cap) (by simp [results, Tryz.results87, go_sem]) rfl ?_
    exact ⟨_, rfl, HQ.out⟩
  · by_cases hne : l = []
    · subst hne
      have HN1 : Hid (NewT W (w.alloc (tnO ⟨tc, tf, tt, tn⟩)) v []) := hN1
      obtain ⟨ao, cap, rfl, _⟩ := h.shape
      clear hN1 h hB
      simp only [List.length_nil] at HN1 ⊢
      go_enter Tryz.func87, Tryz.ntmps87
      go_wp2_with fail
      go_quiet (fail)
      obtain ⟨v5, w5, hrun, hN5, hgr⟩ := NewT.app1 (HN1.out.on ((Touch.refl _ _).drewN nq)) ⟨tc, tf, tt, tn⟩ (by simp)
      have HTo : Hid (Touch (fun k => (Value.slice ao 0 cap).ownBlock = some k) w w5) := ((((Touch.refl _ w).alloc _).drewN nq).alloc _).grown hgr fun i e _ => e
      clear hgr
      rw [show ((w.alloc (tnO ⟨tc, tf, tt, tn⟩)).drewN nq).heap.size = w.heap.size + 1 from by show (w.alloc (tnO ⟨tc, tf, tt, tn⟩)).heap.size = _; rw [World.size_alloc]] at hrun
      have hrun2 : (Builtin.append_ #[95, 95] 95 #[.slice ao 0 cap, .slice (some ⟨w.heap.size + 1, 0, none⟩) 1 1]).run Tryz.prog (((w.alloc (tnO ⟨tc, tf, tt, tn⟩)).alloc (tnO ⟨tc, tf, tt, tn⟩)).drewN nq) = .ok v5 w5 := hrun
      have HQ : Hid (NewT W w5 v5 (lay [] ⟨tc, tf, tt, tn⟩) ∧ Touch (fun k => (Value.slice ao 0 cap).ownBlock = some k) w w5) := by unfold lay; rw [if_neg hn]; exact ⟨hN5, HTo.out⟩
      obtain ⟨ao5, cap5, hv5, _⟩ := hN5.shape
      subst hv5
      simp only [List.nil_append, List.length_singleton] at *
      clear hN5 hrun
      go_wp2_with (at_builtin; refine wpList_append_runT rfl _ _ rfl _ _ _ rfl rfl hrun2 ?_)
      go_ret
      exact ⟨_, rfl, HQ.out⟩
    · obtain ⟨p, x, rfl⟩ := last_of l hne
      obtain ⟨xc, xf, xt, xn⟩ := x
      have hlen : (p ++ [(⟨xc, xf, xt, xn⟩ : Tn)]).length = p.length + 1 := by simp
      obtain ⟨ao, cap, rfl, hg, hlc, hcm⟩ := h.shape
      obtain ⟨g, rfl⟩ := hg (by simp)
      obtain ⟨b, o, cap', e, _, _, hblt, hrow⟩ := hN1.sl.row hne
      simp only [Value.slice.injEq, Option.some.injEq, Addr.mk.injEq] at e
      obtain ⟨⟨rfl, rfl, _⟩, _, rfl⟩ := e
      obtain ⟨c0, c1, c2, c3⟩ := hrow p.length (by simp)
      simp only [List.getElem_concat_length, Nat.zero_add] at c0 c1 c2 c3
      have HN1 : Hid (NewT W (w.alloc (tnO ⟨tc, tf, tt, tn⟩)) (.slice (some ⟨g, 0, none⟩) (p.length + 1) cap) (p ++ [⟨xc, xf, xt, xn⟩])) := by rw [← hlen]; exact hN1
      rw [hlen] at hlc hl ⊢
      have HK : Hid (∀ W, Touch (fun _ => False) (w.alloc (tnO ⟨tc, tf, tt, tn⟩)) W → SLay w g p.length ⟨tc, tf, tt, tn⟩ ⟨xc, xf, xt, xn⟩ W) := fun W t => by
        have := (t.block _ (lt_of_heap hB) id).trans hB
        have q : ∀ i u, (w.alloc (tnO ⟨tc, tf, tt, tn⟩)).cell? ⟨g, i, none⟩ = some u → W.cell? ⟨g, i, none⟩ = some u := fun i u hu => by rw [World.cell?_of_block (t.block _ (World.block_lt_of_cell? _ _ hu) id)]; exact hu
        exact ⟨by rw [cell_of_block this]; rfl, by rw [cell_of_block this]; rfl, by rw [cell_of_block this]; rfl, by rw [cell_of_block this]; rfl, q _ _ c0, q _ _ c1, q _ _ c2, q _ _ c3⟩
      have HF1 := (follows_any ⟨xc, xf, xt, xn⟩ ⟨tc, tf, tt, tn⟩ (w.alloc (tnO ⟨tc, tf, tt, tn⟩))).mono fun e w' (q : _ ∧ _) => (⟨q.1, by rw [q.2]; exact ((Touch.refl _ _).alloc _).alloc _⟩ : _ ∧ Touch (fun _ => False) (w.alloc (tnO ⟨tc, tf, tt, tn⟩)) w')
      have HF2 := (follows_any ⟨xc, xf, xt, xn⟩ ⟨tc, tf, tt, tn⟩ (w.alloc (tnO ⟨tc, tf, tt, tn⟩)).drew).mono fun e w' (q : _ ∧ _) => (⟨q.1, by rw [q.2]; exact ((Touch.refl _ _).drew.alloc _).alloc _⟩ : _ ∧ Touch (fun _ => False) (w.alloc (tnO ⟨tc, tf, tt, tn⟩)) w')
      have i1 : IntKind.i64.wrap (p.length : Int) = (p.length : Int) := by simp [IntKind.wrap, IntKind.bits, IntKind.signed]; omega
      have i2 : (0 : Int) ≤ (p.length : Int) := by omega
      have i3 : (p.length : Int) < (p.length : Int) + 1 := by omega
      have S0 := HK.out _ (Touch.refl _ _)
      have S1 := HK.out _ (Touch.refl _ _).drew
      have HL : Hid (lay (p ++ [⟨xc, xf, xt, xn⟩]) ⟨tc, tf, tt, tn⟩ = p ++ lay [⟨xc, xf, xt, xn⟩] ⟨tc, tf, tt, tn⟩) := lay_last _ _ _
      unfold SLay at S0 S1
      simp only at S0 S1
      clear h hN1 hrow hB hne hlen
      have hFF : Hid (lay [⟨xc, xf, xt, xn⟩] ⟨tc, tf, tt, tn⟩ = if follows ⟨xc, xf, xt, xn⟩ ⟨tc, tf, tt, tn⟩ then [⟨xc, xf, xt, xn⟩, ⟨tc, tf, tt, tn⟩] else [⟨xc, xf, tt, xn⟩]) := by
        show lay [_] _ = _
        rw [lay, if_neg hn]
      generalize follows ⟨xc, xf, xt, xn⟩ ⟨tc, tf, tt, tn⟩ = fo at *
      go_enter Tryz.func87, Tryz.ntmps87
      go_wp2_with fail
      go_region_held3 (fun W => W.cell? ⟨w.heap.size, 0, none⟩ = some (u64 tc) ∧ W.cell? ⟨w.heap.size, 1, none⟩ = some (u64 tf) ∧ W.cell? ⟨w.heap.size, 2, none⟩ = some (u64 tt) ∧ W.cell? ⟨w.heap.size, 3, none⟩ = some (u64 tn) ∧ W.cell? ⟨g, p.length * 4, none⟩ = some (u64 xc) ∧ W.cell? ⟨g, p.length * 4 + 1, none⟩ = some (u64 xf) ∧ W.cell? ⟨g, p.length * 4 + 2, none⟩ = some (u64 xt) ∧ W.cell? ⟨g, p.length * 4 + 3, none⟩ = some (u64 xn)) (first | assumption)
        (first | (go_at_call 97; first | ((with_reducible refine HF1.mono ?_); rintro e w1 ⟨rfl, t1⟩; have S2 := HK.out w1 t1; (unfold SLay at S2; simp only at S2); have T1 : Hid (Touch (fun _ => False) (w.alloc (tnO ⟨tc, tf, tt, tn⟩)) w1) := t1; clear t1) | ((with_reducible refine HF2.mono ?_); rintro e w1 ⟨rfl, t1⟩; have S2 := HK.out w1 t1; (unfold SLay at S2; simp only at S2); have T1 : Hid (Touch (fun _ => False) (w.alloc (tnO ⟨tc, tf, tt, tn⟩)) w1) := t1; clear t1)))
      have HN2 : Hid (NewT W w1 (.slice (some ⟨g, 0, none⟩) (p.length + 1) cap) (p ++ [⟨xc, xf, xt, xn⟩])) := HN1.out.on T1.out
      clear HF1 HF2 S0 S1 HK HN1 c0 c1 c2 c3
      cases fo with
      | true =>
        obtain ⟨v5, w5, hrun, hN5, hgr⟩ := NewT.app1 HN2.out ⟨tc, tf, tt, tn⟩ (by simp; omega)
        have HTo : Hid (Touch (fun k => (Value.slice (some ⟨g, 0, none⟩) (p.length + 1) cap).ownBlock = some k) w w5) := ((((Touch.refl (fun _ => False) w).alloc _).trans T1.out).alloc (tnO ⟨tc, tf, tt, tn⟩) |>.mono fun _ _ e => e.elim).grown hgr fun i e _ => e
        clear hgr
        have HQ : Hid (NewT W w5 v5 (lay (p ++ [⟨xc, xf, xt, xn⟩]) ⟨tc, tf, tt, tn⟩) ∧ Touch (fun k => (Value.slice (some ⟨g, 0, none⟩) (p.length + 1) cap).ownBlock = some k) w w5) := by
          refine ⟨?_, HTo.out⟩
          have e : lay (p ++ [⟨xc, xf, xt, xn⟩]) ⟨tc, tf, tt, tn⟩ = (p ++ [⟨xc, xf, xt, xn⟩]) ++ [⟨tc, tf, tt, tn⟩] := by rw [HL.out, hFF.out]; simp
          rw [e]; exact hN5
        obtain ⟨ao5, cap5, hv5, _⟩ := hN5.shape
        subst hv5
        clear hN5 HN2 hFF HL
        generalize ((p ++ [(⟨xc, xf, xt, xn⟩ : Tn)]) ++ [(⟨tc, tf, tt, tn⟩ : Tn)]).length = n5 at *
        go_wp2_with (at_builtin; refine wpList_append_runT rfl _ _ rfl _ _ _ rfl rfl hrun ?_)
        go_ret
        exact ⟨_, rfl, HQ.out⟩
      | false =>
        have ff : w1.frozen? ⟨g, p.length * 4 + 2, none⟩ = false := HN2.out.free (by rw [show (p ++ [(⟨xc, xf, xt, xn⟩ : Tn)]).length = p.length + 1 from by simp]) (by simp) _
        have HQ : Hid (NewT W (w1.setCell ⟨g, p.length * 4 + 2, none⟩ (.int .u64 tt)) (.slice (some ⟨g, 0, none⟩) (p.length + 1) cap) (lay (p ++ [⟨xc, xf, xt, xn⟩]) ⟨tc, tf, tt, tn⟩) ∧ Touch (fun k => (Value.slice (some ⟨g, 0, none⟩) (p.length + 1) cap).ownBlock = some k) w (w1.setCell ⟨g, p.length * 4 + 2, none⟩ (.int .u64 tt))) := by
          refine ⟨?_, (((Touch.refl (fun _ => False) w).alloc _).trans T1.out |>.mono fun _ _ e => e.elim).setCell _ _ fun _ => rfl⟩
          have e : lay (p ++ [⟨xc, xf, xt, xn⟩]) ⟨tc, tf, tt, tn⟩ = (p ++ [(⟨xc, xf, xt, xn⟩ : Tn)]).set p.length ⟨xc, xf, tt, xn⟩ := by rw [HL.out, hFF.out]; simp
          have := OwnT.set HN2.out (g := g) (cap := cap) (by rw [show (p ++ [(⟨xc, xf, xt, xn⟩ : Tn)]).length = p.length + 1 from by simp]) (p.length * 4 + 2) (by simp; omega) (.int .u64 tt) rfl
          have hx := cellsT_to (p ++ [(⟨xc, xf, xt, xn⟩ : Tn)]) p.length (by simp) tt
          simp only [List.getElem_concat_length] at hx
          rw [hx] at this
          rw [e]
          have hz : ((p ++ [(⟨xc, xf, xt, xn⟩ : Tn)]).set p.length ⟨xc, xf, tt, xn⟩).length = (p ++ [(⟨xc, xf, xt, xn⟩ : Tn)]).length := List.length_set
          unfold NewT
          rw [hz]; exact this
        clear HN2 hFF HL
        go_wp2_with fail
        go_ret
        exact ⟨_, rfl, HQ.out⟩
end Go.Proofs.YtdblfabbmpdoiaaGreat
