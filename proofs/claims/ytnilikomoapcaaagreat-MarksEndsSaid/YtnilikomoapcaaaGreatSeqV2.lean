/- Package seq: childOver. -/
import Derived.Test.YtnilikomoapcaaaGreatPart9
namespace Go.Proofs.YtnilikomoapcaaaGreat
open Go.RowKit
set_option linter.unusedVariables false
set_option linter.unusedSimpArgs false
set_option maxRecDepth 100000

theorem climb_succ (R : List Rn) (p : Sp) (f : Nat) (x : Sp) : climb R p (f + 1) x = if x.run = p.run then fin p x else if (rn R p.run).depth < (rn R (rn R x.run).far.run).depth then climb R p f (rn R x.run).far else if (rn R p.run).depth < (rn R (rn R x.run).par.run).depth then climb R p f (rn R x.run).par else if (rn R x.run).par = p then (⟨x.run, 0⟩, true) else fin p (rn R x.run).par := rfl
/-- Steps up go to lower runs. -/
def Down (R : List Rn) : Prop := rn R 0 = .zero ∧ (∀ r, 0 ≤ (rn R r).depth) ∧ ∀ r, 0 < r → r < R.length → (rn R r).par.run < r ∧ (rn R r).far.run < r
theorem Down.step {R : List Rn} (h : Down R) {r : Nat} (hr : r < R.length) {d : Int} (hd : 0 ≤ d) : (d < (rn R (rn R r).far.run).depth → (rn R r).far.run < r) ∧ (d < (rn R (rn R r).par.run).depth → (rn R r).par.run < r) ∧ (rn R r).far.run < R.length ∧ (rn R r).par.run < R.length := by
  by_cases h0 : r = 0
  · subst h0
    have e := h.1
    rw [e]
    show (d < (rn R 0).depth → _) ∧ (d < (rn R 0).depth → _) ∧ 0 < _ ∧ 0 < _
    rw [e]
    exact ⟨fun h => absurd h (by show ¬ d < 0; omega), fun h => absurd h (by show ¬ d < 0; omega), hr, hr⟩
  · obtain ⟨a, b⟩ := h.2.2 r (by omega) hr
    exact ⟨fun _ => b, fun _ => a, by omega, by omega⟩
/-- More fuel says the same. -/
theorem climb_fuel {R : List Rn} {p : Sp} (h : Down R) : ∀ (f g : Nat) (x : Sp), x.run < f → x.run < g → x.run < R.length → climb R p f x = climb R p g x
  | f + 1, g + 1, x, hf, hg, hx => by
    have hd : 0 ≤ (rn R p.run).depth := h.2.1 _
    obtain ⟨s1, s2, s3, s4⟩ := h.step hx hd
    rw [climb_succ, climb_succ]
    by_cases c0 : x.run = p.run
    · rw [if_pos c0, if_pos c0]
    rw [if_neg c0, if_neg c0]
    by_cases c1 : (rn R p.run).depth < (rn R (rn R x.run).far.run).depth
    · have := s1 c1
      rw [if_pos c1, if_pos c1]
      exact climb_fuel h f g _ (by omega) (by omega) s3
    rw [if_neg c1, if_neg c1]
    by_cases c2 : (rn R p.run).depth < (rn R (rn R x.run).par.run).depth
    · have := s2 c2
      rw [if_pos c2, if_pos c2]
      exact climb_fuel h f g _ (by omega) (by omega) s4
    rw [if_neg c2, if_neg c2]
theorem childR_step {R : List Rn} (h : Down R) {p x : Sp} (hx : x.run < R.length) : childR R p x = if x.run = p.run then fin p x else if (rn R p.run).depth < (rn R (rn R x.run).far.run).depth then childR R p (rn R x.run).far else if (rn R p.run).depth < (rn R (rn R x.run).par.run).depth then childR R p (rn R x.run).par else if (rn R x.run).par = p then (⟨x.run, 0⟩, true) else fin p (rn R x.run).par := by
  have hd : 0 ≤ (rn R p.run).depth := h.2.1 _
  obtain ⟨s1, s2, s3, s4⟩ := h.step hx hd
  unfold childR
  rw [climb_succ]
  by_cases c0 : x.run = p.run
  · rw [if_pos c0, if_pos c0]
  rw [if_neg c0, if_neg c0]
  by_cases c1 : (rn R p.run).depth < (rn R (rn R x.run).far.run).depth
  · have := s1 c1
    rw [if_pos c1, if_pos c1]
    exact climb_fuel h _ _ _ (by omega) (by omega) s3
  rw [if_neg c1, if_neg c1]
  by_cases c2 : (rn R p.run).depth < (rn R (rn R x.run).par.run).depth
  · have := s2 c2
    rw [if_pos c2, if_pos c2]
    exact climb_fuel h _ _ _ (by omega) (by omega) s4
  rw [if_neg c2, if_neg c2]
theorem idx0 (a b c d : Value) (W : World) : (Instr.index 137 (.agg #[a, b, c, d]) (iV 0)).run Tryz.prog W = .ok (.agg #[a, b]) W := by kernel_rfl
theorem idx1 (a b c d : Value) (W : World) : (Instr.index 137 (.agg #[a, b, c, d]) (iV 1)).run Tryz.prog W = .ok (.agg #[c, d]) W := by kernel_rfl
theorem ArrAt.keepN {w W : World} {b g cap n : Nat} {R : List Rn} (h : RunsAt w b 0 g cap R) (t : Touch (fun k => k = n) w W) (hn : w.heap.size ≤ n) : RunsAt W b 0 g cap R :=
  h.keep t (fun e => by have := World.block_lt_of_cell? _ _ h.cell; simp only at this; omega) (fun e => by have := h.lt; omega)
set_option maxHeartbeats 16000000 in
theorem childOver_any {w : World} {b g cap : Nat} {R : List Rn} (h : RunsAt w b 0 g cap R) (hD : Down R) (p x : Sp) (hp : p.run < R.length) (hx : x.run < R.length) (hpp : 0 ≤ p.pos ∧ p.pos ≤ 18014398509481984) :
    Calls Tryz.prog 50 #[.pointer (some ⟨b, 0, none⟩), .agg #[iV ((p).run : Int), u64 (p).pos], .agg #[iV ((x).run : Int), u64 (x).pos]] w fun e w' => e = .returned (.tuple #[.agg #[iV (((childR R p x).1).run : Int), u64 ((childR R p x).1).pos], .bool (childR R p x).2]) ∧ Touch (fun _ => False) w w' := by
  obtain ⟨E, hE⟩ : ∃ E, Hid (E = ((w.alloc (spO p)).alloc (spO x)).alloc zeroSO) := ⟨_, Eq.refl _⟩
  have HTE : Hid (Touch (fun _ => False) w E) := by rw [hE.out]; exact (((Touch.refl _ _).alloc _).alloc _).alloc _
  have HEB : Hid (E.heap[w.heap.size]? = some (spO p) ∧ E.heap[w.heap.size + 1]? = some (spO x) ∧ E.heap[w.heap.size + 1 + 1]? = some (spO ⟨0, 0⟩)) := by
    have h1 := heap_two w (spO p) (spO x)
    have h2 := heap_two (w.alloc (spO p)) (spO x) zeroSO
    rw [World.size_alloc] at h2
    rw [hE.out]
    exact ⟨(Below.heap_alloc _ _ _ (lt_of_heap h1.1)).trans h1.1, h2.1, h2.2⟩
  have HFn : Hid (∀ W, Touch (fun k => k = w.heap.size + 1) E W → ∀ v u, Touch (fun _ => False) w ((W.setCell ⟨w.heap.size + 1 + 1, 0, none⟩ v).setCell ⟨w.heap.size + 1 + 1, 1, none⟩ u)) := fun W t v u => by
    have t1 : Touch (fun _ => False) w W := HTE.out.then (t.mono fun k hk e => e) (fun k hk e => by omega)
    exact (t1.fresh _ _ _ (by omega)).fresh _ _ _ (by omega)
  have HRn : Hid (∀ W, Touch (fun k => k = w.heap.size + 1) E W → RunsAt W b 0 g cap R ∧ W.heap[w.heap.size]? = some (spO p) ∧ W.heap[w.heap.size + 1 + 1]? = some (spO ⟨0, 0⟩)) := fun W t => by
    refine ⟨?_, (t.block _ (lt_of_heap HEB.out.1) (by omega)).trans HEB.out.1, (t.block _ (lt_of_heap HEB.out.2.2) (by omega)).trans HEB.out.2.2⟩
    exact h.keepN (HTE.out.then (t.mono fun k hk e => e) (fun k hk e => by omega) |>.mono fun k hk e => False.elim e) (Nat.le_refl _)
  have HDn : Hid (Down R) := hD
  have HpL : Hid (p.run < R.length) := hp
  obtain ⟨res, hres⟩ : ∃ r, Hid (r = childR R p x) := ⟨_, Eq.refl _⟩
  rw [← hres.out]
  obtain ⟨pr, pp⟩ := p
  obtain ⟨xr, xp⟩ := x
  simp only at HEB HRn hp hx hpp HpL ⊢
  have lp : (pr : Int) < (R.length : Int) := by omega
  have lp0 : (0 : Int) ≤ (pr : Int) := by omega
  have epp : IntKind.u64.wrap (pp + 1) = pp + 1 := by rw [IntKind.wrap_u64]; omega
  obtain ⟨n, hn⟩ : ∃ m, Hid (m = w.heap.size) := ⟨_, Eq.refl _⟩
  obtain ⟨n1, hn1⟩ : ∃ m, Hid (m = w.heap.size + 1) := ⟨_, Eq.refl _⟩
  obtain ⟨n2, hn2⟩ : ∃ m, Hid (m = w.heap.size + 1 + 1) := ⟨_, Eq.refl _⟩
  obtain ⟨dp, hdp⟩ : ∃ d, Hid (d = (rn R pr).depth) := ⟨_, Eq.refl _⟩
  have HXl : Hid (xr < R.length) := hx
  clear h hD hp hx hpp
  go_enter Tryz.func50, Tryz.ntmps50
  go_wp2_with fail
  go_step3
  go_upto_region 1 with fail
  rw [← hE.out]
  clear hE
  rw [← hn2.out] at HEB HFn HRn ⊢
  rw [← hn1.out] at HEB HFn HRn ⊢
  rw [← hn.out] at HEB HRn ⊢
  have HP0 := (HRn.out E (Touch.refl _ _)).1.rn pr HpL.out
  have q0 := HP0.c10
  rw [← hdp.out] at q0
  have q1 := (HRn.out E (Touch.refl _ _)).1.cell
  obtain ⟨q2, q3, -, -⟩ := spO_cells HEB.out.1
  clear HP0
  go_quiet (fail)
  clear q0 q1 q2 q3
  have HT1 : Hid (Touch (fun k => k = n1) E (E.drewN nq) ∧ (E.drewN nq).heap[n1]? = some (spO ⟨xr, xp⟩)) := ⟨(Touch.refl _ _).drewN nq, HEB.out.2.1⟩
  generalize E.drewN nq = E1 at *
  go_wp2_with fail
  go_step3
  go_wp2_with fail
  go_loopg [9] xr (fun gk s9 wx => ∃ (yr : Nat) (yp : Int), Hid (yr = gk) ∧ Hid (Touch (fun k => k = n1) E wx ∧ wx.heap[n1]? = some (spO ⟨yr, yp⟩) ∧ yr < R.length ∧ res = childR R ⟨pr, pp⟩ ⟨yr, yp⟩))
  case atStart => exact ⟨xr, xp, rfl, HT1.out.1, HT1.out.2, HXl.out, hres.out⟩
  case round =>
    obtain ⟨yr, yp, hgk, HI⟩ := hrel
    obtain ⟨W0, hW0⟩ : ∃ X, X = wr := ⟨_, rfl⟩
    subst hW0
    have hgk := hgk.out
    subst hgk
    have HTW : Hid (Touch (fun k => k = n1) E W0) := HI.out.1
    have HRW := HRn.out W0 HTW.out
    have HN2 : Hid (W0.heap[n2]? = some (spO ⟨0, 0⟩)) := HRW.2.2
    have HPb : Hid (W0.heap[n]? = some (spO ⟨pr, pp⟩)) := HRW.2.1
    obtain ⟨a0, a1, -, -⟩ := spO_cells HPb.out
    obtain ⟨b0, b1, -, -⟩ := spO_cells HI.out.2.1
    obtain ⟨r0, r1, z0, z1⟩ := spO_cells HN2.out
    have hyl := HI.out.2.2.1
    have HSt : Hid (res = _) := HI.out.2.2.2.trans (childR_step HDn.out hyl)
    have ly : (yr : Int) < (R.length : Int) := by omega
    have ly0 : (0 : Int) ≤ (yr : Int) := by omega
    by_cases h1 : yr = pr
    · have e1 : ((yr : Int) != (pr : Int)) = false := by simp [h1]
      have HRes : Hid (res = fin ⟨pr, pp⟩ ⟨yr, yp⟩) := by rw [HSt.out]; exact if_pos h1
      clear HSt HRW hyl
      have H1x : Hid (yr = pr) := h1
      clear h1
      go_upto_region 13 with fail
      clear e1
      have h1x := H1x.out
      by_cases t1 : yr = pr
      · have f1 : ((yr : Int) != (pr : Int)) = false := by simp [t1]
        by_cases t2 : yp ≤ pp
        · have f2 : decide (yp ≤ pp) = true := by simp [t2]
          have HX : Hid (res = (⟨0, 0⟩, false)) := HRes.out.trans (if_pos (.inr t2))
          have u0 : (W0.setCell ⟨n2, 0, none⟩ (iV (0 : Int))).cell? ⟨n2, 1, none⟩ = some (u64 0) := by rw [cell_of_block (heap_setCell_same _ _ _ _ HN2.out)]; rfl
          have v0 : ((W0.setCell ⟨n2, 0, none⟩ (iV (0 : Int))).setCell ⟨n2, 1, none⟩ (u64 0)).cell? ⟨n2, 0, none⟩ = some (iV (0 : Int)) := (spO_cells (spO_set (yr := 0) (yp := 0) HN2.out)).1
          have v1 : ((W0.setCell ⟨n2, 0, none⟩ (iV (0 : Int))).setCell ⟨n2, 1, none⟩ (u64 0)).cell? ⟨n2, 1, none⟩ = some (u64 0) := (spO_cells (spO_set (yr := 0) (yp := 0) HN2.out)).2.1
          have HF : Hid (Touch (fun _ => False) w ((W0.setCell ⟨n2, 0, none⟩ (iV (0 : Int))).setCell ⟨n2, 1, none⟩ (u64 0))) := HFn.out W0 HTW.out _ _
          clear t1 t2

          go_wp2_with fail
          try rw [Exit.noGoto_ret]
          refine bodyPost_ret (v := .tuple #[.agg #[iV (0 : Int), u64 0], .bool false]) (by simp [results, Tryz.results50, go_sem, v0, v1]) rfl ?_
          exact ⟨by (rw [HX.out] <;> rfl), HF.out⟩
        · have f2 : decide (yp ≤ pp) = false := by simp; omega
          have HX : Hid (res = (⟨pr, (pp + 1)⟩, true)) := HRes.out.trans (if_neg (fun h => h.elim (fun h => h t1) t2))
          have u0 : (W0.setCell ⟨n2, 0, none⟩ (iV (pr : Int))).cell? ⟨n2, 1, none⟩ = some (u64 0) := by rw [cell_of_block (heap_setCell_same _ _ _ _ HN2.out)]; rfl
          have v0 : ((W0.setCell ⟨n2, 0, none⟩ (iV (pr : Int))).setCell ⟨n2, 1, none⟩ (u64 (pp + 1))).cell? ⟨n2, 0, none⟩ = some (iV (pr : Int)) := (spO_cells (spO_set (yr := pr) (yp := (pp + 1)) HN2.out)).1
          have v1 : ((W0.setCell ⟨n2, 0, none⟩ (iV (pr : Int))).setCell ⟨n2, 1, none⟩ (u64 (pp + 1))).cell? ⟨n2, 1, none⟩ = some (u64 (pp + 1)) := (spO_cells (spO_set (yr := pr) (yp := (pp + 1)) HN2.out)).2.1
          have HF : Hid (Touch (fun _ => False) w ((W0.setCell ⟨n2, 0, none⟩ (iV (pr : Int))).setCell ⟨n2, 1, none⟩ (u64 (pp + 1)))) := HFn.out W0 HTW.out _ _
          clear t1 t2

          go_wp2_with fail
          try rw [Exit.noGoto_ret]
          refine bodyPost_ret (v := .tuple #[.agg #[iV (pr : Int), u64 (pp + 1)], .bool true]) (by simp [results, Tryz.results50, go_sem, v0, v1]) rfl ?_
          exact ⟨by (rw [HX.out] <;> rfl), HF.out⟩
      · have f1 : ((yr : Int) != (pr : Int)) = true := by simp only [bne_iff_ne, ne_eq]; omega
        exact absurd h1x t1
    · have e1 : ((yr : Int) != (pr : Int)) = true := by simp only [bne_iff_ne, ne_eq]; omega
      have HR0 : Hid (∀ W, Touch (fun k => k = n1) E W → W.cell? ⟨b, 0, none⟩ = some (.slice (some ⟨g, 0, none⟩) R.length cap) ∧ RnAt W g yr (rn R yr)) := fun W t => ⟨(HRn.out W t).1.cell, (HRn.out W t).1.rn yr hyl⟩
      have HDp : Hid (∀ W r, r < R.length → Touch (fun k => k = n1) E W → W.cell? ⟨b, 0, none⟩ = some (.slice (some ⟨g, 0, none⟩) R.length cap) ∧ W.cell? ⟨g, r * 11 + 10, none⟩ = some (iV (rn R r).depth)) := fun W r hr t => ⟨(HRn.out W t).1.cell, ((HRn.out W t).1.rn r hr).c10⟩
      have HSp : Hid ((dp < (rn R (rn R yr).far.run).depth → (rn R yr).far.run < yr) ∧ (dp < (rn R (rn R yr).par.run).depth → (rn R yr).par.run < yr) ∧ (rn R yr).far.run < R.length ∧ (rn R yr).par.run < R.length) := HDn.out.step hyl (by rw [hdp.out]; exact HDn.out.2.1 _)
      have HS2 : Hid (res = if dp < (rn R (rn R yr).far.run).depth then childR R ⟨pr, pp⟩ (rn R yr).far else if dp < (rn R (rn R yr).par.run).depth then childR R ⟨pr, pp⟩ (rn R yr).par else if (rn R yr).par = ⟨pr, pp⟩ then (⟨yr, 0⟩, true) else fin ⟨pr, pp⟩ (rn R yr).par) := by
        rw [hdp.out]
        exact HSt.out.trans (if_neg h1)
      clear HSt h1 HRW
      generalize rn R yr = rr at *
      obtain ⟨⟨fc, fk, flc, flk, frc, frk⟩, ⟨ar, ap⟩, ⟨gr, gp⟩, dd⟩ := rr
      simp only at HR0 HSp HS2
      obtain ⟨q, c0, c1, c2, c3, c4, c5, c6, c7, c8, c9, c10⟩ := HR0.out W0 HTW.out
      obtain ⟨q', d0, d1, d2, d3, d4, d5, d6, d7, d8, d9, d10⟩ := HR0.out _ (HTW.out.alloc (.cells #[u64 0, u64 0, u64 0, u64 0, u64 0, u64 0, iV 0, u64 0, iV 0, u64 0, iV 0] 66))
      obtain ⟨b0', b1', -, -⟩ := spO_cells ((Below.heap_alloc W0 (.cells #[u64 0, u64 0, u64 0, u64 0, u64 0, u64 0, iV 0, u64 0, iV 0, u64 0, iV 0] 66) _ (lt_of_heap HI.out.2.1)).trans HI.out.2.1)
      go_upto_region 3 with fail
      go_region
      clear q c0 c1 c2 c3 c4 c5 c6 c7 c8 c9 c10 q' d0 d1 d2 d3 d4 d5 d6 d7 d8 d9 d10 b0' b1'
      obtain ⟨W1, hW1⟩ : ∃ W, Hid (W = (W0.alloc (.cells #[u64 fc, u64 fk, u64 flc, u64 flk, u64 frc, u64 frk, iV (ar : Int), u64 ap, iV (gr : Int), u64 gp, iV dd] 66)).drew) := ⟨_, Eq.refl _⟩
      have HJ0 : Hid (Touch (fun k => k = n1) E W1 ∧ W1.heap[n1]? = some (spO ⟨yr, yp⟩) ∧ W1.heap[W0.heap.size]? = some (.cells #[u64 fc, u64 fk, u64 flc, u64 flk, u64 frc, u64 frk, iV (ar : Int), u64 ap, iV (gr : Int), u64 gp, iV dd] 66)) := by
        rw [hW1.out]
        exact ⟨(HTW.out.alloc _).drew, (Below.heap_alloc W0 _ _ (lt_of_heap HI.out.2.1)).trans HI.out.2.1, heap_alloc_new W0 _⟩
      rw [← hW1.out]
      clear hW1
      obtain ⟨m, hm⟩ : ∃ m, Hid (m = W0.heap.size) := ⟨_, Eq.refl _⟩
      rw [← hm.out] at HJ0 ⊢
      have HO : Hid (∀ W : World, W.heap[m]? = some (.cells #[u64 fc, u64 fk, u64 flc, u64 flk, u64 frc, u64 frk, iV (ar : Int), u64 ap, iV (gr : Int), u64 gp, iV dd] 66) → W.cell? ⟨m, 6, none⟩ = some (iV (ar : Int)) ∧ W.cell? ⟨m, 7, none⟩ = some (u64 ap) ∧ W.cell? ⟨m, 8, none⟩ = some (iV (gr : Int)) ∧ W.cell? ⟨m, 9, none⟩ = some (u64 gp)) := fun W hW => ⟨by rw [cell_of_block hW]; rfl, by rw [cell_of_block hW]; rfl, by rw [cell_of_block hW]; rfl, by rw [cell_of_block hW]; rfl⟩
      obtain ⟨m6, m7, m8, m9⟩ := HO.out W1 HJ0.out.2.2
      clear a0 a1 b0 b1 r0 r1 z0 z1 HI
      go_wp2_with fail
      clear m6 m7 m8 m9
      go_loopg [39] 2 (fun gk s39 wx => ∃ j : Nat, Hid (j + gk = 2) ∧ s39 = iV (j : Int) ∧ Hid (Touch (fun k => k = n1) E wx ∧ wx.heap[n1]? = some (spO ⟨yr, yp⟩) ∧ wx.heap[m]? = some (.cells #[u64 fc, u64 fk, u64 flc, u64 flk, u64 frc, u64 frk, iV (ar : Int), u64 ap, iV (gr : Int), u64 gp, iV dd] 66)) ∧ Hid ((1 ≤ j → ¬ dp < (rn R gr).depth) ∧ (2 ≤ j → ¬ dp < (rn R ar).depth)))
      case atStart => exact ⟨0, rfl, rfl, HJ0.out, ⟨fun h => absurd h (by omega), fun h => absurd h (by omega)⟩⟩
      case round =>
        obtain ⟨j, hjg, rfl, HJ, HD⟩ := hrel
        obtain ⟨Wx, hWx⟩ : ∃ X, X = wr := ⟨_, rfl⟩
        subst hWx
        by_cases hj2 : j < 2
        · rcases (show j = 0 ∨ j = 1 by omega) with rfl | rfl
          · obtain ⟨Wy, hWy⟩ : ∃ W, Hid (W = Wx.alloc (.cells #[iV (gr : Int), u64 gp] 64)) := ⟨_, Eq.refl _⟩
            have HY : Hid (Touch (fun k => k = n1) E Wy ∧ Wy.heap[n1]? = some (spO ⟨yr, yp⟩) ∧ Wy.heap[m]? = some (.cells #[u64 fc, u64 fk, u64 flc, u64 flk, u64 frc, u64 frk, iV (ar : Int), u64 ap, iV (gr : Int), u64 gp, iV dd] 66) ∧ Wy.heap[Wx.heap.size]? = some (spO ⟨gr, gp⟩)) := by
              rw [hWy.out]
              exact ⟨HJ.out.1.alloc _, (Below.heap_alloc Wx _ _ (lt_of_heap HJ.out.2.1)).trans HJ.out.2.1, (Below.heap_alloc Wx _ _ (lt_of_heap HJ.out.2.2)).trans HJ.out.2.2, heap_alloc_new Wx _⟩
            obtain ⟨dx, hdx⟩ : ∃ d, Hid (d = (rn R gr).depth) := ⟨_, Eq.refl _⟩
            have lr : (gr : Int) < (R.length : Int) := by have := HSp.out.2.2.1; omega
            have lr0 : (0 : Int) ≤ (gr : Int) := by omega
            clear hj2
            have hx0 := idx0
            have hx1 := idx1
            go_upto_region 7 with fail
            clear hx0 hx1
            rw [← hWy.out]
            clear hWy
            obtain ⟨mu, hmu⟩ : ∃ m, Hid (m = Wx.heap.size) := ⟨_, Eq.refl _⟩
            rw [← hmu.out] at HY ⊢
            obtain ⟨k0, k1⟩ := HDp.out Wy gr HSp.out.2.2.1 HY.out.1
            rw [← hdx.out] at k1
            obtain ⟨g0, g1, -, -⟩ := spO_cells HY.out.2.2.2
            by_cases hgt : dp < dx
            · have eg : decide (dp < dx) = true := by simp [hgt]
              have HUp : Hid (gr < yr ∧ res = childR R ⟨pr, pp⟩ ⟨gr, gp⟩) := by
                rw [hdx.out] at hgt
                exact ⟨HSp.out.1 hgt, HS2.out.trans (if_pos hgt)⟩
              clear hgt
              go_quiet (fail)
              clear k0 k1 g0 g1
              have HZ : Hid (Touch (fun k => k = n1) E (Wy.drewN nq) ∧ (Wy.drewN nq).heap[n1]? = some (spO ⟨yr, yp⟩) ∧ (Wy.drewN nq).heap[mu]? = some (spO ⟨gr, gp⟩)) := ⟨HY.out.1.drewN _, HY.out.2.1, HY.out.2.2.2⟩
              generalize Wy.drewN nq = Wz at *
              obtain ⟨x0, x1, y0, y1⟩ := spO_cells HZ.out.2.1
              obtain ⟨g0, g1, -, -⟩ := spO_cells HZ.out.2.2
              have ux : (Wz.setCell ⟨n1, 0, none⟩ (iV (gr : Int))).cell? ⟨n1, 1, none⟩ = some (u64 yp) := by rw [cell_of_block (heap_setCell_same _ _ _ _ HZ.out.2.1)]; rfl
              have HEnd : Hid (Touch (fun k => k = n1) E ((Wz.setCell ⟨n1, 0, none⟩ (iV (gr : Int))).setCell ⟨n1, 1, none⟩ (u64 gp)) ∧ ((Wz.setCell ⟨n1, 0, none⟩ (iV (gr : Int))).setCell ⟨n1, 1, none⟩ (u64 gp)).heap[n1]? = some (spO ⟨gr, gp⟩) ∧ gr < R.length ∧ res = childR R ⟨pr, pp⟩ ⟨gr, gp⟩) := ⟨(HZ.out.1.setCell _ _ fun _ => rfl).setCell _ _ fun _ => rfl, spO_set HZ.out.2.1, HSp.out.2.2.1, HUp.out.2⟩
              have hlt : gr < yr := HUp.out.1
              clear HUp
              go_wp2_with fail
              go_roundg gr
              case measure => exact hlt
              case rel => exact ⟨gr, gp, rfl, HEnd.out⟩
            · have eg : decide (dp < dx) = false := by simp; omega
              have HNo : Hid (¬ dp < (rn R gr).depth) := by rw [← hdx.out]; exact hgt
              have hgk : gk = 2 := by have := hjg.out; omega
              clear hgt hjg
              go_quiet (fail)
              clear k0 k1 g0 g1
              have HZ : Hid (Touch (fun k => k = n1) E (Wy.drewN nq) ∧ (Wy.drewN nq).heap[n1]? = some (spO ⟨yr, yp⟩) ∧ (Wy.drewN nq).heap[m]? = some (.cells #[u64 fc, u64 fk, u64 flc, u64 flk, u64 frc, u64 frk, iV (ar : Int), u64 ap, iV (gr : Int), u64 gp, iV dd] 66)) := ⟨HY.out.1.drewN _, HY.out.2.1, HY.out.2.2.1⟩
              generalize Wy.drewN nq = Wz at *
              go_wp2_with fail
              go_roundg 1
              case measure => omega
              case rel => exact ⟨1, rfl, rfl, HZ.out, ⟨fun _ => HNo.out, fun h => absurd h (by omega)⟩⟩
          · obtain ⟨Wy, hWy⟩ : ∃ W, Hid (W = Wx.alloc (.cells #[iV (ar : Int), u64 ap] 64)) := ⟨_, Eq.refl _⟩
            have HY : Hid (Touch (fun k => k = n1) E Wy ∧ Wy.heap[n1]? = some (spO ⟨yr, yp⟩) ∧ Wy.heap[m]? = some (.cells #[u64 fc, u64 fk, u64 flc, u64 flk, u64 frc, u64 frk, iV (ar : Int), u64 ap, iV (gr : Int), u64 gp, iV dd] 66) ∧ Wy.heap[Wx.heap.size]? = some (spO ⟨ar, ap⟩)) := by
              rw [hWy.out]
              exact ⟨HJ.out.1.alloc _, (Below.heap_alloc Wx _ _ (lt_of_heap HJ.out.2.1)).trans HJ.out.2.1, (Below.heap_alloc Wx _ _ (lt_of_heap HJ.out.2.2)).trans HJ.out.2.2, heap_alloc_new Wx _⟩
            obtain ⟨dx, hdx⟩ : ∃ d, Hid (d = (rn R ar).depth) := ⟨_, Eq.refl _⟩
            have lr : (ar : Int) < (R.length : Int) := by have := HSp.out.2.2.2; omega
            have lr0 : (0 : Int) ≤ (ar : Int) := by omega
            clear hj2
            have hx0 := idx0
            have hx1 := idx1
            go_upto_region 7 with fail
            clear hx0 hx1
            rw [← hWy.out]
            clear hWy
            obtain ⟨mu, hmu⟩ : ∃ m, Hid (m = Wx.heap.size) := ⟨_, Eq.refl _⟩
            rw [← hmu.out] at HY ⊢
            obtain ⟨k0, k1⟩ := HDp.out Wy ar HSp.out.2.2.2 HY.out.1
            rw [← hdx.out] at k1
            obtain ⟨g0, g1, -, -⟩ := spO_cells HY.out.2.2.2
            by_cases hgt : dp < dx
            · have eg : decide (dp < dx) = true := by simp [hgt]
              have HUp : Hid (ar < yr ∧ res = childR R ⟨pr, pp⟩ ⟨ar, ap⟩) := by
                rw [hdx.out] at hgt
                exact ⟨HSp.out.2.1 hgt, HS2.out.trans ((if_neg (HD.out.1 (by omega))).trans (if_pos hgt))⟩
              clear hgt
              go_quiet (fail)
              clear k0 k1 g0 g1
              have HZ : Hid (Touch (fun k => k = n1) E (Wy.drewN nq) ∧ (Wy.drewN nq).heap[n1]? = some (spO ⟨yr, yp⟩) ∧ (Wy.drewN nq).heap[mu]? = some (spO ⟨ar, ap⟩)) := ⟨HY.out.1.drewN _, HY.out.2.1, HY.out.2.2.2⟩
              generalize Wy.drewN nq = Wz at *
              obtain ⟨x0, x1, y0, y1⟩ := spO_cells HZ.out.2.1
              obtain ⟨g0, g1, -, -⟩ := spO_cells HZ.out.2.2
              have ux : (Wz.setCell ⟨n1, 0, none⟩ (iV (ar : Int))).cell? ⟨n1, 1, none⟩ = some (u64 yp) := by rw [cell_of_block (heap_setCell_same _ _ _ _ HZ.out.2.1)]; rfl
              have HEnd : Hid (Touch (fun k => k = n1) E ((Wz.setCell ⟨n1, 0, none⟩ (iV (ar : Int))).setCell ⟨n1, 1, none⟩ (u64 ap)) ∧ ((Wz.setCell ⟨n1, 0, none⟩ (iV (ar : Int))).setCell ⟨n1, 1, none⟩ (u64 ap)).heap[n1]? = some (spO ⟨ar, ap⟩) ∧ ar < R.length ∧ res = childR R ⟨pr, pp⟩ ⟨ar, ap⟩) := ⟨(HZ.out.1.setCell _ _ fun _ => rfl).setCell _ _ fun _ => rfl, spO_set HZ.out.2.1, HSp.out.2.2.2, HUp.out.2⟩
              have hlt : ar < yr := HUp.out.1
              clear HUp
              go_wp2_with fail
              go_roundg ar
              case measure => exact hlt
              case rel => exact ⟨ar, ap, rfl, HEnd.out⟩
            · have eg : decide (dp < dx) = false := by simp; omega
              have HNo : Hid (¬ dp < (rn R ar).depth) := by rw [← hdx.out]; exact hgt
              have hgk : gk = 1 := by have := hjg.out; omega
              clear hgt hjg
              go_quiet (fail)
              clear k0 k1 g0 g1
              have HZ : Hid (Touch (fun k => k = n1) E (Wy.drewN nq) ∧ (Wy.drewN nq).heap[n1]? = some (spO ⟨yr, yp⟩) ∧ (Wy.drewN nq).heap[m]? = some (.cells #[u64 fc, u64 fk, u64 flc, u64 flk, u64 frc, u64 frk, iV (ar : Int), u64 ap, iV (gr : Int), u64 gp, iV dd] 66)) := ⟨HY.out.1.drewN _, HY.out.2.1, HY.out.2.2.1⟩
              generalize Wy.drewN nq = Wz at *
              go_wp2_with fail
              go_roundg 0
              case measure => omega
              case rel => exact ⟨2, rfl, rfl, HZ.out, ⟨fun _ => HD.out.1 (by omega), fun _ => HNo.out⟩⟩
        · have hj : j = 2 := by have := hjg.out; omega
          subst hj
          have HNo : Hid (¬ dp < (rn R gr).depth ∧ ¬ dp < (rn R ar).depth) := ⟨HD.out.1 (by omega), HD.out.2 (by omega)⟩
          have HQ := HRn.out Wx HJ.out.1
          have HN2 : Hid (Wx.heap[n2]? = some (spO ⟨0, 0⟩)) := HQ.2.2
          obtain ⟨a0, a1, -, -⟩ := spO_cells HQ.2.1
          obtain ⟨b0, b1, y0, y1⟩ := spO_cells HJ.out.2.1
          obtain ⟨r0, r1, z0, z1⟩ := spO_cells HN2.out
          obtain ⟨m6, m7, m8, m9⟩ := HO.out Wx HJ.out.2.2
          clear HTW
          have HTW : Hid (Touch (fun k => k = n1) E Wx) := HJ.out.1
          clear hj2 hjg HD
          by_cases h5 : ar = pr ∧ ap = pp
          · have e5 : ((ar : Int) == (pr : Int)) = true := by simp [h5.1]
            have e6 : (ap == pp) = true := by simp [h5.2]
            have HXx : Hid (res = (⟨yr, 0⟩, true)) := HS2.out.trans ((if_neg HNo.out.1).trans ((if_neg HNo.out.2).trans (if_pos (by rw [h5.1, h5.2]))))
            clear h5 HQ
            have HX : Hid (res = (⟨yr, 0⟩, true)) := HXx.out
            have u0 : (Wx.setCell ⟨n2, 0, none⟩ (iV (yr : Int))).cell? ⟨n2, 1, none⟩ = some (u64 0) := by rw [cell_of_block (heap_setCell_same _ _ _ _ HN2.out)]; rfl
            have v0 : ((Wx.setCell ⟨n2, 0, none⟩ (iV (yr : Int))).setCell ⟨n2, 1, none⟩ (u64 0)).cell? ⟨n2, 0, none⟩ = some (iV (yr : Int)) := (spO_cells (spO_set (yr := yr) (yp := 0) HN2.out)).1
            have v1 : ((Wx.setCell ⟨n2, 0, none⟩ (iV (yr : Int))).setCell ⟨n2, 1, none⟩ (u64 0)).cell? ⟨n2, 1, none⟩ = some (u64 0) := (spO_cells (spO_set (yr := yr) (yp := 0) HN2.out)).2.1
            have HF : Hid (Touch (fun _ => False) w ((Wx.setCell ⟨n2, 0, none⟩ (iV (yr : Int))).setCell ⟨n2, 1, none⟩ (u64 0))) := HFn.out Wx HTW.out _ _

            go_wp2_with fail
            try rw [Exit.noGoto_ret]
            refine bodyPost_ret (v := .tuple #[.agg #[iV (yr : Int), u64 0], .bool true]) (by simp [results, Tryz.results50, go_sem, v0, v1]) rfl ?_
            exact ⟨by (rw [HX.out] <;> rfl), HF.out⟩
          · have HRes : Hid (res = fin ⟨pr, pp⟩ ⟨ar, ap⟩) := HS2.out.trans ((if_neg HNo.out.1).trans ((if_neg HNo.out.2).trans (if_neg (fun e => h5 (by simpa using e)))))
            have ux : (Wx.setCell ⟨n1, 0, none⟩ (iV (ar : Int))).cell? ⟨n1, 1, none⟩ = some (u64 yp) := by rw [cell_of_block (heap_setCell_same _ _ _ _ HJ.out.2.1)]; rfl
            obtain ⟨WE, hWE⟩ : ∃ W, Hid (W = (Wx.setCell ⟨n1, 0, none⟩ (iV (ar : Int))).setCell ⟨n1, 1, none⟩ (u64 ap)) := ⟨_, Eq.refl _⟩
            have HWE : Hid (Touch (fun k => k = n1) E WE ∧ WE.heap[n1]? = some (spO ⟨ar, ap⟩)) := by rw [hWE.out]; exact ⟨(HTW.out.setCell _ _ fun _ => rfl).setCell _ _ fun _ => rfl, spO_set HJ.out.2.1⟩
            have hcs : ((ar : Int) == (pr : Int)) = false ∨ (((ar : Int) == (pr : Int)) = true ∧ (ap == pp) = false) := by
              by_cases h6 : ar = pr
              · exact .inr ⟨by simp [h6], by simp; exact fun e => h5 ⟨h6, e⟩⟩
              · exact .inl (by simp; omega)
            have HQE := HRn.out WE HWE.out.1
            clear h5 HQ
            rcases hcs with e5 | ⟨e5, e6⟩
            all_goals
              go_upto_region 13 with fail
              rw [← hWE.out]
              clear hWE a0 a1 b0 b1 y0 y1 r0 r1 z0 z1 m6 m7 m8 m9 ux e5 HTW HN2
              (try clear e6)
              have HTW : Hid (Touch (fun k => k = n1) E WE) := HWE.out.1
              have HN2 : Hid (WE.heap[n2]? = some (spO ⟨0, 0⟩)) := HQE.2.2
              obtain ⟨a0, a1, -, -⟩ := spO_cells HQE.2.1
              obtain ⟨b0, b1, -, -⟩ := spO_cells HWE.out.2
              obtain ⟨r0, r1, z0, z1⟩ := spO_cells HN2.out
              clear HQE HJ HS2
              by_cases t1 : ar = pr
              · have f1 : ((ar : Int) != (pr : Int)) = false := by simp [t1]
                by_cases t2 : ap ≤ pp
                · have f2 : decide (ap ≤ pp) = true := by simp [t2]
                  have HX : Hid (res = (⟨0, 0⟩, false)) := HRes.out.trans (if_pos (.inr t2))
                  have u0 : (WE.setCell ⟨n2, 0, none⟩ (iV (0 : Int))).cell? ⟨n2, 1, none⟩ = some (u64 0) := by rw [cell_of_block (heap_setCell_same _ _ _ _ HN2.out)]; rfl
                  have v0 : ((WE.setCell ⟨n2, 0, none⟩ (iV (0 : Int))).setCell ⟨n2, 1, none⟩ (u64 0)).cell? ⟨n2, 0, none⟩ = some (iV (0 : Int)) := (spO_cells (spO_set (yr := 0) (yp := 0) HN2.out)).1
                  have v1 : ((WE.setCell ⟨n2, 0, none⟩ (iV (0 : Int))).setCell ⟨n2, 1, none⟩ (u64 0)).cell? ⟨n2, 1, none⟩ = some (u64 0) := (spO_cells (spO_set (yr := 0) (yp := 0) HN2.out)).2.1
                  have HF : Hid (Touch (fun _ => False) w ((WE.setCell ⟨n2, 0, none⟩ (iV (0 : Int))).setCell ⟨n2, 1, none⟩ (u64 0))) := HFn.out WE HTW.out _ _
                  clear t1 t2

                  go_wp2_with fail
                  try rw [Exit.noGoto_ret]
                  refine bodyPost_ret (v := .tuple #[.agg #[iV (0 : Int), u64 0], .bool false]) (by simp [results, Tryz.results50, go_sem, v0, v1]) rfl ?_
                  exact ⟨by (rw [HX.out] <;> rfl), HF.out⟩
                · have f2 : decide (ap ≤ pp) = false := by simp; omega
                  have HX : Hid (res = (⟨pr, (pp + 1)⟩, true)) := HRes.out.trans (if_neg (fun h => h.elim (fun h => h t1) t2))
                  have u0 : (WE.setCell ⟨n2, 0, none⟩ (iV (pr : Int))).cell? ⟨n2, 1, none⟩ = some (u64 0) := by rw [cell_of_block (heap_setCell_same _ _ _ _ HN2.out)]; rfl
                  have v0 : ((WE.setCell ⟨n2, 0, none⟩ (iV (pr : Int))).setCell ⟨n2, 1, none⟩ (u64 (pp + 1))).cell? ⟨n2, 0, none⟩ = some (iV (pr : Int)) := (spO_cells (spO_set (yr := pr) (yp := (pp + 1)) HN2.out)).1
                  have v1 : ((WE.setCell ⟨n2, 0, none⟩ (iV (pr : Int))).setCell ⟨n2, 1, none⟩ (u64 (pp + 1))).cell? ⟨n2, 1, none⟩ = some (u64 (pp + 1)) := (spO_cells (spO_set (yr := pr) (yp := (pp + 1)) HN2.out)).2.1
                  have HF : Hid (Touch (fun _ => False) w ((WE.setCell ⟨n2, 0, none⟩ (iV (pr : Int))).setCell ⟨n2, 1, none⟩ (u64 (pp + 1)))) := HFn.out WE HTW.out _ _
                  clear t1 t2

                  go_wp2_with fail
                  try rw [Exit.noGoto_ret]
                  refine bodyPost_ret (v := .tuple #[.agg #[iV (pr : Int), u64 (pp + 1)], .bool true]) (by simp [results, Tryz.results50, go_sem, v0, v1]) rfl ?_
                  exact ⟨by (rw [HX.out] <;> rfl), HF.out⟩
              · have f1 : ((ar : Int) != (pr : Int)) = true := by simp only [bne_iff_ne, ne_eq]; omega
                have HX : Hid (res = (⟨0, 0⟩, false)) := HRes.out.trans (if_pos (.inl t1))
                have u0 : (WE.setCell ⟨n2, 0, none⟩ (iV (0 : Int))).cell? ⟨n2, 1, none⟩ = some (u64 0) := by rw [cell_of_block (heap_setCell_same _ _ _ _ HN2.out)]; rfl
                have v0 : ((WE.setCell ⟨n2, 0, none⟩ (iV (0 : Int))).setCell ⟨n2, 1, none⟩ (u64 0)).cell? ⟨n2, 0, none⟩ = some (iV (0 : Int)) := (spO_cells (spO_set (yr := 0) (yp := 0) HN2.out)).1
                have v1 : ((WE.setCell ⟨n2, 0, none⟩ (iV (0 : Int))).setCell ⟨n2, 1, none⟩ (u64 0)).cell? ⟨n2, 1, none⟩ = some (u64 0) := (spO_cells (spO_set (yr := 0) (yp := 0) HN2.out)).2.1
                have HF : Hid (Touch (fun _ => False) w ((WE.setCell ⟨n2, 0, none⟩ (iV (0 : Int))).setCell ⟨n2, 1, none⟩ (u64 0))) := HFn.out WE HTW.out _ _
                clear t1

                go_wp2_with fail
                try rw [Exit.noGoto_ret]
                refine bodyPost_ret (v := .tuple #[.agg #[iV (0 : Int), u64 0], .bool false]) (by simp [results, Tryz.results50, go_sem, v0, v1]) rfl ?_
                exact ⟨by (rw [HX.out] <;> rfl), HF.out⟩
end Go.Proofs.YtnilikomoapcaaaGreat
