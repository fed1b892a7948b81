/- Package seq: addRun. -/
import Derived.Test.YtnilikomoapcaaaGreatSeqW1
namespace Go.Proofs.YtnilikomoapcaaaGreat
open Go.RowKit
set_option linter.unusedVariables false
set_option linter.unusedSimpArgs false
set_option maxRecDepth 100000

theorem rnO_cells {W : World} {m : Nat} {r : Rn} (h : W.heap[m]? = some (rnO r)) : W.cell? ⟨m, 8, none⟩ = some (iV (r.far.run : Int)) ∧ W.cell? ⟨m, 9, none⟩ = some (u64 r.far.pos) ∧ W.cell? ⟨m, 10, none⟩ = some (iV r.depth) := ⟨by rw [cell_of_block h]; rfl, by rw [cell_of_block h]; rfl, by rw [cell_of_block h]; rfl⟩
/-- What one more run leaves. -/
theorem laid_run {w0 w w1 : World} {B : Bk} {S : SS} {x : Rn} {gr' kr' n2 : Nat} (h : SeqM w0 B S) (t0 : Touch (fun _ => False) w0 w) (a1 : AddF w w1 B.b 0 B.gr) (p1 : RunsAt w1 B.b 0 gr' kr' (S.runs ++ [x])) (g1 : gr' = B.gr ∨ w.heap.size ≤ gr') (hn2 : w0.heap.size ≤ n2) (hn3 : n2 < w.heap.size) (v u : Value) :
    Laid w0 ((w1.setCell ⟨n2, 0, none⟩ v).setCell ⟨n2, 1, none⟩ u) B { S with runs := S.runs ++ [x] } := by
  have hw := h.keep0 t0
  have hap := h.apart
  simp only [List.nodup_cons, List.mem_cons, List.not_mem_nil, or_false, not_or, List.nodup_nil, and_true, not_false_eq_true] at hap
  obtain ⟨⟨n1, n2', n3⟩, ⟨n4, n5⟩, n6⟩ := hap
  have lr := hw.runs.lt
  have lp := hw.pcs.lt
  have lo := hw.ord.lt
  have li := hw.idx.lt
  have lb : B.b < w0.heap.size := h.lt (.inl rfl)
  have kr : B.gr < w0.heap.size := h.lt (.inr (.inl rfl))
  have kp : B.gp < w0.heap.size := h.lt (.inr (.inr (.inl rfl)))
  have ko : B.go < w0.heap.size := h.lt (.inr (.inr (.inr (.inl rfl))))
  have ki : B.gi < w0.heap.size := h.lt (.inr (.inr (.inr (.inr rfl))))
  have s0 := t0.size
  have tt : Touch (fun k => k = n2) w1 ((w1.setCell ⟨n2, 0, none⟩ v).setCell ⟨n2, 1, none⟩ u) := Touch.setCell (Touch.setCell (Touch.refl (fun k => k = n2) w1) ⟨n2, 0, none⟩ v (fun _ => rfl)) ⟨n2, 1, none⟩ u (fun _ => rfl)
  have hm : SeqM w1 ⟨B.b, gr', kr', B.gp, B.kp, B.go, B.ko, B.gi, B.ki⟩ { S with runs := S.runs ++ [x] } := by
    refine ⟨a1.blk0 hw.blk, p1, a1.arr hw.pcs (by omega) (Ne.symm n1), a1.rowF hw.ord (by omega) (Ne.symm n2'), a1.rowF hw.idx (by omega) (Ne.symm n3), ?_⟩
    simp only [List.nodup_cons, List.mem_cons, List.not_mem_nil, or_false, not_or, List.nodup_nil, and_true, not_false_eq_true]
    refine ⟨⟨?_, ?_, ?_⟩, ⟨n4, n5⟩, n6⟩ <;> (rcases g1 with e1 | e1 <;> omega)
  refine ⟨_, hm.keep tt ?_, rfl, ?_, ?_⟩
  · rintro y (e | e | e | e | e) e2
    · have e' : y = B.b := e
      omega
    · have e' : y = gr' := e
      rcases g1 with e1 | e1 <;> omega
    · have e' : y = B.gp := e
      omega
    · have e' : y = B.go := e
      omega
    · have e' : y = B.gi := e
      omega
  · rintro y (e | e | e | e | e)
    · exact .inl (.inl e)
    · have e' : y = gr' := e
      rcases g1 with e1 | e1
      · exact .inl (.inr (.inl (e'.trans e1)))
      · exact .inr (by omega)
    · exact .inl (.inr (.inr (.inl e)))
    · exact .inl (.inr (.inr (.inr (.inl e))))
    · exact .inl (.inr (.inr (.inr (.inr e))))
  · refine (Touch.then (S := B.has) (Touch.mono t0 fun _ _ e => False.elim e) a1.touchT ?_).then tt ?_
    · rintro y _ (e | e)
      · exact .inl e
      · exact .inr (.inl e)
    · intro y hy e
      omega
set_option maxHeartbeats 32000000 in
theorem addRun_any {w : World} {B : Bk} {S : SS} (h : SeqM w B S) (hI : Inv S) (u : Un) (p : Sp) (hp : p.run < S.runs.length) :
    Calls Tryz.prog 55 #[sP B, .agg #[u64 (u).c, u64 (u).k, u64 (u).lc, u64 (u).lk, u64 (u).rc, u64 (u).rk], .agg #[iV ((p).run : Int), u64 (p).pos]] w fun e w' => e = .returned (.agg #[iV (S.runs.length : Int), u64 0]) ∧ Laid w w' B (S.addRun u p) := by
  have hD := hI.down
  obtain ⟨E, hE⟩ : ∃ E, Hid (E = ((w.alloc (unO u)).alloc (spO p)).alloc zeroSO) := ⟨_, Eq.refl _⟩
  have HTE : Hid (Touch (fun _ => False) w E) := by rw [hE.out]; exact (((Touch.refl _ _).alloc _).alloc _).alloc _
  have HEB : Hid (E.heap[w.heap.size]? = some (unO u) ∧ E.heap[w.heap.size + 1]? = some (spO p) ∧ E.heap[w.heap.size + 1 + 1]? = some (spO ⟨0, 0⟩)) := by
    have h1 := heap_two w (unO u) (spO p)
    have h2 := heap_two (w.alloc (unO u)) (spO p) zeroSO
    rw [World.size_alloc] at h2
    rw [hE.out]
    exact ⟨(Below.heap_alloc _ _ _ (lt_of_heap h1.1)).trans h1.1, h2.1, h2.2⟩
  have HRn : Hid (∀ W r, r < S.runs.length → Touch (fun _ => False) E W → W.cell? ⟨B.b, 0, none⟩ = some (.slice (some ⟨B.gr, 0, none⟩) S.runs.length B.kr) ∧ RnAt W B.gr r (rn S.runs r)) := fun W r hr t => ⟨(h.keep0 (HTE.out.trans t)).runs.cell, (h.keep0 (HTE.out.trans t)).runs.rn r hr⟩
  have hs1 := hD.step hp (d := 0) (by omega)
  have hs2 := hD.step hs1.2.2.1 (d := 0) (by omega)
  have HL : Hid (SeqM w B S) := h
  have hdb : ∀ r, 0 ≤ (rn S.runs r).depth ∧ (rn S.runs r).depth ≤ 1073741824 := fun r => by
    refine ⟨hD.2.1 r, ?_⟩
    by_cases h0 : r = 0
    · rw [h0, hI.root]; decide
    · by_cases hr : r < S.runs.length
      · have := (hI.runs r (Nat.pos_of_ne_zero h0) hr).2.2.2.2.2.2.2.1
        have := hI.rmax
        omega
      · rw [rn_out (by omega)]; decide
  have hb1 := hdb p.run
  have hb2 := hdb (rn S.runs p.run).far.run
  have hb3 := hdb (rn S.runs (rn S.runs p.run).far.run).far.run
  have HAd : Hid (∀ fx : Sp, (fx = farOf S.runs p) → S.addRun u p = { S with runs := S.runs ++ [⟨u, p, fx, (rn S.runs p.run).depth + 1⟩] }) := fun fx e => by rw [e]; exact Eq.refl _
  have HFar : Hid (((rn S.runs p.run).depth - (rn S.runs (rn S.runs p.run).far.run).depth = (rn S.runs (rn S.runs p.run).far.run).depth - (rn S.runs (rn S.runs (rn S.runs p.run).far.run).far.run).depth → farOf S.runs p = (rn S.runs (rn S.runs p.run).far.run).far) ∧ (¬ (rn S.runs p.run).depth - (rn S.runs (rn S.runs p.run).far.run).depth = (rn S.runs (rn S.runs p.run).far.run).depth - (rn S.runs (rn S.runs (rn S.runs p.run).far.run).far.run).depth → farOf S.runs p = p)) := ⟨fun e => if_pos e, fun e => if_neg e⟩
  have HR1 : Hid (∀ W, Touch (fun _ => False) E W → W.cell? ⟨B.b, 0, none⟩ = some (.slice (some ⟨B.gr, 0, none⟩) S.runs.length B.kr) ∧ RnAt W B.gr p.run (rn S.runs p.run)) := fun W t => HRn.out W _ hp t
  have HR2 : Hid (∀ W, Touch (fun _ => False) E W → W.cell? ⟨B.b, 0, none⟩ = some (.slice (some ⟨B.gr, 0, none⟩) S.runs.length B.kr) ∧ RnAt W B.gr (rn S.runs p.run).far.run (rn S.runs (rn S.runs p.run).far.run)) := fun W t => HRn.out W _ hs1.2.2.1 t
  have HR3 : Hid (∀ W, Touch (fun _ => False) E W → W.cell? ⟨B.b, 0, none⟩ = some (.slice (some ⟨B.gr, 0, none⟩) S.runs.length B.kr) ∧ W.cell? ⟨B.gr, (rn S.runs (rn S.runs p.run).far.run).far.run * 11 + 10, none⟩ = some (iV (rn S.runs (rn S.runs (rn S.runs p.run).far.run).far.run).depth)) := fun W t => ⟨(HRn.out W _ hs2.2.2.1 t).1, (HRn.out W _ hs2.2.2.1 t).2.c10⟩
  have l1 : (p.run : Int) < (S.runs.length : Int) := by omega
  have l2 : ((rn S.runs p.run).far.run : Int) < (S.runs.length : Int) := by have := hs1.2.2.1; omega
  have l3 : ((rn S.runs (rn S.runs p.run).far.run).far.run : Int) < (S.runs.length : Int) := by have := hs2.2.2.1; omega
  have hrm := hI.rmax
  generalize (rn S.runs (rn S.runs (rn S.runs p.run).far.run).far.run).depth = d3 at *
  generalize rn S.runs (rn S.runs p.run).far.run = r2 at *
  generalize rn S.runs p.run = r1 at *
  obtain ⟨⟨ac, ak, alc, alk, arc, ark⟩, ⟨apr, app⟩, ⟨afr, afp⟩, du⟩ := r1
  obtain ⟨⟨bc, bk, blc, blk, brc, brk⟩, ⟨bpr, bpp⟩, ⟨bfr, bfp⟩, dm⟩ := r2
  obtain ⟨pr, pp⟩ := p
  obtain ⟨uc, uk, ulc, ulk, urc, urk⟩ := u
  simp only at hE HEB HR1 HR2 HR3 l1 l2 l3 hb1 hb2 HAd HFar ⊢
  obtain ⟨nr, hnr⟩ : ∃ m, Hid (m = S.runs.length) := ⟨_, Eq.refl _⟩
  rw [← hnr.out] at HR1 HR2 HR3 l1 l2 l3 hrm ⊢
  have l1' : (0 : Int) ≤ (pr : Int) := by omega
  have l2' : (0 : Int) ≤ (afr : Int) := by omega
  have l3' : (0 : Int) ≤ (bfr : Int) := by omega
  have ea : IntKind.i64.wrap (du - dm) = du - dm := by rw [IntKind.wrap_i64]; omega
  have eb : IntKind.i64.wrap (dm - d3) = dm - d3 := by rw [IntKind.wrap_i64]; omega
  have ec : IntKind.i64.wrap (du + 1) = du + 1 := by rw [IntKind.wrap_i64]; omega
  clear h hI hD hp hs1 hs2 hdb HRn hb1 hb2 hb3
  obtain ⟨q, c0, c1, c2, c3, c4, c5, c6, c7, c8, c9, c10⟩ := HR1.out E (Touch.refl _ _)
  obtain ⟨q', d0, d1, d2, d3', d4, d5, d6, d7, d8, d9, d10⟩ := HR1.out _ ((Touch.refl _ E).alloc (.cells #[u64 0, u64 0, u64 0, u64 0, u64 0, u64 0, iV 0, u64 0, iV 0, u64 0, iV 0] 66))
  obtain ⟨g0, g1, -, -⟩ := spO_cells HEB.out.2.1
  obtain ⟨g0', g1', -, -⟩ := spO_cells (heap_keep ((Touch.refl _ E).alloc (.cells #[u64 0, u64 0, u64 0, u64 0, u64 0, u64 0, iV 0, u64 0, iV 0, u64 0, iV 0] 66)) HEB.out.2.1)
  go_enter Tryz.func55, Tryz.ntmps55
  go_upto_region 1 with fail
  rw [← hE.out]
  clear hE
  obtain ⟨n, hn⟩ : ∃ m, Hid (m = w.heap.size) := ⟨_, Eq.refl _⟩
  obtain ⟨n1, hn1⟩ : ∃ m, Hid (m = w.heap.size + 1) := ⟨_, Eq.refl _⟩
  obtain ⟨n2, hn2⟩ : ∃ m, Hid (m = w.heap.size + 1 + 1) := ⟨_, Eq.refl _⟩
  rw [← hn2.out] at HEB ⊢
  rw [← hn1.out] at HEB g0 g1 g0' g1' ⊢
  rw [← hn.out] at HEB ⊢
  go_region
  clear q c0 c1 c2 c3 c4 c5 c6 c7 c8 c9 c10 q' d0 d1 d2 d3' d4 d5 d6 d7 d8 d9 d10 g0 g1 g0' g1'
  obtain ⟨W1, hW1⟩ : ∃ W, Hid (W = (E.alloc (.cells #[u64 ac, u64 ak, u64 alc, u64 alk, u64 arc, u64 ark, iV (apr : Int), u64 app, iV (afr : Int), u64 afp, iV du] 66)).drew) := ⟨_, Eq.refl _⟩
  have H1 : Hid (Touch (fun _ => False) E W1 ∧ W1.heap[E.heap.size]? = some (rnO ⟨⟨ac, ak, alc, alk, arc, ark⟩, ⟨apr, app⟩, ⟨afr, afp⟩, du⟩)) := by rw [hW1.out]; exact ⟨((Touch.refl _ _).alloc _).drew, heap_alloc_new E _⟩
  rw [← hW1.out]
  clear hW1
  obtain ⟨m1, hm1⟩ : ∃ m, Hid (m = E.heap.size) := ⟨_, Eq.refl _⟩
  rw [← hm1.out] at H1 ⊢
  obtain ⟨q, c0, c1, c2, c3, c4, c5, c6, c7, c8, c9, c10⟩ := HR2.out W1 H1.out.1
  obtain ⟨q', d0, d1, d2, d3', d4, d5, d6, d7, d8, d9, d10⟩ := HR2.out _ (H1.out.1.alloc (.cells #[u64 0, u64 0, u64 0, u64 0, u64 0, u64 0, iV 0, u64 0, iV 0, u64 0, iV 0] 66))
  obtain ⟨k8, k9, k10⟩ := rnO_cells H1.out.2
  obtain ⟨k8', k9', k10'⟩ := rnO_cells (heap_keep ((Touch.refl _ W1).alloc (.cells #[u64 0, u64 0, u64 0, u64 0, u64 0, u64 0, iV 0, u64 0, iV 0, u64 0, iV 0] 66)) H1.out.2)
  go_upto_region 2 with fail
  go_region
  clear q c0 c1 c2 c3 c4 c5 c6 c7 c8 c9 c10 q' d0 d1 d2 d3' d4 d5 d6 d7 d8 d9 d10 k8 k9 k10 k8' k9' k10'
  obtain ⟨W2, hW2⟩ : ∃ W, Hid (W = (W1.alloc (.cells #[u64 bc, u64 bk, u64 blc, u64 blk, u64 brc, u64 brk, iV (bpr : Int), u64 bpp, iV (bfr : Int), u64 bfp, iV dm] 66)).drew) := ⟨_, Eq.refl _⟩
  have H2 : Hid (Touch (fun _ => False) E W2 ∧ W2.heap[m1]? = some (rnO ⟨⟨ac, ak, alc, alk, arc, ark⟩, ⟨apr, app⟩, ⟨afr, afp⟩, du⟩) ∧ W2.heap[W1.heap.size]? = some (rnO ⟨⟨bc, bk, blc, blk, brc, brk⟩, ⟨bpr, bpp⟩, ⟨bfr, bfp⟩, dm⟩)) := by rw [hW2.out]; exact ⟨(H1.out.1.alloc _).drew, heap_keep ((Touch.refl _ W1).alloc _).drew H1.out.2, heap_alloc_new W1 _⟩
  rw [← hW2.out]
  clear hW2
  obtain ⟨m2, hm2⟩ : ∃ m, Hid (m = W1.heap.size) := ⟨_, Eq.refl _⟩
  rw [← hm2.out] at H2 ⊢
  obtain ⟨W3, hW3⟩ : ∃ W, Hid (W = W2.alloc (.cells #[iV (pr : Int), u64 pp] 64)) := ⟨_, Eq.refl _⟩
  have H3 : Hid (Touch (fun _ => False) E W3 ∧ W3.heap[m1]? = some (rnO ⟨⟨ac, ak, alc, alk, arc, ark⟩, ⟨apr, app⟩, ⟨afr, afp⟩, du⟩) ∧ W3.heap[m2]? = some (rnO ⟨⟨bc, bk, blc, blk, brc, brk⟩, ⟨bpr, bpp⟩, ⟨bfr, bfp⟩, dm⟩) ∧ W3.heap[W2.heap.size]? = some (spO ⟨pr, pp⟩)) := by
    rw [hW3.out]
    exact ⟨H2.out.1.alloc _, heap_keep ((Touch.refl _ W2).alloc _) H2.out.2.1, heap_keep ((Touch.refl _ W2).alloc _) H2.out.2.2, heap_alloc_new W2 _⟩
  obtain ⟨g0, g1, -, -⟩ := spO_cells (heap_keep H2.out.1 HEB.out.2.1)
  go_upto_region 4 with fail
  rw [← hW3.out]
  clear hW3 g0 g1
  obtain ⟨m3, hm3⟩ : ∃ m, Hid (m = W2.heap.size) := ⟨_, Eq.refl _⟩
  rw [← hm3.out] at H3 ⊢
  have HM3 : Hid (E.heap.size ≤ m3 ∧ m1 ≠ m3) := by
    rw [hm3.out]
    have := lt_of_heap H2.out.2.1
    exact ⟨H2.out.1.size, by omega⟩
  obtain ⟨q, d10⟩ := HR3.out W3 H3.out.1
  obtain ⟨-, -, k10⟩ := rnO_cells H3.out.2.1
  obtain ⟨j8, j9, j10⟩ := rnO_cells H3.out.2.2.1
  have HAll : Hid (∀ W (fr : Nat) (fp : Int), Touch (fun _ => False) E W → W.heap[m3]? = some (spO ⟨fr, fp⟩) → W.heap[m1]? = some (rnO ⟨⟨ac, ak, alc, alk, arc, ark⟩, ⟨apr, app⟩, ⟨afr, afp⟩, du⟩) → W.cell? ⟨n, 0, none⟩ = some (u64 uc) ∧ W.cell? ⟨n, 1, none⟩ = some (u64 uk) ∧ W.cell? ⟨n, 2, none⟩ = some (u64 ulc) ∧ W.cell? ⟨n, 3, none⟩ = some (u64 ulk) ∧ W.cell? ⟨n, 4, none⟩ = some (u64 urc) ∧ W.cell? ⟨n, 5, none⟩ = some (u64 urk) ∧ W.cell? ⟨n1, 0, none⟩ = some (iV (pr : Int)) ∧ W.cell? ⟨n1, 1, none⟩ = some (u64 pp) ∧ W.cell? ⟨m3, 0, none⟩ = some (iV (fr : Int)) ∧ W.cell? ⟨m3, 1, none⟩ = some (u64 fp) ∧ W.cell? ⟨m1, 10, none⟩ = some (iV du)) := fun W fr fp t h3 h1 => by
    have a := unO_cells (heap_keep t HEB.out.1)
    have b := spO_cells (heap_keep t HEB.out.2.1)
    have c := spO_cells h3
    have d := rnO_cells h1
    exact ⟨a.1, a.2.1, a.2.2.1, a.2.2.2.1, a.2.2.2.2.1, a.2.2.2.2.2, b.1, b.2.1, c.1, c.2.1, d.2.2⟩
  -- the two ways
  by_cases hw : du - dm = dm - d3
  · have ew : (du - dm == dm - d3) = true := by simp [hw]
    have HFx : Hid ((⟨bfr, bfp⟩ : Sp) = farOf S.runs ⟨pr, pp⟩) := (HFar.out.1 hw).symm
    clear hw HFar
    go_quiet (fail)
    clear q d10 k10 j8 j9 j10
    have H4 : Hid (Touch (fun _ => False) E (W3.drewN nq) ∧ (W3.drewN nq).heap[m1]? = some (rnO ⟨⟨ac, ak, alc, alk, arc, ark⟩, ⟨apr, app⟩, ⟨afr, afp⟩, du⟩) ∧ (W3.drewN nq).heap[m2]? = some (rnO ⟨⟨bc, bk, blc, blk, brc, brk⟩, ⟨bpr, bpp⟩, ⟨bfr, bfp⟩, dm⟩) ∧ (W3.drewN nq).heap[m3]? = some (spO ⟨pr, pp⟩)) := ⟨H3.out.1.drewN _, H3.out.2.1, H3.out.2.2.1, H3.out.2.2.2⟩
    generalize W3.drewN nq = W4 at *
    obtain ⟨j8, j9, -⟩ := rnO_cells H4.out.2.2.1
    obtain ⟨x0, x1, y0, y1⟩ := spO_cells H4.out.2.2.2
    have ux : (W4.setCell ⟨m3, 0, none⟩ (iV (bfr : Int))).cell? ⟨m3, 1, none⟩ = some (u64 pp) := by rw [cell_of_block (heap_setCell_same _ _ _ _ H4.out.2.2.2)]; rfl
    obtain ⟨W5, hW5⟩ : ∃ W, Hid (W = (W4.setCell ⟨m3, 0, none⟩ (iV (bfr : Int))).setCell ⟨m3, 1, none⟩ (u64 bfp)) := ⟨_, Eq.refl _⟩
    have H5 : Hid (Touch (fun _ => False) E W5 ∧ W5.heap[m3]? = some (spO ⟨bfr, bfp⟩) ∧ W5.heap[m1]? = some (rnO ⟨⟨ac, ak, alc, alk, arc, ark⟩, ⟨apr, app⟩, ⟨afr, afp⟩, du⟩)) := by
      rw [hW5.out]
      refine ⟨(H4.out.1.fresh _ _ _ HM3.out.1).fresh _ _ _ HM3.out.1, spO_set H4.out.2.2.2, ?_⟩
      rw [heap_setCell_other _ _ _ _ (by exact Ne.symm HM3.out.2), heap_setCell_other _ _ _ _ (by exact Ne.symm HM3.out.2)]
      exact H4.out.2.1
    go_upto_region 6 with fail
    rw [← hW5.out]
    clear hW5 j8 j9 x0 x1 y0 y1 ux H4 HAll
    generalize bfr = fr at *
    generalize bfp = fp at *
    have hM := HL.out.keep0 (HTE.out.trans H5.out.1.drew)
    have hnl := hnr.out
    have hlen : S.runs.length ≤ 1073741824 := by omega
    obtain ⟨g', cap', w1, hrun0, hT1, hA1, hgg, ⟨v0, hcv⟩, hb1⟩ := append_rn ⟨⟨uc, uk, ulc, ulk, urc, urk⟩, ⟨pr, pp⟩, ⟨fr, fp⟩, du + 1⟩ hM.runs hlen
    have hbz : ∀ (W : World), (Instr.buildSlice 67 1 #[(0, .agg #[u64 uc, u64 uk, u64 ulc, u64 ulk, u64 urc, u64 urk, iV (pr : Int), u64 pp, iV (fr : Int), u64 fp, iV (du + 1)])]).run Tryz.prog W = .ok (.slice (some ⟨W.heap.size, 0, none⟩) 1 1) (W.alloc (.cells #[u64 uc, u64 uk, u64 ulc, u64 ulk, u64 urc, u64 urk, iV (pr : Int), u64 pp, iV (fr : Int), u64 fp, iV (du + 1)] 66)) := fun W => by kernel_rfl
    rw [← hnl] at hrun0 hT1 hA1
    have hrun : (Builtin.append_ #[67, 67] 67 #[.slice (some ⟨B.gr, 0, none⟩) nr B.kr, .slice (some ⟨W5.heap.size, 0, none⟩) 1 1]).run Tryz.prog (W5.alloc (.cells #[u64 uc, u64 uk, u64 ulc, u64 ulk, u64 urc, u64 urk, iV (pr : Int), u64 pp, iV (fr : Int), u64 fp, iV (du + 1)] 66)).drew = .ok (.slice (some ⟨g', 0, none⟩) (nr + 1) cap') w1 := hrun0
    have hfz := free_blk hM.blk 0 w1 hb1
    have hc : W5.cell? ⟨B.b, 0, none⟩ = some (.slice (some ⟨B.gr, 0, none⟩) nr B.kr) := by rw [hnl]; exact hM.runs.cell
    have hc2 : (W5.alloc (.cells #[u64 uc, u64 uk, u64 ulc, u64 ulk, u64 urc, u64 urk, iV (pr : Int), u64 pp, iV (fr : Int), u64 fp, iV (du + 1)] 66)).cell? ⟨B.b, 0, none⟩ = some (.slice (some ⟨B.gr, 0, none⟩) nr B.kr) := cell_keep ((Touch.refl _ _).alloc _) hc
    obtain ⟨X, hX⟩ : ∃ W, Hid (W = w1.setCell ⟨B.b, 0, none⟩ (.slice (some ⟨g', 0, none⟩) (nr + 1) cap')) := ⟨_, Eq.refl _⟩
    have HX : Hid (RunsAt X B.b 0 g' cap' (S.runs ++ [⟨⟨uc, uk, ulc, ulk, urc, urk⟩, ⟨pr, pp⟩, ⟨fr, fp⟩, du + 1⟩]) ∧ AddF W5.drew X B.b 0 B.gr) := by rw [hX.out]; exact ⟨hT1, hA1⟩
    have HK : Hid (∀ k o, w.heap.size ≤ k → W5.heap[k]? = some o → w1.heap[k]? = some o ∧ X.heap[k]? = some o) := fun k o hk ho => by
      have lb : B.b < w.heap.size := HL.out.lt (.inl rfl)
      have lr : B.gr < w.heap.size := HL.out.lt (.inr (.inl rfl))
      have e1 : X.heap[k]? = some o := (HX.out.2.block k (lt_of_heap (w := W5) ho) (by omega) (by omega)).trans ho
      refine ⟨?_, e1⟩
      rw [hX.out, heap_setCell_other _ _ _ _ (by show B.b ≠ _; omega)] at e1
      exact e1
    have HSa : Hid (∀ W : World, W.heap[n]? = some (unO ⟨uc, uk, ulc, ulk, urc, urk⟩) → W.heap[n1]? = some (spO ⟨pr, pp⟩) → W.heap[m3]? = some (spO ⟨fr, fp⟩) → W.heap[m1]? = some (rnO ⟨⟨ac, ak, alc, alk, arc, ark⟩, ⟨apr, app⟩, ⟨afr, afp⟩, du⟩) → W.cell? ⟨n, 0, none⟩ = some (u64 uc) ∧ W.cell? ⟨n, 1, none⟩ = some (u64 uk) ∧ W.cell? ⟨n, 2, none⟩ = some (u64 ulc) ∧ W.cell? ⟨n, 3, none⟩ = some (u64 ulk) ∧ W.cell? ⟨n, 4, none⟩ = some (u64 urc) ∧ W.cell? ⟨n, 5, none⟩ = some (u64 urk) ∧ W.cell? ⟨n1, 0, none⟩ = some (iV (pr : Int)) ∧ W.cell? ⟨n1, 1, none⟩ = some (u64 pp) ∧ W.cell? ⟨m3, 0, none⟩ = some (iV (fr : Int)) ∧ W.cell? ⟨m3, 1, none⟩ = some (u64 fp) ∧ W.cell? ⟨m1, 10, none⟩ = some (iV du)) := fun W h1 h2 h3 h4 => by
      have a := unO_cells h1
      have b := spO_cells h2
      have c := spO_cells h3
      have d := rnO_cells h4
      exact ⟨a.1, a.2.1, a.2.2.1, a.2.2.2.1, a.2.2.2.2.1, a.2.2.2.2.2, b.1, b.2.1, c.1, c.2.1, d.2.2⟩
    have b1 := heap_keep H5.out.1 HEB.out.1
    have b2 := heap_keep H5.out.1 HEB.out.2.1
    have b3 := H5.out.2.1
    have b4 := H5.out.2.2
    have S0 := HSa.out W5.drew b1 b2 b3 b4
    have ta := ((Touch.refl (fun _ => False) W5).alloc (.cells #[u64 uc, u64 uk, u64 ulc, u64 ulk, u64 urc, u64 urk, iV (pr : Int), u64 pp, iV (fr : Int), u64 fp, iV (du + 1)] 66)).drew
    have S1 := HSa.out _ (heap_keep ta b1) (heap_keep ta b2) (heap_keep ta b3) (heap_keep ta b4)
    have kk : w.heap.size ≤ n ∧ w.heap.size ≤ n1 ∧ w.heap.size ≤ m3 ∧ w.heap.size ≤ m1 := by
      have := HTE.out.size
      have := HM3.out.1
      rw [hn.out, hn1.out, hm1.out]
      exact ⟨by omega, by omega, by omega, by omega⟩
    have S2 := HSa.out w1 (HK.out _ _ kk.1 b1).1 (HK.out _ _ kk.2.1 b2).1 (HK.out _ _ kk.2.2.1 b3).1 (HK.out _ _ kk.2.2.2 b4).1
    have S3 : (fun W : World => W.cell? ⟨n, 0, none⟩ = some (u64 uc) ∧ W.cell? ⟨n, 1, none⟩ = some (u64 uk) ∧ W.cell? ⟨n, 2, none⟩ = some (u64 ulc) ∧ W.cell? ⟨n, 3, none⟩ = some (u64 ulk) ∧ W.cell? ⟨n, 4, none⟩ = some (u64 urc) ∧ W.cell? ⟨n, 5, none⟩ = some (u64 urk) ∧ W.cell? ⟨n1, 0, none⟩ = some (iV (pr : Int)) ∧ W.cell? ⟨n1, 1, none⟩ = some (u64 pp) ∧ W.cell? ⟨m3, 0, none⟩ = some (iV (fr : Int)) ∧ W.cell? ⟨m3, 1, none⟩ = some (u64 fp) ∧ W.cell? ⟨m1, 10, none⟩ = some (iV du)) (w1.setCell ⟨B.b, 0, none⟩ (.slice (some ⟨g', 0, none⟩) (nr + 1) cap')) := by
      rw [← hX.out]
      exact HSa.out X (HK.out _ _ kk.1 b1).2 (HK.out _ _ kk.2.1 b2).2 (HK.out _ _ kk.2.2.1 b3).2 (HK.out _ _ kk.2.2.2 b4).2
    have HEnd : Hid (X.cell? ⟨B.b, 0, none⟩ = some (.slice (some ⟨g', 0, none⟩) (nr + 1) cap') ∧ X.heap[n2]? = some (spO ⟨0, 0⟩) ∧ ∀ v u, Laid w ((X.setCell ⟨n2, 0, none⟩ v).setCell ⟨n2, 1, none⟩ u) B (S.addRun ⟨uc, uk, ulc, ulk, urc, urk⟩ ⟨pr, pp⟩)) := by
      have hn2' : w.heap.size ≤ n2 := by rw [hn2.out]; omega
      refine ⟨?_, (HK.out _ _ hn2' (heap_keep H5.out.1 HEB.out.2.2)).2, fun v u => ?_⟩
      · have := HX.out.1.cell
        rw [List.length_append, ← hnl] at this
        exact this
      · rw [HAd.out ⟨fr, fp⟩ HFx.out]
        exact laid_run HL.out (HTE.out.trans H5.out.1.drew) HX.out.2 HX.out.1 hgg hn2' (lt_of_heap (w := W5) (heap_keep H5.out.1 HEB.out.2.2)) v u
    clear hM hnl hlen hrun0 hT1 hA1 hgg hb1 HX HK HSa b1 b2 b3 b4 ta kk HAd
    refine wp_region_held_drew (S := fun W : World => W.cell? ⟨n, 0, none⟩ = some (u64 uc) ∧ W.cell? ⟨n, 1, none⟩ = some (u64 uk) ∧ W.cell? ⟨n, 2, none⟩ = some (u64 ulc) ∧ W.cell? ⟨n, 3, none⟩ = some (u64 ulk) ∧ W.cell? ⟨n, 4, none⟩ = some (u64 urc) ∧ W.cell? ⟨n, 5, none⟩ = some (u64 urk) ∧ W.cell? ⟨n1, 0, none⟩ = some (iV (pr : Int)) ∧ W.cell? ⟨n1, 1, none⟩ = some (u64 pp) ∧ W.cell? ⟨m3, 0, none⟩ = some (iV (fr : Int)) ∧ W.cell? ⟨m3, 1, none⟩ = some (u64 fp) ∧ W.cell? ⟨m1, 10, none⟩ = some (iV du)) (by kernel_rfl) S0 (fun hHeld => ?_)
    refine wpAnyH_take (i := 0) (oi := { dst := some 49, op := Go.Op.move (Go.Operand.tmp 0), type := 24, pos := "run.go:38", after := #[], guard := none }) (v := sP B) rfl (by kernel_rfl) (by kernel_rfl) (by kernel_rfl) (fun _ _ _ h => h) (Or.inl ⟨by rfl, ?_⟩) hHeld ?_
    · intro w hSw; clear hSw; go_simp
    simp only [Act.put, List.setIfInBounds_toArray, List.set_cons_succ, List.set_cons_zero]
    refine wpAnyH_take (i := 1) (oi := { dst := some 50, op := Go.Op.move (Go.Operand.tmp 0), type := 24, pos := "run.go:38", after := #[], guard := none }) (v := sP B) rfl (by kernel_rfl) (by kernel_rfl) (by kernel_rfl) (fun _ _ _ h => h) (Or.inl ⟨by rfl, ?_⟩) hHeld ?_
    · intro w hSw; clear hSw; go_simp
    simp only [Act.put, List.setIfInBounds_toArray, List.set_cons_succ, List.set_cons_zero]
    refine wpAnyH_take (i := 2) (oi := { dst := some 51, op := Go.Op.nilCheck (Go.Operand.tmp 50), type := 0, pos := "run.go:38", after := #[{ on := 1, ground := Go.Ground.data }], guard := none }) (v := .pointer (some ⟨B.b, 0, none⟩)) rfl (by kernel_rfl) (by kernel_rfl) (by kernel_rfl) (fun _ _ _ h => h) (Or.inl ⟨by rfl, ?_⟩) hHeld ?_
    · intro w hSw; clear hSw; go_simp
    simp only [Act.put, List.setIfInBounds_toArray, List.set_cons_succ, List.set_cons_zero]
    refine wpAnyH_take (i := 3) (oi := { dst := some 52, op := Go.Op.fieldAddr 74 (Go.Operand.tmp 51) 0, type := 0, pos := "run.go:38", after := #[{ on := 2, ground := Go.Ground.data }], guard := none }) (v := .pointer (some ⟨B.b, 0, none⟩)) rfl (by kernel_rfl) (by kernel_rfl) (by kernel_rfl) (fun _ _ _ h => h) (Or.inl ⟨by rfl, ?_⟩) hHeld ?_
    · intro w hSw; clear hSw; go_simp
    simp only [Act.put, List.setIfInBounds_toArray, List.set_cons_succ, List.set_cons_zero]
    refine wpAnyH_take (i := 5) (oi := { dst := some 54, op := Go.Op.load 32 (Go.Operand.tmp 4), type := 32, pos := "run.go:38", after := #[], guard := none }) (v := .agg #[u64 uc, u64 uk, u64 ulc, u64 ulk, u64 urc, u64 urk]) rfl (by kernel_rfl) (by kernel_rfl) (by kernel_rfl) (fun _ _ _ h => h) (Or.inl ⟨by rfl, ?_⟩) hHeld ?_
    · intro w hSw; obtain ⟨s1, s2, s3, s4, s5, s6, s7, s8, s9, s10, s11⟩ := hSw; go_simp
    simp only [Act.put, List.setIfInBounds_toArray, List.set_cons_succ, List.set_cons_zero]
    refine wpAnyH_take (i := 6) (oi := { dst := some 55, op := Go.Op.load 64 (Go.Operand.tmp 5), type := 64, pos := "run.go:38", after := #[], guard := none }) (v := .agg #[iV (pr : Int), u64 pp]) rfl (by kernel_rfl) (by kernel_rfl) (by kernel_rfl) (fun _ _ _ h => h) (Or.inl ⟨by rfl, ?_⟩) hHeld ?_
    · intro w hSw; obtain ⟨s1, s2, s3, s4, s5, s6, s7, s8, s9, s10, s11⟩ := hSw; go_simp
    simp only [Act.put, List.setIfInBounds_toArray, List.set_cons_succ, List.set_cons_zero]
    refine wpAnyH_take (i := 7) (oi := { dst := some 56, op := Go.Op.load 64 (Go.Operand.tmp 9), type := 64, pos := "run.go:38", after := #[], guard := none }) (v := .agg #[iV (fr : Int), u64 fp]) rfl (by kernel_rfl) (by kernel_rfl) (by kernel_rfl) (fun _ _ _ h => h) (Or.inl ⟨by rfl, ?_⟩) hHeld ?_
    · intro w hSw; obtain ⟨s1, s2, s3, s4, s5, s6, s7, s8, s9, s10, s11⟩ := hSw; go_simp
    simp only [Act.put, List.setIfInBounds_toArray, List.set_cons_succ, List.set_cons_zero]
    refine wpAnyH_take (i := 8) (oi := { dst := some 57, op := Go.Op.fieldAddr 66 (Go.Operand.tmp 7) 3, type := 0, pos := "run.go:38", after := #[], guard := none }) (v := .pointer (some ⟨m1, 10, none⟩)) rfl (by kernel_rfl) (by kernel_rfl) (by kernel_rfl) (fun _ _ _ h => h) (Or.inl ⟨by rfl, ?_⟩) hHeld ?_
    · intro w hSw; clear hSw; go_simp
    simp only [Act.put, List.setIfInBounds_toArray, List.set_cons_succ, List.set_cons_zero]
    refine wpAnyH_take (i := 9) (oi := { dst := some 58, op := Go.Op.load 3 (Go.Operand.tmp 57), type := 3, pos := "run.go:38", after := #[{ on := 8, ground := Go.Ground.data }], guard := none }) (v := iV du) rfl (by kernel_rfl) (by kernel_rfl) (by kernel_rfl) (fun _ _ _ h => h) (Or.inl ⟨by rfl, ?_⟩) hHeld ?_
    · intro w hSw; obtain ⟨s1, s2, s3, s4, s5, s6, s7, s8, s9, s10, s11⟩ := hSw; go_simp
    simp only [Act.put, List.setIfInBounds_toArray, List.set_cons_succ, List.set_cons_zero]
    refine wpAnyH_take (i := 10) (oi := { dst := some 59, op := Go.Op.binOp Go.BinOp.add 3 (Go.Operand.tmp 58) (Go.Operand.const (Go.Value.int Go.IntKind.i64 1)) 3, type := 3, pos := "run.go:38", after := #[{ on := 9, ground := Go.Ground.data }], guard := none }) (v := iV (du + 1)) rfl (by kernel_rfl) (by kernel_rfl) (by kernel_rfl) (fun _ _ _ h => h) (Or.inl ⟨by rfl, ?_⟩) hHeld ?_
    · intro w hSw; clear hSw; go_simp
    simp only [Act.put, List.setIfInBounds_toArray, List.set_cons_succ, List.set_cons_zero]
    refine wpAnyH_take (i := 11) (oi := { dst := some 60, op := Go.Op.build 66 #[(0, Go.Operand.tmp 54), (1, Go.Operand.tmp 55), (2, Go.Operand.tmp 56), (3, Go.Operand.tmp 59)], type := 66, pos := "run.go:38", after := #[{ on := 5, ground := Go.Ground.data }, { on := 6, ground := Go.Ground.data }, { on := 7, ground := Go.Ground.data }, { on := 10, ground := Go.Ground.data }], guard := none }) (v := .agg #[u64 uc, u64 uk, u64 ulc, u64 ulk, u64 urc, u64 urk, iV (pr : Int), u64 pp, iV (fr : Int), u64 fp, iV (du + 1)]) rfl (by kernel_rfl) (by kernel_rfl) (by kernel_rfl) (fun _ _ _ h => h) (Or.inl ⟨by rfl, ?_⟩) hHeld ?_
    · intro w hSw; clear hSw; go_simp
    simp only [Act.put, List.setIfInBounds_toArray, List.set_cons_succ, List.set_cons_zero]
    refine wpAnyH_ready (rs := [4, 12]) (by kernel_rfl) (by simp) ?_
    refine (AllReadyH.cons (o := { dst := some 53, op := Go.Op.load 67 (Go.Operand.tmp 52), type := 67, pos := "run.go:38", after := #[{ on := 3, ground := Go.Ground.data }], guard := none }) rfl (fun K hK => ?_) (AllReadyH.cons (o := { dst := some 61, op := Go.Op.buildSlice 67 1 #[(0, Go.Operand.tmp 60)], type := 67, pos := "run.go:38", after := #[{ on := 11, ground := Go.Ground.data }], guard := none }) rfl (fun K hK => ?_) AllReadyH.nil))
    · go_simp
      refine hK.out _ _ S0 (fun hHeld => ?_)
      clear hK K
      try simp only [Act.put, List.setIfInBounds_toArray, List.set_cons_succ, List.set_cons_zero]
      refine wpAnyH_ready (rs := [12]) (by kernel_rfl) (by simp) ?_
      refine (AllReadyH.cons (o := { dst := some 61, op := Go.Op.buildSlice 67 1 #[(0, Go.Operand.tmp 60)], type := 67, pos := "run.go:38", after := #[{ on := 11, ground := Go.Ground.data }], guard := none }) rfl (fun K hK => ?_) AllReadyH.nil)
      go_simp
      refine hK.out _ _ S1 (fun hHeld => ?_)
      clear hK K
      try simp only [Act.put, List.setIfInBounds_toArray, List.set_cons_succ, List.set_cons_zero]
      refine wpAnyH_ready (rs := [13]) (by kernel_rfl) (by simp) ?_
      refine (AllReadyH.cons (o := { dst := some 62, op := Go.Op.call { callee := Go.Callee.builtin Go.Builtin.append, args := #[Go.Operand.tmp 53, Go.Operand.tmp 61], argTypes := #[67, 67] }, type := 67, pos := "run.go:38", after := #[{ on := 4, ground := Go.Ground.data }, { on := 12, ground := Go.Ground.data }], guard := none }) rfl (fun K hK => ?_) AllReadyH.nil)
      refine step_append 67 (by rfl) _ _ rfl _ _ _ rfl rfl hrun ?_
      refine hK.out _ _ S2 (fun hHeld => ?_)
      clear hK K
      try simp only [Act.put, List.setIfInBounds_toArray, List.set_cons_succ, List.set_cons_zero]
      refine wpAnyH_take (i := 14) (oi := { dst := some 63, op := Go.Op.nilCheck (Go.Operand.tmp 49), type := 0, pos := "run.go:38", after := #[{ on := 0, ground := Go.Ground.data }, { on := 0, ground := Go.Ground.phase }, { on := 1, ground := Go.Ground.phase }, { on := 2, ground := Go.Ground.phase }, { on := 3, ground := Go.Ground.phase }, { on := 4, ground := Go.Ground.phase }, { on := 5, ground := Go.Ground.phase }, { on := 6, ground := Go.Ground.phase }, { on := 7, ground := Go.Ground.phase }, { on := 8, ground := Go.Ground.phase }, { on := 9, ground := Go.Ground.phase }, { on := 10, ground := Go.Ground.phase }, { on := 11, ground := Go.Ground.phase }, { on := 12, ground := Go.Ground.phase }, { on := 13, ground := Go.Ground.phase }], guard := none }) (v := .pointer (some ⟨B.b, 0, none⟩)) rfl (by kernel_rfl) (by kernel_rfl) (by kernel_rfl) (fun _ _ _ h => h) (Or.inl ⟨by rfl, ?_⟩) hHeld ?_
      · intro w hSw; clear hSw; go_simp
      simp only [Act.put, List.setIfInBounds_toArray, List.set_cons_succ, List.set_cons_zero]
      refine wpAnyH_take (i := 15) (oi := { dst := some 64, op := Go.Op.fieldAddr 74 (Go.Operand.tmp 63) 0, type := 0, pos := "run.go:38", after := #[{ on := 14, ground := Go.Ground.data }, { on := 0, ground := Go.Ground.phase }, { on := 1, ground := Go.Ground.phase }, { on := 2, ground := Go.Ground.phase }, { on := 3, ground := Go.Ground.phase }, { on := 4, ground := Go.Ground.phase }, { on := 5, ground := Go.Ground.phase }, { on := 6, ground := Go.Ground.phase }, { on := 7, ground := Go.Ground.phase }, { on := 8, ground := Go.Ground.phase }, { on := 9, ground := Go.Ground.phase }, { on := 10, ground := Go.Ground.phase }, { on := 11, ground := Go.Ground.phase }, { on := 12, ground := Go.Ground.phase }, { on := 13, ground := Go.Ground.phase }], guard := none }) (v := .pointer (some ⟨B.b, 0, none⟩)) rfl (by kernel_rfl) (by kernel_rfl) (by kernel_rfl) (fun _ _ _ h => h) (Or.inl ⟨by rfl, ?_⟩) hHeld ?_
      · intro w hSw; clear hSw; go_simp
      simp only [Act.put, List.setIfInBounds_toArray, List.set_cons_succ, List.set_cons_zero]
      refine wpAnyH_ready (rs := [16]) (by kernel_rfl) (by simp) ?_
      refine (AllReadyH.cons (o := { dst := none, op := Go.Op.store 67 (Go.Operand.tmp 64) (Go.Operand.tmp 62), type := 0, pos := "run.go:38", after := #[{ on := 15, ground := Go.Ground.data }, { on := 13, ground := Go.Ground.data }, { on := 13, ground := Go.Ground.chain }, { on := 0, ground := Go.Ground.phase }, { on := 1, ground := Go.Ground.phase }, { on := 2, ground := Go.Ground.phase }, { on := 3, ground := Go.Ground.phase }, { on := 4, ground := Go.Ground.phase }, { on := 5, ground := Go.Ground.phase }, { on := 6, ground := Go.Ground.phase }, { on := 7, ground := Go.Ground.phase }, { on := 8, ground := Go.Ground.phase }, { on := 9, ground := Go.Ground.phase }, { on := 10, ground := Go.Ground.phase }, { on := 11, ground := Go.Ground.phase }, { on := 12, ground := Go.Ground.phase }, { on := 13, ground := Go.Ground.phase }], guard := none }) rfl (fun K hK => ?_) AllReadyH.nil)
      go_simp
      refine hK.out _ _ S3 (fun hHeld => ?_)
      clear hK K
      try simp only [Act.put, List.setIfInBounds_toArray, List.set_cons_succ, List.set_cons_zero]
      refine wpAnyH_done (by kernel_rfl) ?_ _
      try simp only [List.getElem_toArray, List.getElem_cons_succ, List.getElem_cons_zero, List.setIfInBounds_toArray, List.set_cons_succ, List.set_cons_zero]
      go_upto_region 7 with fail
      rw [← hX.out]
      obtain ⟨r0, r1, z0, z1⟩ := spO_cells HEnd.out.2.1
      have qx := HEnd.out.1
      clear S0 S1 S2 S3 hc hc2 hbz hrun hfz hX hcv
      have u0 : (X.setCell ⟨n2, 0, none⟩ (iV (nr : Int))).cell? ⟨n2, 1, none⟩ = some (u64 0) := by rw [cell_of_block (heap_setCell_same _ _ _ _ HEnd.out.2.1)]; rfl
      have v0 : ((X.setCell ⟨n2, 0, none⟩ (iV (nr : Int))).setCell ⟨n2, 1, none⟩ (u64 0)).cell? ⟨n2, 0, none⟩ = some (iV (nr : Int)) := (spO_cells (spO_set (yr := nr) (yp := 0) HEnd.out.2.1)).1
      have v1 : ((X.setCell ⟨n2, 0, none⟩ (iV (nr : Int))).setCell ⟨n2, 1, none⟩ (u64 0)).cell? ⟨n2, 1, none⟩ = some (u64 0) := (spO_cells (spO_set (yr := nr) (yp := 0) HEnd.out.2.1)).2.1
      have HZ : Hid (Laid w ((X.setCell ⟨n2, 0, none⟩ (iV (nr : Int))).setCell ⟨n2, 1, none⟩ (u64 0)) B (S.addRun ⟨uc, uk, ulc, ulk, urc, urk⟩ ⟨pr, pp⟩)) := HEnd.out.2.2 _ _
      have esub : IntKind.i64.wrap ((nr : Int) + 1 - 1) = (nr : Int) := by rw [IntKind.wrap_i64]; omega
      have esub2 : (nr : Int) + 1 - 1 = (nr : Int) := by omega
      go_wp2_with fail
      refine bodyPost_ret (v := .agg #[iV (nr : Int), u64 0]) (by simp [results, Tryz.results55, go_sem, v0, v1]) rfl ?_
      exact ⟨rfl, HZ.out⟩
    · go_simp
      refine hK.out _ _ S1 (fun hHeld => ?_)
      clear hK K
      try simp only [Act.put, List.setIfInBounds_toArray, List.set_cons_succ, List.set_cons_zero]
      refine wpAnyH_ready (rs := [4]) (by kernel_rfl) (by simp) ?_
      refine (AllReadyH.cons (o := { dst := some 53, op := Go.Op.load 67 (Go.Operand.tmp 52), type := 67, pos := "run.go:38", after := #[{ on := 3, ground := Go.Ground.data }], guard := none }) rfl (fun K hK => ?_) AllReadyH.nil)
      go_simp
      refine hK.out _ _ S1 (fun hHeld => ?_)
      clear hK K
      try simp only [Act.put, List.setIfInBounds_toArray, List.set_cons_succ, List.set_cons_zero]
      refine wpAnyH_ready (rs := [13]) (by kernel_rfl) (by simp) ?_
      refine (AllReadyH.cons (o := { dst := some 62, op := Go.Op.call { callee := Go.Callee.builtin Go.Builtin.append, args := #[Go.Operand.tmp 53, Go.Operand.tmp 61], argTypes := #[67, 67] }, type := 67, pos := "run.go:38", after := #[{ on := 4, ground := Go.Ground.data }, { on := 12, ground := Go.Ground.data }], guard := none }) rfl (fun K hK => ?_) AllReadyH.nil)
      refine step_append 67 (by rfl) _ _ rfl _ _ _ rfl rfl hrun ?_
      refine hK.out _ _ S2 (fun hHeld => ?_)
      clear hK K
      try simp only [Act.put, List.setIfInBounds_toArray, List.set_cons_succ, List.set_cons_zero]
      refine wpAnyH_take (i := 14) (oi := { dst := some 63, op := Go.Op.nilCheck (Go.Operand.tmp 49), type := 0, pos := "run.go:38", after := #[{ on := 0, ground := Go.Ground.data }, { on := 0, ground := Go.Ground.phase }, { on := 1, ground := Go.Ground.phase }, { on := 2, ground := Go.Ground.phase }, { on := 3, ground := Go.Ground.phase }, { on := 4, ground := Go.Ground.phase }, { on := 5, ground := Go.Ground.phase }, { on := 6, ground := Go.Ground.phase }, { on := 7, ground := Go.Ground.phase }, { on := 8, ground := Go.Ground.phase }, { on := 9, ground := Go.Ground.phase }, { on := 10, ground := Go.Ground.phase }, { on := 11, ground := Go.Ground.phase }, { on := 12, ground := Go.Ground.phase }, { on := 13, ground := Go.Ground.phase }], guard := none }) (v := .pointer (some ⟨B.b, 0, none⟩)) rfl (by kernel_rfl) (by kernel_rfl) (by kernel_rfl) (fun _ _ _ h => h) (Or.inl ⟨by rfl, ?_⟩) hHeld ?_
      · intro w hSw; clear hSw; go_simp
      simp only [Act.put, List.setIfInBounds_toArray, List.set_cons_succ, List.set_cons_zero]
      refine wpAnyH_take (i := 15) (oi := { dst := some 64, op := Go.Op.fieldAddr 74 (Go.Operand.tmp 63) 0, type := 0, pos := "run.go:38", after := #[{ on := 14, ground := Go.Ground.data }, { on := 0, ground := Go.Ground.phase }, { on := 1, ground := Go.Ground.phase }, { on := 2, ground := Go.Ground.phase }, { on := 3, ground := Go.Ground.phase }, { on := 4, ground := Go.Ground.phase }, { on := 5, ground := Go.Ground.phase }, { on := 6, ground := Go.Ground.phase }, { on := 7, ground := Go.Ground.phase }, { on := 8, ground := Go.Ground.phase }, { on := 9, ground := Go.Ground.phase }, { on := 10, ground := Go.Ground.phase }, { on := 11, ground := Go.Ground.phase }, { on := 12, ground := Go.Ground.phase }, { on := 13, ground := Go.Ground.phase }], guard := none }) (v := .pointer (some ⟨B.b, 0, none⟩)) rfl (by kernel_rfl) (by kernel_rfl) (by kernel_rfl) (fun _ _ _ h => h) (Or.inl ⟨by rfl, ?_⟩) hHeld ?_
      · intro w hSw; clear hSw; go_simp
      simp only [Act.put, List.setIfInBounds_toArray, List.set_cons_succ, List.set_cons_zero]
      refine wpAnyH_ready (rs := [16]) (by kernel_rfl) (by simp) ?_
      refine (AllReadyH.cons (o := { dst := none, op := Go.Op.store 67 (Go.Operand.tmp 64) (Go.Operand.tmp 62), type := 0, pos := "run.go:38", after := #[{ on := 15, ground := Go.Ground.data }, { on := 13, ground := Go.Ground.data }, { on := 13, ground := Go.Ground.chain }, { on := 0, ground := Go.Ground.phase }, { on := 1, ground := Go.Ground.phase }, { on := 2, ground := Go.Ground.phase }, { on := 3, ground := Go.Ground.phase }, { on := 4, ground := Go.Ground.phase }, { on := 5, ground := Go.Ground.phase }, { on := 6, ground := Go.Ground.phase }, { on := 7, ground := Go.Ground.phase }, { on := 8, ground := Go.Ground.phase }, { on := 9, ground := Go.Ground.phase }, { on := 10, ground := Go.Ground.phase }, { on := 11, ground := Go.Ground.phase }, { on := 12, ground := Go.Ground.phase }, { on := 13, ground := Go.Ground.phase }], guard := none }) rfl (fun K hK => ?_) AllReadyH.nil)
      go_simp
      refine hK.out _ _ S3 (fun hHeld => ?_)
      clear hK K
      try simp only [Act.put, List.setIfInBounds_toArray, List.set_cons_succ, List.set_cons_zero]
      refine wpAnyH_done (by kernel_rfl) ?_ _
      try simp only [List.getElem_toArray, List.getElem_cons_succ, List.getElem_cons_zero, List.setIfInBounds_toArray, List.set_cons_succ, List.set_cons_zero]
      go_upto_region 7 with fail
      rw [← hX.out]
      obtain ⟨r0, r1, z0, z1⟩ := spO_cells HEnd.out.2.1
      have qx := HEnd.out.1
      clear S0 S1 S2 S3 hc hc2 hbz hrun hfz hX hcv
      have u0 : (X.setCell ⟨n2, 0, none⟩ (iV (nr : Int))).cell? ⟨n2, 1, none⟩ = some (u64 0) := by rw [cell_of_block (heap_setCell_same _ _ _ _ HEnd.out.2.1)]; rfl
      have v0 : ((X.setCell ⟨n2, 0, none⟩ (iV (nr : Int))).setCell ⟨n2, 1, none⟩ (u64 0)).cell? ⟨n2, 0, none⟩ = some (iV (nr : Int)) := (spO_cells (spO_set (yr := nr) (yp := 0) HEnd.out.2.1)).1
      have v1 : ((X.setCell ⟨n2, 0, none⟩ (iV (nr : Int))).setCell ⟨n2, 1, none⟩ (u64 0)).cell? ⟨n2, 1, none⟩ = some (u64 0) := (spO_cells (spO_set (yr := nr) (yp := 0) HEnd.out.2.1)).2.1
      have HZ : Hid (Laid w ((X.setCell ⟨n2, 0, none⟩ (iV (nr : Int))).setCell ⟨n2, 1, none⟩ (u64 0)) B (S.addRun ⟨uc, uk, ulc, ulk, urc, urk⟩ ⟨pr, pp⟩)) := HEnd.out.2.2 _ _
      have esub : IntKind.i64.wrap ((nr : Int) + 1 - 1) = (nr : Int) := by rw [IntKind.wrap_i64]; omega
      have esub2 : (nr : Int) + 1 - 1 = (nr : Int) := by omega
      go_wp2_with fail
      refine bodyPost_ret (v := .agg #[iV (nr : Int), u64 0]) (by simp [results, Tryz.results55, go_sem, v0, v1]) rfl ?_
      exact ⟨rfl, HZ.out⟩
  · have ew : (du - dm == dm - d3) = false := by simp [hw]
    have HFx : Hid ((⟨pr, pp⟩ : Sp) = farOf S.runs ⟨pr, pp⟩) := (HFar.out.2 hw).symm
    clear hw HFar
    go_quiet (fail)
    clear q d10 k10 j8 j9 j10
    have H5 : Hid (Touch (fun _ => False) E (W3.drewN nq) ∧ (W3.drewN nq).heap[m3]? = some (spO ⟨pr, pp⟩) ∧ (W3.drewN nq).heap[m1]? = some (rnO ⟨⟨ac, ak, alc, alk, arc, ark⟩, ⟨apr, app⟩, ⟨afr, afp⟩, du⟩)) := ⟨H3.out.1.drewN _, H3.out.2.2.2, H3.out.2.1⟩
    generalize W3.drewN nq = W5 at *
    clear HAll
    go_upto_region 6 with fail
    have hM := HL.out.keep0 (HTE.out.trans H5.out.1.drew)
    have hnl := hnr.out
    have hlen : S.runs.length ≤ 1073741824 := by omega
    obtain ⟨g', cap', w1, hrun0, hT1, hA1, hgg, ⟨v0, hcv⟩, hb1⟩ := append_rn ⟨⟨uc, uk, ulc, ulk, urc, urk⟩, ⟨pr, pp⟩, ⟨pr, pp⟩, du + 1⟩ hM.runs hlen
    have hbz : ∀ (W : World), (Instr.buildSlice 67 1 #[(0, .agg #[u64 uc, u64 uk, u64 ulc, u64 ulk, u64 urc, u64 urk, iV (pr : Int), u64 pp, iV (pr : Int), u64 pp, iV (du + 1)])]).run Tryz.prog W = .ok (.slice (some ⟨W.heap.size, 0, none⟩) 1 1) (W.alloc (.cells #[u64 uc, u64 uk, u64 ulc, u64 ulk, u64 urc, u64 urk, iV (pr : Int), u64 pp, iV (pr : Int), u64 pp, iV (du + 1)] 66)) := fun W => by kernel_rfl
    rw [← hnl] at hrun0 hT1 hA1
    have hrun : (Builtin.append_ #[67, 67] 67 #[.slice (some ⟨B.gr, 0, none⟩) nr B.kr, .slice (some ⟨W5.heap.size, 0, none⟩) 1 1]).run Tryz.prog (W5.alloc (.cells #[u64 uc, u64 uk, u64 ulc, u64 ulk, u64 urc, u64 urk, iV (pr : Int), u64 pp, iV (pr : Int), u64 pp, iV (du + 1)] 66)).drew = .ok (.slice (some ⟨g', 0, none⟩) (nr + 1) cap') w1 := hrun0
    have hfz := free_blk hM.blk 0 w1 hb1
    have hc : W5.cell? ⟨B.b, 0, none⟩ = some (.slice (some ⟨B.gr, 0, none⟩) nr B.kr) := by rw [hnl]; exact hM.runs.cell
    have hc2 : (W5.alloc (.cells #[u64 uc, u64 uk, u64 ulc, u64 ulk, u64 urc, u64 urk, iV (pr : Int), u64 pp, iV (pr : Int), u64 pp, iV (du + 1)] 66)).cell? ⟨B.b, 0, none⟩ = some (.slice (some ⟨B.gr, 0, none⟩) nr B.kr) := cell_keep ((Touch.refl _ _).alloc _) hc
    obtain ⟨X, hX⟩ : ∃ W, Hid (W = w1.setCell ⟨B.b, 0, none⟩ (.slice (some ⟨g', 0, none⟩) (nr + 1) cap')) := ⟨_, Eq.refl _⟩
    have HX : Hid (RunsAt X B.b 0 g' cap' (S.runs ++ [⟨⟨uc, uk, ulc, ulk, urc, urk⟩, ⟨pr, pp⟩, ⟨pr, pp⟩, du + 1⟩]) ∧ AddF W5.drew X B.b 0 B.gr) := by rw [hX.out]; exact ⟨hT1, hA1⟩
    have HK : Hid (∀ k o, w.heap.size ≤ k → W5.heap[k]? = some o → w1.heap[k]? = some o ∧ X.heap[k]? = some o) := fun k o hk ho => by
      have lb : B.b < w.heap.size := HL.out.lt (.inl rfl)
      have lr : B.gr < w.heap.size := HL.out.lt (.inr (.inl rfl))
      have e1 : X.heap[k]? = some o := (HX.out.2.block k (lt_of_heap (w := W5) ho) (by omega) (by omega)).trans ho
      refine ⟨?_, e1⟩
      rw [hX.out, heap_setCell_other _ _ _ _ (by show B.b ≠ _; omega)] at e1
      exact e1
    have HSa : Hid (∀ W : World, W.heap[n]? = some (unO ⟨uc, uk, ulc, ulk, urc, urk⟩) → W.heap[n1]? = some (spO ⟨pr, pp⟩) → W.heap[m3]? = some (spO ⟨pr, pp⟩) → W.heap[m1]? = some (rnO ⟨⟨ac, ak, alc, alk, arc, ark⟩, ⟨apr, app⟩, ⟨afr, afp⟩, du⟩) → W.cell? ⟨n, 0, none⟩ = some (u64 uc) ∧ W.cell? ⟨n, 1, none⟩ = some (u64 uk) ∧ W.cell? ⟨n, 2, none⟩ = some (u64 ulc) ∧ W.cell? ⟨n, 3, none⟩ = some (u64 ulk) ∧ W.cell? ⟨n, 4, none⟩ = some (u64 urc) ∧ W.cell? ⟨n, 5, none⟩ = some (u64 urk) ∧ W.cell? ⟨n1, 0, none⟩ = some (iV (pr : Int)) ∧ W.cell? ⟨n1, 1, none⟩ = some (u64 pp) ∧ W.cell? ⟨m3, 0, none⟩ = some (iV (pr : Int)) ∧ W.cell? ⟨m3, 1, none⟩ = some (u64 pp) ∧ W.cell? ⟨m1, 10, none⟩ = some (iV du)) := fun W h1 h2 h3 h4 => by
      have a := unO_cells h1
      have b := spO_cells h2
      have c := spO_cells h3
      have d := rnO_cells h4
      exact ⟨a.1, a.2.1, a.2.2.1, a.2.2.2.1, a.2.2.2.2.1, a.2.2.2.2.2, b.1, b.2.1, c.1, c.2.1, d.2.2⟩
    have b1 := heap_keep H5.out.1 HEB.out.1
    have b2 := heap_keep H5.out.1 HEB.out.2.1
    have b3 := H5.out.2.1
    have b4 := H5.out.2.2
    have S0 := HSa.out W5.drew b1 b2 b3 b4
    have ta := ((Touch.refl (fun _ => False) W5).alloc (.cells #[u64 uc, u64 uk, u64 ulc, u64 ulk, u64 urc, u64 urk, iV (pr : Int), u64 pp, iV (pr : Int), u64 pp, iV (du + 1)] 66)).drew
    have S1 := HSa.out _ (heap_keep ta b1) (heap_keep ta b2) (heap_keep ta b3) (heap_keep ta b4)
    have kk : w.heap.size ≤ n ∧ w.heap.size ≤ n1 ∧ w.heap.size ≤ m3 ∧ w.heap.size ≤ m1 := by
      have := HTE.out.size
      have := HM3.out.1
      rw [hn.out, hn1.out, hm1.out]
      exact ⟨by omega, by omega, by omega, by omega⟩
    have S2 := HSa.out w1 (HK.out _ _ kk.1 b1).1 (HK.out _ _ kk.2.1 b2).1 (HK.out _ _ kk.2.2.1 b3).1 (HK.out _ _ kk.2.2.2 b4).1
    have S3 : (fun W : World => W.cell? ⟨n, 0, none⟩ = some (u64 uc) ∧ W.cell? ⟨n, 1, none⟩ = some (u64 uk) ∧ W.cell? ⟨n, 2, none⟩ = some (u64 ulc) ∧ W.cell? ⟨n, 3, none⟩ = some (u64 ulk) ∧ W.cell? ⟨n, 4, none⟩ = some (u64 urc) ∧ W.cell? ⟨n, 5, none⟩ = some (u64 urk) ∧ W.cell? ⟨n1, 0, none⟩ = some (iV (pr : Int)) ∧ W.cell? ⟨n1, 1, none⟩ = some (u64 pp) ∧ W.cell? ⟨m3, 0, none⟩ = some (iV (pr : Int)) ∧ W.cell? ⟨m3, 1, none⟩ = some (u64 pp) ∧ W.cell? ⟨m1, 10, none⟩ = some (iV du)) (w1.setCell ⟨B.b, 0, none⟩ (.slice (some ⟨g', 0, none⟩) (nr + 1) cap')) := by
      rw [← hX.out]
      exact HSa.out X (HK.out _ _ kk.1 b1).2 (HK.out _ _ kk.2.1 b2).2 (HK.out _ _ kk.2.2.1 b3).2 (HK.out _ _ kk.2.2.2 b4).2
    have HEnd : Hid (X.cell? ⟨B.b, 0, none⟩ = some (.slice (some ⟨g', 0, none⟩) (nr + 1) cap') ∧ X.heap[n2]? = some (spO ⟨0, 0⟩) ∧ ∀ v u, Laid w ((X.setCell ⟨n2, 0, none⟩ v).setCell ⟨n2, 1, none⟩ u) B (S.addRun ⟨uc, uk, ulc, ulk, urc, urk⟩ ⟨pr, pp⟩)) := by
      have hn2' : w.heap.size ≤ n2 := by rw [hn2.out]; omega
      refine ⟨?_, (HK.out _ _ hn2' (heap_keep H5.out.1 HEB.out.2.2)).2, fun v u => ?_⟩
      · have := HX.out.1.cell
        rw [List.length_append, ← hnl] at this
        exact this
      · rw [HAd.out ⟨pr, pp⟩ HFx.out]
        exact laid_run HL.out (HTE.out.trans H5.out.1.drew) HX.out.2 HX.out.1 hgg hn2' (lt_of_heap (w := W5) (heap_keep H5.out.1 HEB.out.2.2)) v u
    clear hM hnl hlen hrun0 hT1 hA1 hgg hb1 HX HK HSa b1 b2 b3 b4 ta kk HAd
    refine wp_region_held_drew (S := fun W : World => W.cell? ⟨n, 0, none⟩ = some (u64 uc) ∧ W.cell? ⟨n, 1, none⟩ = some (u64 uk) ∧ W.cell? ⟨n, 2, none⟩ = some (u64 ulc) ∧ W.cell? ⟨n, 3, none⟩ = some (u64 ulk) ∧ W.cell? ⟨n, 4, none⟩ = some (u64 urc) ∧ W.cell? ⟨n, 5, none⟩ = some (u64 urk) ∧ W.cell? ⟨n1, 0, none⟩ = some (iV (pr : Int)) ∧ W.cell? ⟨n1, 1, none⟩ = some (u64 pp) ∧ W.cell? ⟨m3, 0, none⟩ = some (iV (pr : Int)) ∧ W.cell? ⟨m3, 1, none⟩ = some (u64 pp) ∧ W.cell? ⟨m1, 10, none⟩ = some (iV du)) (by kernel_rfl) S0 (fun hHeld => ?_)
    refine wpAnyH_take (i := 0) (oi := { dst := some 49, op := Go.Op.move (Go.Operand.tmp 0), type := 24, pos := "run.go:38", after := #[], guard := none }) (v := sP B) rfl (by kernel_rfl) (by kernel_rfl) (by kernel_rfl) (fun _ _ _ h => h) (Or.inl ⟨by rfl, ?_⟩) hHeld ?_
    · intro w hSw; clear hSw; go_simp
    simp only [Act.put, List.setIfInBounds_toArray, List.set_cons_succ, List.set_cons_zero]
    refine wpAnyH_take (i := 1) (oi := { dst := some 50, op := Go.Op.move (Go.Operand.tmp 0), type := 24, pos := "run.go:38", after := #[], guard := none }) (v := sP B) rfl (by kernel_rfl) (by kernel_rfl) (by kernel_rfl) (fun _ _ _ h => h) (Or.inl ⟨by rfl, ?_⟩) hHeld ?_
    · intro w hSw; clear hSw; go_simp
    simp only [Act.put, List.setIfInBounds_toArray, List.set_cons_succ, List.set_cons_zero]
    refine wpAnyH_take (i := 2) (oi := { dst := some 51, op := Go.Op.nilCheck (Go.Operand.tmp 50), type := 0, pos := "run.go:38", after := #[{ on := 1, ground := Go.Ground.data }], guard := none }) (v := .pointer (some ⟨B.b, 0, none⟩)) rfl (by kernel_rfl) (by kernel_rfl) (by kernel_rfl) (fun _ _ _ h => h) (Or.inl ⟨by rfl, ?_⟩) hHeld ?_
    · intro w hSw; clear hSw; go_simp
    simp only [Act.put, List.setIfInBounds_toArray, List.set_cons_succ, List.set_cons_zero]
    refine wpAnyH_take (i := 3) (oi := { dst := some 52, op := Go.Op.fieldAddr 74 (Go.Operand.tmp 51) 0, type := 0, pos := "run.go:38", after := #[{ on := 2, ground := Go.Ground.data }], guard := none }) (v := .pointer (some ⟨B.b, 0, none⟩)) rfl (by kernel_rfl) (by kernel_rfl) (by kernel_rfl) (fun _ _ _ h => h) (Or.inl ⟨by rfl, ?_⟩) hHeld ?_
    · intro w hSw; clear hSw; go_simp
    simp only [Act.put, List.setIfInBounds_toArray, List.set_cons_succ, List.set_cons_zero]
    refine wpAnyH_take (i := 5) (oi := { dst := some 54, op := Go.Op.load 32 (Go.Operand.tmp 4), type := 32, pos := "run.go:38", after := #[], guard := none }) (v := .agg #[u64 uc, u64 uk, u64 ulc, u64 ulk, u64 urc, u64 urk]) rfl (by kernel_rfl) (by kernel_rfl) (by kernel_rfl) (fun _ _ _ h => h) (Or.inl ⟨by rfl, ?_⟩) hHeld ?_
    · intro w hSw; obtain ⟨s1, s2, s3, s4, s5, s6, s7, s8, s9, s10, s11⟩ := hSw; go_simp
    simp only [Act.put, List.setIfInBounds_toArray, List.set_cons_succ, List.set_cons_zero]
    refine wpAnyH_take (i := 6) (oi := { dst := some 55, op := Go.Op.load 64 (Go.Operand.tmp 5), type := 64, pos := "run.go:38", after := #[], guard := none }) (v := .agg #[iV (pr : Int), u64 pp]) rfl (by kernel_rfl) (by kernel_rfl) (by kernel_rfl) (fun _ _ _ h => h) (Or.inl ⟨by rfl, ?_⟩) hHeld ?_
    · intro w hSw; obtain ⟨s1, s2, s3, s4, s5, s6, s7, s8, s9, s10, s11⟩ := hSw; go_simp
    simp only [Act.put, List.setIfInBounds_toArray, List.set_cons_succ, List.set_cons_zero]
    refine wpAnyH_take (i := 7) (oi := { dst := some 56, op := Go.Op.load 64 (Go.Operand.tmp 9), type := 64, pos := "run.go:38", after := #[], guard := none }) (v := .agg #[iV (pr : Int), u64 pp]) rfl (by kernel_rfl) (by kernel_rfl) (by kernel_rfl) (fun _ _ _ h => h) (Or.inl ⟨by rfl, ?_⟩) hHeld ?_
    · intro w hSw; obtain ⟨s1, s2, s3, s4, s5, s6, s7, s8, s9, s10, s11⟩ := hSw; go_simp
    simp only [Act.put, List.setIfInBounds_toArray, List.set_cons_succ, List.set_cons_zero]
    refine wpAnyH_take (i := 8) (oi := { dst := some 57, op := Go.Op.fieldAddr 66 (Go.Operand.tmp 7) 3, type := 0, pos := "run.go:38", after := #[], guard := none }) (v := .pointer (some ⟨m1, 10, none⟩)) rfl (by kernel_rfl) (by kernel_rfl) (by kernel_rfl) (fun _ _ _ h => h) (Or.inl ⟨by rfl, ?_⟩) hHeld ?_
    · intro w hSw; clear hSw; go_simp
    simp only [Act.put, List.setIfInBounds_toArray, List.set_cons_succ, List.set_cons_zero]
    refine wpAnyH_take (i := 9) (oi := { dst := some 58, op := Go.Op.load 3 (Go.Operand.tmp 57), type := 3, pos := "run.go:38", after := #[{ on := 8, ground := Go.Ground.data }], guard := none }) (v := iV du) rfl (by kernel_rfl) (by kernel_rfl) (by kernel_rfl) (fun _ _ _ h => h) (Or.inl ⟨by rfl, ?_⟩) hHeld ?_
    · intro w hSw; obtain ⟨s1, s2, s3, s4, s5, s6, s7, s8, s9, s10, s11⟩ := hSw; go_simp
    simp only [Act.put, List.setIfInBounds_toArray, List.set_cons_succ, List.set_cons_zero]
    refine wpAnyH_take (i := 10) (oi := { dst := some 59, op := Go.Op.binOp Go.BinOp.add 3 (Go.Operand.tmp 58) (Go.Operand.const (Go.Value.int Go.IntKind.i64 1)) 3, type := 3, pos := "run.go:38", after := #[{ on := 9, ground := Go.Ground.data }], guard := none }) (v := iV (du + 1)) rfl (by kernel_rfl) (by kernel_rfl) (by kernel_rfl) (fun _ _ _ h => h) (Or.inl ⟨by rfl, ?_⟩) hHeld ?_
    · intro w hSw; clear hSw; go_simp
    simp only [Act.put, List.setIfInBounds_toArray, List.set_cons_succ, List.set_cons_zero]
    refine wpAnyH_take (i := 11) (oi := { dst := some 60, op := Go.Op.build 66 #[(0, Go.Operand.tmp 54), (1, Go.Operand.tmp 55), (2, Go.Operand.tmp 56), (3, Go.Operand.tmp 59)], type := 66, pos := "run.go:38", after := #[{ on := 5, ground := Go.Ground.data }, { on := 6, ground := Go.Ground.data }, { on := 7, ground := Go.Ground.data }, { on := 10, ground := Go.Ground.data }], guard := none }) (v := .agg #[u64 uc, u64 uk, u64 ulc, u64 ulk, u64 urc, u64 urk, iV (pr : Int), u64 pp, iV (pr : Int), u64 pp, iV (du + 1)]) rfl (by kernel_rfl) (by kernel_rfl) (by kernel_rfl) (fun _ _ _ h => h) (Or.inl ⟨by rfl, ?_⟩) hHeld ?_
    · intro w hSw; clear hSw; go_simp
    simp only [Act.put, List.setIfInBounds_toArray, List.set_cons_succ, List.set_cons_zero]
    refine wpAnyH_ready (rs := [4, 12]) (by kernel_rfl) (by simp) ?_
    refine (AllReadyH.cons (o := { dst := some 53, op := Go.Op.load 67 (Go.Operand.tmp 52), type := 67, pos := "run.go:38", after := #[{ on := 3, ground := Go.Ground.data }], guard := none }) rfl (fun K hK => ?_) (AllReadyH.cons (o := { dst := some 61, op := Go.Op.buildSlice 67 1 #[(0, Go.Operand.tmp 60)], type := 67, pos := "run.go:38", after := #[{ on := 11, ground := Go.Ground.data }], guard := none }) rfl (fun K hK => ?_) AllReadyH.nil))
    · go_simp
      refine hK.out _ _ S0 (fun hHeld => ?_)
      clear hK K
      try simp only [Act.put, List.setIfInBounds_toArray, List.set_cons_succ, List.set_cons_zero]
      refine wpAnyH_ready (rs := [12]) (by kernel_rfl) (by simp) ?_
      refine (AllReadyH.cons (o := { dst := some 61, op := Go.Op.buildSlice 67 1 #[(0, Go.Operand.tmp 60)], type := 67, pos := "run.go:38", after := #[{ on := 11, ground := Go.Ground.data }], guard := none }) rfl (fun K hK => ?_) AllReadyH.nil)
      go_simp
      refine hK.out _ _ S1 (fun hHeld => ?_)
      clear hK K
      try simp only [Act.put, List.setIfInBounds_toArray, List.set_cons_succ, List.set_cons_zero]
      refine wpAnyH_ready (rs := [13]) (by kernel_rfl) (by simp) ?_
      refine (AllReadyH.cons (o := { dst := some 62, op := Go.Op.call { callee := Go.Callee.builtin Go.Builtin.append, args := #[Go.Operand.tmp 53, Go.Operand.tmp 61], argTypes := #[67, 67] }, type := 67, pos := "run.go:38", after := #[{ on := 4, ground := Go.Ground.data }, { on := 12, ground := Go.Ground.data }], guard := none }) rfl (fun K hK => ?_) AllReadyH.nil)
      refine step_append 67 (by rfl) _ _ rfl _ _ _ rfl rfl hrun ?_
      refine hK.out _ _ S2 (fun hHeld => ?_)
      clear hK K
      try simp only [Act.put, List.setIfInBounds_toArray, List.set_cons_succ, List.set_cons_zero]
      refine wpAnyH_take (i := 14) (oi := { dst := some 63, op := Go.Op.nilCheck (Go.Operand.tmp 49), type := 0, pos := "run.go:38", after := #[{ on := 0, ground := Go.Ground.data }, { on := 0, ground := Go.Ground.phase }, { on := 1, ground := Go.Ground.phase }, { on := 2, ground := Go.Ground.phase }, { on := 3, ground := Go.Ground.phase }, { on := 4, ground := Go.Ground.phase }, { on := 5, ground := Go.Ground.phase }, { on := 6, ground := Go.Ground.phase }, { on := 7, ground := Go.Ground.phase }, { on := 8, ground := Go.Ground.phase }, { on := 9, ground := Go.Ground.phase }, { on := 10, ground := Go.Ground.phase }, { on := 11, ground := Go.Ground.phase }, { on := 12, ground := Go.Ground.phase }, { on := 13, ground := Go.Ground.phase }], guard := none }) (v := .pointer (some ⟨B.b, 0, none⟩)) rfl (by kernel_rfl) (by kernel_rfl) (by kernel_rfl) (fun _ _ _ h => h) (Or.inl ⟨by rfl, ?_⟩) hHeld ?_
      · intro w hSw; clear hSw; go_simp
      simp only [Act.put, List.setIfInBounds_toArray, List.set_cons_succ, List.set_cons_zero]
      refine wpAnyH_take (i := 15) (oi := { dst := some 64, op := Go.Op.fieldAddr 74 (Go.Operand.tmp 63) 0, type := 0, pos := "run.go:38", after := #[{ on := 14, ground := Go.Ground.data }, { on := 0, ground := Go.Ground.phase }, { on := 1, ground := Go.Ground.phase }, { on := 2, ground := Go.Ground.phase }, { on := 3, ground := Go.Ground.phase }, { on := 4, ground := Go.Ground.phase }, { on := 5, ground := Go.Ground.phase }, { on := 6, ground := Go.Ground.phase }, { on := 7, ground := Go.Ground.phase }, { on := 8, ground := Go.Ground.phase }, { on := 9, ground := Go.Ground.phase }, { on := 10, ground := Go.Ground.phase }, { on := 11, ground := Go.Ground.phase }, { on := 12, ground := Go.Ground.phase }, { on := 13, ground := Go.Ground.phase }], guard := none }) (v := .pointer (some ⟨B.b, 0, none⟩)) rfl (by kernel_rfl) (by kernel_rfl) (by kernel_rfl) (fun _ _ _ h => h) (Or.inl ⟨by rfl, ?_⟩) hHeld ?_
      · intro w hSw; clear hSw; go_simp
      simp only [Act.put, List.setIfInBounds_toArray, List.set_cons_succ, List.set_cons_zero]
      refine wpAnyH_ready (rs := [16]) (by kernel_rfl) (by simp) ?_
      refine (AllReadyH.cons (o := { dst := none, op := Go.Op.store 67 (Go.Operand.tmp 64) (Go.Operand.tmp 62), type := 0, pos := "run.go:38", after := #[{ on := 15, ground := Go.Ground.data }, { on := 13, ground := Go.Ground.data }, { on := 13, ground := Go.Ground.chain }, { on := 0, ground := Go.Ground.phase }, { on := 1, ground := Go.Ground.phase }, { on := 2, ground := Go.Ground.phase }, { on := 3, ground := Go.Ground.phase }, { on := 4, ground := Go.Ground.phase }, { on := 5, ground := Go.Ground.phase }, { on := 6, ground := Go.Ground.phase }, { on := 7, ground := Go.Ground.phase }, { on := 8, ground := Go.Ground.phase }, { on := 9, ground := Go.Ground.phase }, { on := 10, ground := Go.Ground.phase }, { on := 11, ground := Go.Ground.phase }, { on := 12, ground := Go.Ground.phase }, { on := 13, ground := Go.Ground.phase }], guard := none }) rfl (fun K hK => ?_) AllReadyH.nil)
      go_simp
      refine hK.out _ _ S3 (fun hHeld => ?_)
      clear hK K
      try simp only [Act.put, List.setIfInBounds_toArray, List.set_cons_succ, List.set_cons_zero]
      refine wpAnyH_done (by kernel_rfl) ?_ _
      try simp only [List.getElem_toArray, List.getElem_cons_succ, List.getElem_cons_zero, List.setIfInBounds_toArray, List.set_cons_succ, List.set_cons_zero]
      go_upto_region 7 with fail
      rw [← hX.out]
      obtain ⟨r0, r1, z0, z1⟩ := spO_cells HEnd.out.2.1
      have qx := HEnd.out.1
      clear S0 S1 S2 S3 hc hc2 hbz hrun hfz hX hcv
      have u0 : (X.setCell ⟨n2, 0, none⟩ (iV (nr : Int))).cell? ⟨n2, 1, none⟩ = some (u64 0) := by rw [cell_of_block (heap_setCell_same _ _ _ _ HEnd.out.2.1)]; rfl
      have v0 : ((X.setCell ⟨n2, 0, none⟩ (iV (nr : Int))).setCell ⟨n2, 1, none⟩ (u64 0)).cell? ⟨n2, 0, none⟩ = some (iV (nr : Int)) := (spO_cells (spO_set (yr := nr) (yp := 0) HEnd.out.2.1)).1
      have v1 : ((X.setCell ⟨n2, 0, none⟩ (iV (nr : Int))).setCell ⟨n2, 1, none⟩ (u64 0)).cell? ⟨n2, 1, none⟩ = some (u64 0) := (spO_cells (spO_set (yr := nr) (yp := 0) HEnd.out.2.1)).2.1
      have HZ : Hid (Laid w ((X.setCell ⟨n2, 0, none⟩ (iV (nr : Int))).setCell ⟨n2, 1, none⟩ (u64 0)) B (S.addRun ⟨uc, uk, ulc, ulk, urc, urk⟩ ⟨pr, pp⟩)) := HEnd.out.2.2 _ _
      have esub : IntKind.i64.wrap ((nr : Int) + 1 - 1) = (nr : Int) := by rw [IntKind.wrap_i64]; omega
      have esub2 : (nr : Int) + 1 - 1 = (nr : Int) := by omega
      go_wp2_with fail
      refine bodyPost_ret (v := .agg #[iV (nr : Int), u64 0]) (by simp [results, Tryz.results55, go_sem, v0, v1]) rfl ?_
      exact ⟨rfl, HZ.out⟩
    · go_simp
      refine hK.out _ _ S1 (fun hHeld => ?_)
      clear hK K
      try simp only [Act.put, List.setIfInBounds_toArray, List.set_cons_succ, List.set_cons_zero]
      refine wpAnyH_ready (rs := [4]) (by kernel_rfl) (by simp) ?_
      refine (AllReadyH.cons (o := { dst := some 53, op := Go.Op.load 67 (Go.Operand.tmp 52), type := 67, pos := "run.go:38", after := #[{ on := 3, ground := Go.Ground.data }], guard := none }) rfl (fun K hK => ?_) AllReadyH.nil)
      go_simp
      refine hK.out _ _ S1 (fun hHeld => ?_)
      clear hK K
      try simp only [Act.put, List.setIfInBounds_toArray, List.set_cons_succ, List.set_cons_zero]
      refine wpAnyH_ready (rs := [13]) (by kernel_rfl) (by simp) ?_
      refine (AllReadyH.cons (o := { dst := some 62, op := Go.Op.call { callee := Go.Callee.builtin Go.Builtin.append, args := #[Go.Operand.tmp 53, Go.Operand.tmp 61], argTypes := #[67, 67] }, type := 67, pos := "run.go:38", after := #[{ on := 4, ground := Go.Ground.data }, { on := 12, ground := Go.Ground.data }], guard := none }) rfl (fun K hK => ?_) AllReadyH.nil)
      refine step_append 67 (by rfl) _ _ rfl _ _ _ rfl rfl hrun ?_
      refine hK.out _ _ S2 (fun hHeld => ?_)
      clear hK K
      try simp only [Act.put, List.setIfInBounds_toArray, List.set_cons_succ, List.set_cons_zero]
      refine wpAnyH_take (i := 14) (oi := { dst := some 63, op := Go.Op.nilCheck (Go.Operand.tmp 49), type := 0, pos := "run.go:38", after := #[{ on := 0, ground := Go.Ground.data }, { on := 0, ground := Go.Ground.phase }, { on := 1, ground := Go.Ground.phase }, { on := 2, ground := Go.Ground.phase }, { on := 3, ground := Go.Ground.phase }, { on := 4, ground := Go.Ground.phase }, { on := 5, ground := Go.Ground.phase }, { on := 6, ground := Go.Ground.phase }, { on := 7, ground := Go.Ground.phase }, { on := 8, ground := Go.Ground.phase }, { on := 9, ground := Go.Ground.phase }, { on := 10, ground := Go.Ground.phase }, { on := 11, ground := Go.Ground.phase }, { on := 12, ground := Go.Ground.phase }, { on := 13, ground := Go.Ground.phase }], guard := none }) (v := .pointer (some ⟨B.b, 0, none⟩)) rfl (by kernel_rfl) (by kernel_rfl) (by kernel_rfl) (fun _ _ _ h => h) (Or.inl ⟨by rfl, ?_⟩) hHeld ?_
      · intro w hSw; clear hSw; go_simp
      simp only [Act.put, List.setIfInBounds_toArray, List.set_cons_succ, List.set_cons_zero]
      refine wpAnyH_take (i := 15) (oi := { dst := some 64, op := Go.Op.fieldAddr 74 (Go.Operand.tmp 63) 0, type := 0, pos := "run.go:38", after := #[{ on := 14, ground := Go.Ground.data }, { on := 0, ground := Go.Ground.phase }, { on := 1, ground := Go.Ground.phase }, { on := 2, ground := Go.Ground.phase }, { on := 3, ground := Go.Ground.phase }, { on := 4, ground := Go.Ground.phase }, { on := 5, ground := Go.Ground.phase }, { on := 6, ground := Go.Ground.phase }, { on := 7, ground := Go.Ground.phase }, { on := 8, ground := Go.Ground.phase }, { on := 9, ground := Go.Ground.phase }, { on := 10, ground := Go.Ground.phase }, { on := 11, ground := Go.Ground.phase }, { on := 12, ground := Go.Ground.phase }, { on := 13, ground := Go.Ground.phase }], guard := none }) (v := .pointer (some ⟨B.b, 0, none⟩)) rfl (by kernel_rfl) (by kernel_rfl) (by kernel_rfl) (fun _ _ _ h => h) (Or.inl ⟨by rfl, ?_⟩) hHeld ?_
      · intro w hSw; clear hSw; go_simp
      simp only [Act.put, List.setIfInBounds_toArray, List.set_cons_succ, List.set_cons_zero]
      refine wpAnyH_ready (rs := [16]) (by kernel_rfl) (by simp) ?_
      refine (AllReadyH.cons (o := { dst := none, op := Go.Op.store 67 (Go.Operand.tmp 64) (Go.Operand.tmp 62), type := 0, pos := "run.go:38", after := #[{ on := 15, ground := Go.Ground.data }, { on := 13, ground := Go.Ground.data }, { on := 13, ground := Go.Ground.chain }, { on := 0, ground := Go.Ground.phase }, { on := 1, ground := Go.Ground.phase }, { on := 2, ground := Go.Ground.phase }, { on := 3, ground := Go.Ground.phase }, { on := 4, ground := Go.Ground.phase }, { on := 5, ground := Go.Ground.phase }, { on := 6, ground := Go.Ground.phase }, { on := 7, ground := Go.Ground.phase }, { on := 8, ground := Go.Ground.phase }, { on := 9, ground := Go.Ground.phase }, { on := 10, ground := Go.Ground.phase }, { on := 11, ground := Go.Ground.phase }, { on := 12, ground := Go.Ground.phase }, { on := 13, ground := Go.Ground.phase }], guard := none }) rfl (fun K hK => ?_) AllReadyH.nil)
      go_simp
      refine hK.out _ _ S3 (fun hHeld => ?_)
      clear hK K
      try simp only [Act.put, List.setIfInBounds_toArray, List.set_cons_succ, List.set_cons_zero]
      refine wpAnyH_done (by kernel_rfl) ?_ _
      try simp only [List.getElem_toArray, List.getElem_cons_succ, List.getElem_cons_zero, List.setIfInBounds_toArray, List.set_cons_succ, List.set_cons_zero]
      go_upto_region 7 with fail
      rw [← hX.out]
      obtain ⟨r0, r1, z0, z1⟩ := spO_cells HEnd.out.2.1
      have qx := HEnd.out.1
      clear S0 S1 S2 S3 hc hc2 hbz hrun hfz hX hcv
      have u0 : (X.setCell ⟨n2, 0, none⟩ (iV (nr : Int))).cell? ⟨n2, 1, none⟩ = some (u64 0) := by rw [cell_of_block (heap_setCell_same _ _ _ _ HEnd.out.2.1)]; rfl
      have v0 : ((X.setCell ⟨n2, 0, none⟩ (iV (nr : Int))).setCell ⟨n2, 1, none⟩ (u64 0)).cell? ⟨n2, 0, none⟩ = some (iV (nr : Int)) := (spO_cells (spO_set (yr := nr) (yp := 0) HEnd.out.2.1)).1
      have v1 : ((X.setCell ⟨n2, 0, none⟩ (iV (nr : Int))).setCell ⟨n2, 1, none⟩ (u64 0)).cell? ⟨n2, 1, none⟩ = some (u64 0) := (spO_cells (spO_set (yr := nr) (yp := 0) HEnd.out.2.1)).2.1
      have HZ : Hid (Laid w ((X.setCell ⟨n2, 0, none⟩ (iV (nr : Int))).setCell ⟨n2, 1, none⟩ (u64 0)) B (S.addRun ⟨uc, uk, ulc, ulk, urc, urk⟩ ⟨pr, pp⟩)) := HEnd.out.2.2 _ _
      have esub : IntKind.i64.wrap ((nr : Int) + 1 - 1) = (nr : Int) := by rw [IntKind.wrap_i64]; omega
      have esub2 : (nr : Int) + 1 - 1 = (nr : Int) := by omega
      go_wp2_with fail
      refine bodyPost_ret (v := .agg #[iV (nr : Int), u64 0]) (by simp [results, Tryz.results55, go_sem, v0, v1]) rfl ?_
      exact ⟨rfl, HZ.out⟩
end Go.Proofs.YtnilikomoapcaaaGreat
