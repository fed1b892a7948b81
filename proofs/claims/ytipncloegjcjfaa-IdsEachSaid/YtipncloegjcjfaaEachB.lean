/- quirelaw6.each. -/
import Derived.Test.YtipncloegjcjfaaEachM
import Derived.Deep.RegionHeld3
import Derived.Deep.DeepCutAuto
namespace Go.Proofs.Ytipncloegjcjfaa
open Go.RowKit Go.Shelf
set_option linter.unusedVariables false
set_option linter.unusedSimpArgs false
set_option maxRecDepth 100000
attribute [local go_sem] Oper.semAt_some

/-- What lies between two rounds. -/
structure EachI (n most : Nat) (w W0 : World) (pre : List (Int × Int)) (W : World) : Prop where
  last : W.heap[n + 3]? = some (idO (lastId pre).1 (lastId pre).2)
  cnt : Boxed W (n + 4) 3 (.int .i64 (pre.length : Int))
  res : Boxed W (n + 2) 4 (.bool false)
  below : Below (n + 2) W0 W
theorem EachI.own (n most : Nat) (w W0 : World) (B : Nat) (hn : n + 2 ≤ W0.heap.size) (hB : n + 2 ≤ B) : OwnFrom B (fun pre W => EachI n most w W0 pre W) := by
  rintro s X Y row h hg hr
  exact ⟨blk_own (β := Unit) (n + 3) _ _ () X Y row h.last hg (fun r e => (hr r e).2), boxed_own (β := Unit) (n + 4) _ (fun _ => _) () X Y row h.cnt hg (fun r e => (hr r e).2), boxed_own (β := Unit) (n + 2) _ (fun _ => _) () X Y row h.res hg (fun r e => (hr r e).2), ownFrom_below (β := Unit) hn hB () X Y row h.below hg hr⟩
theorem EachI.step {n most : Nat} {w W0 : World} {pre : List (Int × Int)} {W W3 : World} (h : EachI n most w W0 pre W) (hn : n + 5 ≤ W0.heap.size) (t : Touch (fun _ => False) W W3) (x : Int × Int) :
    EachI n most w W0 (pre ++ [x]) (((W3.setCell ⟨n + 3, 0, none⟩ (.int .u64 x.1)).setCell ⟨n + 3, 1, none⟩ (.int .u64 x.2)).setCell ⟨n + 4, 0, none⟩ (.int .i64 ((pre.length : Int) + 1))) ∧
    KeepsOthers W (((W3.setCell ⟨n + 3, 0, none⟩ (.int .u64 x.1)).setCell ⟨n + 3, 1, none⟩ (.int .u64 x.2)).setCell ⟨n + 4, 0, none⟩ (.int .i64 ((pre.length : Int) + 1))) ∧
    KeepC (fun k => k = n + 3 ∨ k = n + 4) W (((W3.setCell ⟨n + 3, 0, none⟩ (.int .u64 x.1)).setCell ⟨n + 3, 1, none⟩ (.int .u64 x.2)).setCell ⟨n + 4, 0, none⟩ (.int .i64 ((pre.length : Int) + 1))) := by
  have hl3 := (t.block _ (lt_of_heap h.last) id).trans h.last
  have hc3 := (t.block _ (lt_of_heap (show W.heap[n + 4]? = _ from h.cnt)) id).trans h.cnt
  have hr3 := (t.block _ (lt_of_heap (show W.heap[n + 2]? = _ from h.res)) id).trans h.res
  have hb3 : Below (n + 2) W0 W3 := h.below.trans (t.below (Nat.le_trans (by omega) h.below.size) (fun _ _ => id))
  refine ⟨⟨?_, ?_, ?_, ?_⟩, ?_, ?_⟩
  · rw [heap_setCell_other _ _ _ _ (by simp only; omega), lastId_snoc]
    exact heap_setCell_same _ (n + 3) 1 _ (heap_setCell_same W3 (n + 3) 0 _ hl3)
  · have e : (pre ++ [x]).length = pre.length + 1 := by simp
    rw [e]
    refine heap_setCell_same _ (n + 4) 0 _ (c := #[.int .i64 (pre.length : Int)]) ?_
    rw [heap_setCell_other _ _ _ _ (by simp only; omega), heap_setCell_other _ _ _ _ (by simp only; omega)]; exact hc3
  · show (_ : World).heap[n + 2]? = _
    rw [heap_setCell_other _ _ _ _ (by simp only; omega), heap_setCell_other _ _ _ _ (by simp only; omega), heap_setCell_other _ _ _ _ (by simp only; omega)]; exact hr3
  · exact ((hb3.setCell (p := ⟨n + 3, 0, none⟩) (by simp only; omega) _).setCell (p := ⟨n + 3, 1, none⟩) (by simp only; omega) _).setCell (p := ⟨n + 4, 0, none⟩) (by simp only; omega) _
  · exact ((t.keepsOthers.trans (KeepsOthers.setCell _ _ _)).trans (KeepsOthers.setCell _ _ _)).trans (KeepsOthers.setCell _ _ _)
  · exact KeepC.of ((((t.mono fun _ _ e => e.elim).setCell _ _ fun _ => .inl rfl).setCell _ _ fun _ => .inl rfl).setCell _ _ fun _ => .inr rfl)
theorem three_keep (n : Nat) (W : World) (v : Value) {a b c : Option Value} (h : W.cell? ⟨n + 1 + 1 + 1 + 1, 0, none⟩ = a ∧ W.cell? ⟨n, 0, none⟩ = b ∧ W.cell? ⟨n + 1, 0, none⟩ = c) :
    (W.setCell ⟨n + 1 + 1, 0, none⟩ v).cell? ⟨n + 1 + 1 + 1 + 1, 0, none⟩ = a ∧ (W.setCell ⟨n + 1 + 1, 0, none⟩ v).cell? ⟨n, 0, none⟩ = b ∧ (W.setCell ⟨n + 1 + 1, 0, none⟩ v).cell? ⟨n + 1, 0, none⟩ = c :=
  ⟨by rw [World.cell?_of_block (heap_setCell_other W _ v _ (by simp only; omega))]; exact h.1, by rw [World.cell?_of_block (heap_setCell_other W _ v _ (by simp only; omega))]; exact h.2.1, by rw [World.cell?_of_block (heap_setCell_other W _ v _ (by simp only; omega))]; exact h.2.2⟩
set_option maxHeartbeats 8000000 in
theorem each_any (l : List Rg) (v : Value) (most : Nat) (w : World) (hs : SlR w v l) (hll : l.length ≤ 60) (hm : most < 300) :
    Calls Try.prog 27 #[v, .int .i64 (most : Int)] w fun e w' => e = .returned (.bool true) ∧ Touch (fun _ => False) w w' := by
  have HSl : Hid (SlR w v l) := hs
  obtain ⟨ao, cap, rfl, h1, h2, h3, h4⟩ := hs
  obtain ⟨W1, hW1⟩ : ∃ W1, ((((w.alloc (.cells #[.slice ao l.length cap] 22)).alloc (.cells #[.int .i64 (most : Int)] 3)).alloc (.cells #[.bool false] 4)).alloc (idO 0 0)).alloc (.cells #[.int .i64 0] 3) = W1 := ⟨_, rfl⟩
  have hsz : W1.heap.size = w.heap.size + 5 := by rw [← hW1]; simp
  have t1 : Touch (fun _ => False) w W1 := by rw [← hW1]; exact (((((Touch.refl _ w).alloc _).alloc _).alloc _).alloc _).alloc _
  have b0 : W1.heap[w.heap.size]? = some (.cells #[.slice ao l.length cap] 22) := by
    rw [← hW1]; exact (Below.heap_alloc _ _ _ (by simp; omega)).trans ((Below.heap_alloc _ _ _ (by simp; omega)).trans ((Below.heap_alloc _ _ _ (by simp; omega)).trans ((Below.heap_alloc _ _ _ (by simp)).trans (heap_alloc_new w _))))
  have b1 : W1.heap[w.heap.size + 1]? = some (.cells #[.int .i64 (most : Int)] 3) := by
    have := heap_alloc_new (w.alloc (.cells #[.slice ao l.length cap] 22)) (.cells #[.int .i64 (most : Int)] 3)
    rw [World.size_alloc] at this
    rw [← hW1]; exact (Below.heap_alloc _ _ _ (by simp; try omega)).trans ((Below.heap_alloc _ _ _ (by simp; try omega)).trans ((Below.heap_alloc _ _ _ (by simp)).trans this))
  have b2 : W1.heap[w.heap.size + 2]? = some (.cells #[.bool false] 4) := by
    have := heap_alloc_new ((w.alloc (.cells #[.slice ao l.length cap] 22)).alloc (.cells #[.int .i64 (most : Int)] 3)) (.cells #[.bool false] 4)
    rw [World.size_alloc, World.size_alloc] at this
    rw [← hW1]; exact (Below.heap_alloc _ _ _ (by simp; try omega)).trans ((Below.heap_alloc _ _ _ (by simp)).trans this)
  have b3 : W1.heap[w.heap.size + 3]? = some (idO 0 0) := by
    have := heap_alloc_new (((w.alloc (.cells #[.slice ao l.length cap] 22)).alloc (.cells #[.int .i64 (most : Int)] 3)).alloc (.cells #[.bool false] 4)) (idO 0 0)
    rw [World.size_alloc, World.size_alloc, World.size_alloc] at this
    rw [← hW1]; exact (Below.heap_alloc _ _ _ (by simp)).trans this
  have b4 : W1.heap[w.heap.size + 4]? = some (.cells #[.int .i64 0] 3) := by
    have := heap_alloc_new ((((w.alloc (.cells #[.slice ao l.length cap] 22)).alloc (.cells #[.int .i64 (most : Int)] 3)).alloc (.cells #[.bool false] 4)).alloc (idO 0 0)) (.cells #[.int .i64 0] 3)
    rw [World.size_alloc, World.size_alloc, World.size_alloc, World.size_alloc] at this
    rw [← hW1]; exact this
  have c30 : W1.cell? ⟨w.heap.size + 1 + 1 + 1, 0, none⟩ = some (.int .u64 0) := by rw [cell_of_block (p := w.heap.size + 1 + 1 + 1) b3]; rfl
  have c31 : W1.cell? ⟨w.heap.size + 1 + 1 + 1, 1, none⟩ = some (.int .u64 0) := by rw [cell_of_block (p := w.heap.size + 1 + 1 + 1) b3]; rfl
  have f30 : W1.frozen? ⟨w.heap.size + 1 + 1 + 1, 0, none⟩ = false := free_of_block (p := w.heap.size + 1 + 1 + 1) b3
  have f31 : W1.frozen? ⟨w.heap.size + 1 + 1 + 1, 1, none⟩ = false := free_of_block (p := w.heap.size + 1 + 1 + 1) b3
  have c40 : W1.cell? ⟨w.heap.size + 1 + 1 + 1 + 1, 0, none⟩ = some (.int .i64 0) := by rw [cell_of_block (p := w.heap.size + 1 + 1 + 1 + 1) b4]; rfl
  have f40 : W1.frozen? ⟨w.heap.size + 1 + 1 + 1 + 1, 0, none⟩ = false := free_of_block (p := w.heap.size + 1 + 1 + 1 + 1) b4
  have c00 : W1.cell? ⟨w.heap.size, 0, none⟩ = some (.slice ao l.length cap) := by rw [cell_of_block b0]; rfl
  obtain ⟨W2, hW2⟩ : ∃ W2, ((W1.setCell ⟨w.heap.size + 1 + 1 + 1, 0, none⟩ (.int .u64 0)).setCell ⟨w.heap.size + 1 + 1 + 1, 1, none⟩ (.int .u64 0)).setCell ⟨w.heap.size + 1 + 1 + 1 + 1, 0, none⟩ (.int .i64 0) = W2 := ⟨_, rfl⟩
  have sz2 : W2.heap.size = w.heap.size + 5 := by rw [← hW2]; simp only [size_setCell]; exact hsz
  have t2 : Touch (fun _ => False) w W2 := by
    rw [← hW2]; exact ((t1.setCell _ _ (fun h => by simp only at h; omega)).setCell _ _ (fun h => by simp only at h; omega)).setCell _ _ (fun h => by simp only at h; omega)
  have oth : ∀ k, k ≠ w.heap.size + 3 → k ≠ w.heap.size + 4 → W2.heap[k]? = W1.heap[k]? := fun k h h' => by
    rw [← hW2, heap_setCell_other _ _ _ _ (by simp only; omega), heap_setCell_other _ _ _ _ (by simp only; omega), heap_setCell_other _ _ _ _ (by simp only; omega)]
  have e0 := (oth w.heap.size (by omega) (by omega)).trans b0
  have e1 := (oth (w.heap.size + 1) (by omega) (by omega)).trans b1
  have e2 := (oth (w.heap.size + 2) (by omega) (by omega)).trans b2
  have e3 : W2.heap[w.heap.size + 3]? = some (idO 0 0) := by
    rw [← hW2, heap_setCell_other _ _ _ _ (by simp only; omega)]
    have q1 := heap_setCell_same W1 (w.heap.size + 3) 0 (.int .u64 0) b3
    exact heap_setCell_same _ (w.heap.size + 3) 1 (.int .u64 0) q1
  have e4 : W2.heap[w.heap.size + 4]? = some (.cells #[.int .i64 0] 3) := by
    rw [← hW2]
    refine heap_setCell_same _ (w.heap.size + 4) 0 (.int .i64 0) (c := #[.int .i64 0]) ?_
    rw [heap_setCell_other _ _ _ _ (by simp only; omega), heap_setCell_other _ _ _ _ (by simp only; omega)]; exact b4
  have c02 : W2.cell? ⟨w.heap.size, 0, none⟩ = some (.slice ao l.length cap) := by rw [cell_of_block e0]; rfl
  have AL := all_any l _ W2 (HSl.out.touch t2) (by omega)
  refine (callsIn_wide (n := 3)).1 ?_
  refine callsIn_of_wp_marks Try.func27 rfl trivial ?_ rfl
  simp only [Try.ntmps27, List.size_toArray, List.length_cons, List.length_nil, Nat.reduceAdd, Nat.reduceSub, Array.replicate_succ, Array.replicate_zero, List.push_toArray, List.append_toArray, List.nil_append, List.cons_append]
  gi_wp2_with fail
  try rw [hW2]
  refine ⟨trivial, (callsIn_wide.2 AL).mono ?_⟩
  rintro e W0 ⟨B, aoc, capc, out, rfl, hBc, hBn, hSo, hfr, hF, hol, t0⟩
  clear hW1 hW2 c30 c31 f30 f31 c40 f40 c00 c02 b0 b1 b2 b3 b4 oth AL
  have sz0 : w.heap.size + 5 ≤ W0.heap.size := by have := t0.size; omega
  have g0 := (t0.block _ (lt_of_heap e0) id).trans e0
  have g1 := (t0.block _ (lt_of_heap e1) id).trans e1
  have g2 := (t0.block _ (lt_of_heap e2) id).trans e2
  have g3 := (t0.block _ (lt_of_heap e3) id).trans e3
  have g4 := (t0.block _ (lt_of_heap e4) id).trans e4
  have HSW : Hid (SlR W0 (.slice ao l.length cap) l) := HSl.out.touch (t2.trans t0)
  have HF : Hid (Form (tns out) (turnOf (tns l))) := hF
  have HTw : Hid (Touch (fun _ => False) w W0) := t2.trans t0
  have hlt : ∀ b o, l ≠ [] → ao = some ⟨b, o, none⟩ → b < w.heap.size := fun b o hne e => by
    obtain ⟨b', o', cap', e', _, _, hb, _⟩ := HSl.out.row hne
    rw [e] at e'; simp only [Value.slice.injEq, Option.some.injEq, Addr.mk.injEq] at e'
    obtain ⟨⟨rfl, _, _⟩, _, _⟩ := e'
    exact hb
  have HLies : Hid (∀ W, Below (w.heap.size + 2) W0 W → SlR W (.slice ao l.length cap) l ∧ W.cell? ⟨w.heap.size, 0, none⟩ = some (.slice ao l.length cap) ∧ W.cell? ⟨w.heap.size + 1, 0, none⟩ = some (.int .i64 (most : Int))) := fun W hB => by
    refine ⟨⟨ao, cap, rfl, h1, h2, h3, ?_⟩, ?_, ?_⟩
    · obtain ⟨ao', cap', e, _, _, _, h4'⟩ := HSW.out
      simp only [Value.slice.injEq] at e
      obtain ⟨rfl, _, rfl⟩ := e
      exact h4'.below hB (fun b o hne e => by have := hlt b o hne e; omega)
    · rw [cell_of_block ((hB.block _ (by omega)).trans g0)]; rfl
    · rw [cell_of_block ((hB.block _ (by omega)).trans g1)]; rfl
  gi_wp2
  refine wpIn_rangeFunc_ownH rfl (by decide) (gf := 70) (lb := #[.pointer (some ⟨B, 0, none⟩)]) rfl trivial (enters_of Try.func70 (by kernel_rfl) rfl)
    (all_stops 2 B (fun k => k = w.heap.size + 3 ∨ k = w.heap.size + 4) aoc capc out W0 hBc (by omega) hSo (fun b o m cp e => by have := hfr b o m cp e; omega) (fun k h => by omega) hF.oks (by omega))
    KeepC.trans (fun W q ob ob' _ h hc _ => KeepC.put W q ob ob' h hc) (Below.refl _ _) (fun _ => rfl)
    (fun pre W => EachI w.heap.size most w W0 pre W ∧ pre.length ≤ most)
    (fun q pre W => ¬ (pre <+: idsOf out) ∨ (q = .exit 0 ∧ EachI w.heap.size most w W0 pre W ∧ pre.length = most + 1))
    (OwnFrom.and (EachI.own _ _ _ _ _ (by omega) (by omega)) (fun _ _ _ _ h _ _ => h))
    (fun q s X Y row h hg hr => h.imp id fun g => ⟨g.1, EachI.own _ _ _ _ _ (by omega) (by omega) s X Y row g.2.1 hg hr, g.2.2⟩)
    ⟨⟨g3, g4, g2, Below.refl _ _⟩, Nat.zero_le _⟩
    (fun x a' W => ∃ Bx, w.heap.size + 5 ≤ Bx ∧ W.heap[Bx]? = some (idO x.1 x.2) ∧ a' = { tmps := #[.slice ao l.length cap, .int .i64 (most : Int), .pointer (some ⟨w.heap.size, 0, none⟩), .pointer (some ⟨w.heap.size + 1, 0, none⟩), .pointer (some ⟨w.heap.size + 1 + 1, 0, none⟩), .pointer (some ⟨w.heap.size + 1 + 1 + 1, 0, none⟩), .pointer (some ⟨w.heap.size + 1 + 1 + 1 + 1, 0, none⟩), .pointer (some ⟨Bx, 0, none⟩), .agg #[.int .u64 0, .int .u64 0], .slice ao l.length cap, .func (.func 70) #[] #[.pointer (some ⟨B, 0, none⟩)], idV x.1 x.2, undef, undef, undef, undef, undef, undef, undef, undef, undef, undef, undef, undef, undef, undef, undef, undef, undef, undef, undef, undef, undef, undef, undef, undef, undef, undef, undef, undef, undef, undef], defers := [] })
    (fun x a' => ?hAx) ?assign ?body ?done ?stop
  case hAx =>
    rintro s W W' row ⟨Bx, h5, h6, h7⟩ hg hr
    exact ⟨Bx, h5, blk_own (β := Unit) Bx _ _ s W W' row h6 hg (fun r e => (hr r e).2), h7⟩
  case assign =>
    rintro q pre x W K ⟨hi, hle⟩ hK
    have hsW : w.heap.size + 5 ≤ W.heap.size := by have := lt_of_heap hi.cnt; omega
    gi_wp2
    exact hK _ _ ((KeepsOthers.alloc _ _).from _) (KeepC.of ((Touch.refl _ W).alloc _)) ⟨⟨(Below.heap_alloc _ _ _ (lt_of_heap hi.last)).trans hi.last, hi.cnt.alloc _, hi.res.alloc _, hi.below.alloc (by omega) _⟩, hle⟩ ⟨W.heap.size, hsW, heap_alloc_new W _, rfl⟩
  case body =>
    rintro q pre x a' W hq ⟨r, hr⟩ ⟨hi, hle⟩ ⟨Bx, hBx, bX, rfl⟩ hlt2
    obtain ⟨hz1, hz2, hz3⟩ := HLies.out W hi.below
    have HI : Hid (EachI w.heap.size most w W0 pre W) := hi
    have HPx : Hid (pre ++ [x] <+: idsOf out → hasB l x.1 x.2 = true ∧ lessI (lastId pre).1 (lastId pre).2 x.1 x.2 = true ∧ lessI x.1 x.2 (lastId pre).1 (lastId pre).2 = false) := fun h => each_next HF.out h
    have HKc : Hid (∀ W3, Touch (fun _ => False) W W3 → (W3.cell? ⟨Bx, 0, none⟩ = some (.int .u64 x.1) ∧ W3.cell? ⟨Bx, 1, none⟩ = some (.int .u64 x.2)) ∧ (W3.cell? ⟨w.heap.size + 1 + 1 + 1, 0, none⟩ = some (.int .u64 (lastId pre).1) ∧ W3.cell? ⟨w.heap.size + 1 + 1 + 1, 1, none⟩ = some (.int .u64 (lastId pre).2)) ∧ W3.cell? ⟨w.heap.size + 1 + 1 + 1 + 1, 0, none⟩ = some (.int .i64 (pre.length : Int)) ∧ W3.cell? ⟨w.heap.size + 1, 0, none⟩ = some (.int .i64 (most : Int)) ∧ W3.cell? ⟨w.heap.size + 1 + 1, 0, none⟩ = some (.bool false) ∧ (W3.frozen? ⟨w.heap.size + 1 + 1 + 1, 0, none⟩ = false ∧ W3.frozen? ⟨w.heap.size + 1 + 1 + 1, 1, none⟩ = false ∧ W3.frozen? ⟨w.heap.size + 1 + 1 + 1 + 1, 0, none⟩ = false ∧ W3.frozen? ⟨w.heap.size + 1 + 1, 0, none⟩ = false)) := fun W3 t => by
      have q1 := (t.block _ (lt_of_heap bX) id).trans bX
      have q2 : W3.heap[w.heap.size + 1 + 1 + 1]? = _ := (t.block _ (lt_of_heap HI.out.last) id).trans HI.out.last
      have q3 : W3.heap[w.heap.size + 1 + 1 + 1 + 1]? = _ := (t.block _ (lt_of_heap (show W.heap[w.heap.size + 4]? = _ from HI.out.cnt)) id).trans HI.out.cnt
      have q4 : W3.heap[w.heap.size + 1 + 1]? = _ := (t.block _ (lt_of_heap (show W.heap[w.heap.size + 2]? = _ from HI.out.res)) id).trans HI.out.res
      have q5 := (HLies.out W3 (HI.out.below.trans (t.below (Nat.le_trans (by omega) HI.out.below.size) (fun _ _ => id)))).2.2
      exact ⟨⟨by rw [cell_of_block q1]; rfl, by rw [cell_of_block q1]; rfl⟩, ⟨by rw [cell_of_block q2]; rfl, by rw [cell_of_block q2]; rfl⟩, by rw [cell_of_block q3]; rfl, q5, by rw [cell_of_block q4]; rfl, free_of_block q2, free_of_block q2, free_of_block q3, free_of_block q4⟩
    have HSt : Hid (∀ W3, Touch (fun _ => False) W W3 → _) := fun W3 t => HI.out.step sz0 t x
    have HBad : Hid (∀ W3, Touch (fun _ => False) W W3 → KeepsFrom W0.heap.size W (W3.setCell ⟨w.heap.size + 1 + 1, 0, none⟩ (.bool false))) := fun W3 t => (t.keepsOthers.trans (KeepsOthers.setCell _ _ _)).from _
    have C1 := has_any l _ x.1 x.2 W hz1 (by omega)
    have L1 : Hid (∀ W3, Touch (fun _ => False) W W3 → Calls Try.prog 28 #[idV (lastId pre).1 (lastId pre).2, idV x.1 x.2] W3 fun e w' => e = .returned (.bool (lessI (lastId pre).1 (lastId pre).2 x.1 x.2)) ∧ Touch (fun _ => False) W w') := fun W3 t => (less_any _ _ _ _ W3).mono fun e w' q => ⟨q.1, by rw [q.2]; exact (t.alloc _).alloc _⟩
    have L2 : Hid (∀ W3, Touch (fun _ => False) W W3 → Calls Try.prog 28 #[idV x.1 x.2, idV (lastId pre).1 (lastId pre).2] W3 fun e w' => e = .returned (.bool (lessI x.1 x.2 (lastId pre).1 (lastId pre).2)) ∧ Touch (fun _ => False) W w') := fun W3 t => (less_any _ _ _ _ W3).mono fun e w' q => ⟨q.1, by rw [q.2]; exact (t.alloc _).alloc _⟩
    obtain ⟨⟨k0, k1⟩, ⟨k2, k3⟩, k4, k5, k6, f0, f1, f2, f3⟩ := HKc.out W (Touch.refl _ _)
    clear hi hz1 e0 e1 e2 e3 e4 g0 g1 g2 g3 g4 bX hfr hF hlt t0 t1 t2 hBc hSo h1 h2 h3 h4 HSW
    generalize hasB l x.1 x.2 = hb at *
    generalize lessI (lastId pre).1 (lastId pre).2 x.1 x.2 = la at *
    generalize lessI x.1 x.2 (lastId pre).1 (lastId pre).2 = lb at *
    obtain ⟨xc, xk⟩ := x
    generalize (lastId pre).1 = yc at *
    generalize (lastId pre).2 = yk at *
    simp only at *
    cases hb with
    | false =>
      gi_wp2
      refine ⟨trivial, (CallsIn.inRound q (callsIn_wide.2 C1)).mono ?_⟩
      rintro e W3 ⟨rfl, t3⟩
      have HT3 : Hid (Touch (fun _ => False) W W3) := t3
      obtain ⟨_, _, _, _, r6, _, _, _, s3⟩ := HKc.out W3 t3
      clear t3
      gi_wp2
      refine ⟨trivial, ?_⟩
      gi_wp2
      refine ⟨trivial, ?_⟩
      gi_wp2
      exact ⟨HBad.out _ HT3.out, .inl fun h => by have := (HPx.out h).1; cases this⟩
    | true =>
      gi_wp2
      refine ⟨trivial, (CallsIn.inRound q (callsIn_wide.2 C1)).mono ?_⟩
      rintro e W3 ⟨rfl, t3⟩
      obtain ⟨⟨p0, p1⟩, ⟨p2, p3⟩, p4, p5, p6, q0, q1, q2, q3⟩ := HKc.out W3 t3
      have C2 := L1.out W3 t3
      clear t3
      cases la with
      | false =>
        gi_wp2
        refine ⟨trivial, (CallsIn.inRound q (callsIn_wide.2 C2)).mono ?_⟩
        rintro e W4 ⟨rfl, t4⟩
        have HT4 : Hid (Touch (fun _ => False) W W4) := t4
        obtain ⟨_, _, _, _, r6, _, _, _, s3⟩ := HKc.out W4 t4
        clear t4
        gi_wp2
        refine ⟨trivial, ?_⟩
        gi_wp2
        exact ⟨HBad.out _ HT4.out, .inl fun h => by have := (HPx.out h).2.1; cases this⟩
      | true =>
        gi_wp2
        refine ⟨trivial, (CallsIn.inRound q (callsIn_wide.2 C2)).mono ?_⟩
        rintro e W4 ⟨rfl, t4⟩
        obtain ⟨⟨u0, u1⟩, ⟨u2, u3⟩, u4, u5, u6, y0, y1, y2, y3⟩ := HKc.out W4 t4
        have C3 := L2.out W4 t4
        clear t4
        cases lb with
        | true =>
          gi_wp2
          refine ⟨trivial, (CallsIn.inRound q (callsIn_wide.2 C3)).mono ?_⟩
          rintro e W5 ⟨rfl, t5⟩
          have HT5 : Hid (Touch (fun _ => False) W W5) := t5
          obtain ⟨_, _, _, _, r6, _, _, _, s3⟩ := HKc.out W5 t5
          clear t5
          gi_wp2
          exact ⟨HBad.out _ HT5.out, .inl fun h => by have := (HPx.out h).2.2; cases this⟩
        | false =>
          gi_wp2
          refine ⟨trivial, (CallsIn.inRound q (callsIn_wide.2 C3)).mono ?_⟩
          rintro e W5 ⟨rfl, t5⟩
          have HT5 : Hid (Touch (fun _ => False) W W5) := t5
          obtain ⟨⟨z0, z1⟩, ⟨z2, z3⟩, z4, z5, z6, a0, a1, a2, a3⟩ := HKc.out W5 t5
          clear t5
          have hpl : pre.length < 300 := by omega
          have hs5 := HSt.out W5 HT5.out
          have HS5 : Hid _ := hs5
          clear hs5
          by_cases hbr : most < pre.length + 1
          · gi_wp2
            exact ⟨HS5.out.2.1.from _, .inr ⟨rfl, HS5.out.1, by simp; omega⟩⟩
          · gi_wp2
            exact ⟨HS5.out.2.1.from _, HS5.out.2.2, HS5.out.1, by simp; omega⟩
  case done =>
    rintro D ys W hD hys ⟨hi, hle⟩ hK
    obtain ⟨pre, hpe⟩ : ∃ pre, pre = ys := ⟨_, rfl⟩
    subst hpe
    have hmin : min ((idsOf out).length : Int) ((most : Int) + 1) = (pre.length : Int) := by rw [← hys]; omega
    have hpl : pre.length < 400 := by omega
    clear hys
    have HIw : Hid (EachI w.heap.size most w W0 pre W) := hi
    have HD : Hid (w.heap.size ≤ D) := by rw [Hid]; omega
    obtain ⟨hz1, hz2, hz3⟩ := HLies.out W hi.below
    have HZ : Hid (SlR W (.slice ao l.length cap) l) := hz1
    have HCo : Hid (∀ W', Touch (fun _ => False) W W' → Calls Try.prog 18 #[.slice ao l.length cap] W' fun e w' => e = .returned (u64 ((idsOf out).length : Int)) ∧ Touch (fun _ => False) W w') := fun W' t => by
      refine (count_any l _ W' (HZ.out.touch t) (by omega)).mono ?_
      rintro e w' ⟨o', rfl, f', _, t'⟩
      obtain rfl : out = o' := HF.out.same f'
      rw [idsOf_len out HF.out.oks]
      exact ⟨rfl, t.trans t'⟩
    have HTW : Hid (Below w.heap.size w W) := (HTw.out.below (Nat.le_refl _) (fun _ _ => id)).trans (hi.below.mono (by omega))
    have k4 : ∀ W', Touch (fun _ => False) W W' → (W'.cell? ⟨w.heap.size + 1 + 1 + 1 + 1, 0, none⟩ = some (.int .i64 (pre.length : Int)) ∧ W'.cell? ⟨w.heap.size, 0, none⟩ = some (.slice ao l.length cap) ∧ W'.cell? ⟨w.heap.size + 1, 0, none⟩ = some (.int .i64 (most : Int))) ∧ W'.heap[w.heap.size + 1 + 1]? = some (.cells #[.bool false] 4) := fun W' t => by
      have q3 : W'.heap[w.heap.size + 1 + 1 + 1 + 1]? = _ := (t.block _ (lt_of_heap (show W.heap[w.heap.size + 4]? = _ from HIw.out.cnt)) id).trans HIw.out.cnt
      have q4 : W'.heap[w.heap.size + 1 + 1]? = _ := (t.block _ (lt_of_heap (show W.heap[w.heap.size + 2]? = _ from HIw.out.res)) id).trans HIw.out.res
      have hz := HLies.out W' (HIw.out.below.trans (t.below (Nat.le_trans (by omega) HIw.out.below.size) (fun _ _ => id)))
      exact ⟨⟨by rw [cell_of_block q3]; rfl, hz.2.1, hz.2.2⟩, q4⟩
    have K4 : Hid _ := k4
    have S0 := (k4 W (Touch.refl _ _)).1
    have S1 := (k4 W.drew (Touch.refl _ _).drew).1
    have C1 := HCo.out W (Touch.refl _ _)
    have C2 := HCo.out W.drew (Touch.refl _ _).drew
    have a1 : IntKind.u64.wrap (pre.length : Int) = (pre.length : Int) := by simp [IntKind.wrap, IntKind.bits, IntKind.signed]; omega
    have a2 : IntKind.u64.wrap (most : Int) = (most : Int) := by simp [IntKind.wrap, IntKind.bits, IntKind.signed]; omega
    have a3 : IntKind.u64.wrap ((most : Int) + 1) = (most : Int) + 1 := by simp [IntKind.wrap, IntKind.bits, IntKind.signed]; omega
    clear hi hz1 hz2 hz3 e0 e1 e2 e3 e4 g0 g1 g2 g3 g4 hfr hF hlt t0 t1 t2 hBc hSo h1 h2 h3 h4 HSW k4
    generalize ((idsOf out).length : Int) = mm at *
    gi_wp2
    refine wpIn_wide.2 ?_
    go_region_held3 (fun W' => W'.cell? ⟨w.heap.size + 1 + 1 + 1 + 1, 0, none⟩ = some (.int .i64 (pre.length : Int)) ∧ W'.cell? ⟨w.heap.size, 0, none⟩ = some (.slice ao l.length cap) ∧ W'.cell? ⟨w.heap.size + 1, 0, none⟩ = some (.int .i64 (most : Int))) (first | assumption)
      (first | (go_at_call 18; first | ((with_reducible refine C1.mono ?_); rintro e w5 ⟨rfl, t5⟩; have S5 := (K4.out w5 t5).1; have S6 := three_keep w.heap.size w5 (.bool true) (K4.out w5 t5).1; have r0 : w5.cell? ⟨w.heap.size + 1 + 1, 0, none⟩ = some (.bool false) := (by rw [cell_of_block (K4.out w5 t5).2]; rfl); have rf : w5.frozen? ⟨w.heap.size + 1 + 1, 0, none⟩ = false := free_of_block (K4.out w5 t5).2; have T5 : Hid (Touch (fun _ => False) W w5) := t5; clear t5) | ((with_reducible refine C2.mono ?_); rintro e w5 ⟨rfl, t5⟩; have S5 := (K4.out w5 t5).1; have S6 := three_keep w.heap.size w5 (.bool true) (K4.out w5 t5).1; have r0 : w5.cell? ⟨w.heap.size + 1 + 1, 0, none⟩ = some (.bool false) := (by rw [cell_of_block (K4.out w5 t5).2]; rfl); have rf : w5.frozen? ⟨w.heap.size + 1 + 1, 0, none⟩ = false := free_of_block (K4.out w5 t5).2; have T5 : Hid (Touch (fun _ => False) W w5) := t5; clear t5)))
    have hK5 := (T5.out.block D (lt_of_heap hK) id).trans hK
    have hK' := (KeepsOthers.setCell w5 ⟨w.heap.size + 1 + 1, 0, none⟩ (.bool true)).same D _ hK5 rfl
    have HBX : Hid (Boxed w5 (w.heap.size + 1 + 1) 4 (.bool false)) := (K4.out w5 T5.out).2
    clear S0 S1 S5 S6 C1 C2
    gi_wp2
    refine ⟨by simp, .inl ⟨_, _, rfl, run_takeDeferred hK', ?_⟩⟩
    have hc5 := cell_kept (HBX.out.set (.bool true)).cell (grownBy_putObj' _ D (.deferred none)) (fun r e => by cases e; exact ⟨_, hK', rfl⟩)
    refine ⟨.bool true, ?_, rfl, Touch.ofBelow (((HTW.out.trans (T5.out.below (by have := HTW.out.size; omega) (fun _ _ => id))).setCell (p := ⟨w.heap.size + 1 + 1, 0, none⟩) (by simp only; omega) _).trans (belowK_b (w := w) (Nat.le_refl _) _ D _ _ HD.out hK' rfl rfl))⟩
    simp [results, Try.f27, go_sem, hc5]
  case stop =>
    rintro D q pre W hD hpre hx hK
    rcases hx with hx | ⟨rfl, hi, hpl0⟩
    · exact absurd hpre hx
    have hmin : min ((idsOf out).length : Int) ((most : Int) + 1) = (pre.length : Int) := by have := hpre.length_le; omega
    have hpl : pre.length < 400 := by omega
    clear hpre hpl0
    have HIw : Hid (EachI w.heap.size most w W0 pre W) := hi
    have HD : Hid (w.heap.size ≤ D) := by rw [Hid]; omega
    obtain ⟨hz1, hz2, hz3⟩ := HLies.out W hi.below
    have HZ : Hid (SlR W (.slice ao l.length cap) l) := hz1
    have HCo : Hid (∀ W', Touch (fun _ => False) W W' → Calls Try.prog 18 #[.slice ao l.length cap] W' fun e w' => e = .returned (u64 ((idsOf out).length : Int)) ∧ Touch (fun _ => False) W w') := fun W' t => by
      refine (count_any l _ W' (HZ.out.touch t) (by omega)).mono ?_
      rintro e w' ⟨o', rfl, f', _, t'⟩
      obtain rfl : out = o' := HF.out.same f'
      rw [idsOf_len out HF.out.oks]
      exact ⟨rfl, t.trans t'⟩
    have HTW : Hid (Below w.heap.size w W) := (HTw.out.below (Nat.le_refl _) (fun _ _ => id)).trans (hi.below.mono (by omega))
    have k4 : ∀ W', Touch (fun _ => False) W W' → (W'.cell? ⟨w.heap.size + 1 + 1 + 1 + 1, 0, none⟩ = some (.int .i64 (pre.length : Int)) ∧ W'.cell? ⟨w.heap.size, 0, none⟩ = some (.slice ao l.length cap) ∧ W'.cell? ⟨w.heap.size + 1, 0, none⟩ = some (.int .i64 (most : Int))) ∧ W'.heap[w.heap.size + 1 + 1]? = some (.cells #[.bool false] 4) := fun W' t => by
      have q3 : W'.heap[w.heap.size + 1 + 1 + 1 + 1]? = _ := (t.block _ (lt_of_heap (show W.heap[w.heap.size + 4]? = _ from HIw.out.cnt)) id).trans HIw.out.cnt
      have q4 : W'.heap[w.heap.size + 1 + 1]? = _ := (t.block _ (lt_of_heap (show W.heap[w.heap.size + 2]? = _ from HIw.out.res)) id).trans HIw.out.res
      have hz := HLies.out W' (HIw.out.below.trans (t.below (Nat.le_trans (by omega) HIw.out.below.size) (fun _ _ => id)))
      exact ⟨⟨by rw [cell_of_block q3]; rfl, hz.2.1, hz.2.2⟩, q4⟩
    have K4 : Hid _ := k4
    have S0 := (k4 W (Touch.refl _ _)).1
    have S1 := (k4 W.drew (Touch.refl _ _).drew).1
    have C1 := HCo.out W (Touch.refl _ _)
    have C2 := HCo.out W.drew (Touch.refl _ _).drew
    have a1 : IntKind.u64.wrap (pre.length : Int) = (pre.length : Int) := by simp [IntKind.wrap, IntKind.bits, IntKind.signed]; omega
    have a2 : IntKind.u64.wrap (most : Int) = (most : Int) := by simp [IntKind.wrap, IntKind.bits, IntKind.signed]; omega
    have a3 : IntKind.u64.wrap ((most : Int) + 1) = (most : Int) + 1 := by simp [IntKind.wrap, IntKind.bits, IntKind.signed]; omega
    clear hi hz1 hz2 hz3 e0 e1 e2 e3 e4 g0 g1 g2 g3 g4 hfr hF hlt t0 t1 t2 hBc hSo h1 h2 h3 h4 HSW k4
    generalize ((idsOf out).length : Int) = mm at *
    gi_wp2
    refine wpIn_wide.2 ?_
    go_region_held3 (fun W' => W'.cell? ⟨w.heap.size + 1 + 1 + 1 + 1, 0, none⟩ = some (.int .i64 (pre.length : Int)) ∧ W'.cell? ⟨w.heap.size, 0, none⟩ = some (.slice ao l.length cap) ∧ W'.cell? ⟨w.heap.size + 1, 0, none⟩ = some (.int .i64 (most : Int))) (first | assumption)
      (first | (go_at_call 18; first | ((with_reducible refine C1.mono ?_); rintro e w5 ⟨rfl, t5⟩; have S5 := (K4.out w5 t5).1; have S6 := three_keep w.heap.size w5 (.bool true) (K4.out w5 t5).1; have r0 : w5.cell? ⟨w.heap.size + 1 + 1, 0, none⟩ = some (.bool false) := (by rw [cell_of_block (K4.out w5 t5).2]; rfl); have rf : w5.frozen? ⟨w.heap.size + 1 + 1, 0, none⟩ = false := free_of_block (K4.out w5 t5).2; have T5 : Hid (Touch (fun _ => False) W w5) := t5; clear t5) | ((with_reducible refine C2.mono ?_); rintro e w5 ⟨rfl, t5⟩; have S5 := (K4.out w5 t5).1; have S6 := three_keep w.heap.size w5 (.bool true) (K4.out w5 t5).1; have r0 : w5.cell? ⟨w.heap.size + 1 + 1, 0, none⟩ = some (.bool false) := (by rw [cell_of_block (K4.out w5 t5).2]; rfl); have rf : w5.frozen? ⟨w.heap.size + 1 + 1, 0, none⟩ = false := free_of_block (K4.out w5 t5).2; have T5 : Hid (Touch (fun _ => False) W w5) := t5; clear t5)))
    have hK5 := (T5.out.block D (lt_of_heap hK) id).trans hK
    have hK' := (KeepsOthers.setCell w5 ⟨w.heap.size + 1 + 1, 0, none⟩ (.bool true)).same D _ hK5 rfl
    have HBX : Hid (Boxed w5 (w.heap.size + 1 + 1) 4 (.bool false)) := (K4.out w5 T5.out).2
    clear S0 S1 S5 S6 C1 C2
    gi_wp2
    refine ⟨by simp, .inl ⟨_, _, rfl, run_takeDeferred hK', ?_⟩⟩
    have hc5 := cell_kept (HBX.out.set (.bool true)).cell (grownBy_putObj' _ D (.deferred none)) (fun r e => by cases e; exact ⟨_, hK', rfl⟩)
    refine ⟨.bool true, ?_, rfl, Touch.ofBelow (((HTW.out.trans (T5.out.below (by have := HTW.out.size; omega) (fun _ _ => id))).setCell (p := ⟨w.heap.size + 1 + 1, 0, none⟩) (by simp only; omega) _).trans (belowK_b (w := w) (Nat.le_refl _) _ D _ _ HD.out hK' rfl rfl))⟩
    simp [results, Try.f27, go_sem, hc5]
end Go.Proofs.Ytipncloegjcjfaa
