/- The contract of ids.Has. -/
import Derived.Test.YtodpdcflbnomgaaGreatOnlyR
namespace Go.Proofs.YtodpdcflbnomgaaGreat
open Go.RowKit Go.Shelf
set_option linter.unusedVariables false
set_option linter.unusedSimpArgs false
set_option maxRecDepth 100000
attribute [local go_sem] Oper.semAt_some

def hasB (l : List Rg) (c k : Int) : Bool := (l.filter Rg.ok).any fun r => r.has c k
theorem hasB_turn (l : List Rg) (c k : Int) : hasB l c k = decide (turnOf (tns l) c k = 1) := by
  unfold hasB
  induction l with
  | nil => rfl
  | cons x l ih =>
    have hp := turnOf_pos (tns l) c k
    have hz : turnOf (tns l) c k = 0 ∨ turnOf (tns l) c k = 1 := by
      clear ih hp
      induction l with
      | nil => exact .inl rfl
      | cons x l ih =>
        rw [tns_cons, turnOf]
        have : x.tn.n = 1 := rfl
        split
        · rw [this]; omega
        · exact ih
    rw [tns_cons, turnOf, Rg.tn_ok]
    by_cases h : x.ok = true
    · rw [List.filter_cons_of_pos h, List.any_cons, ih, h]
      simp only [Bool.true_and, Rg.tn_has]
      have : x.tn.n = 1 := rfl
      by_cases g : x.has c k = true
      · rw [if_pos g, g, this]; simp; omega
      · rw [if_neg g]; simp [g]
    · rw [List.filter_cons_of_neg h, ih]; simp [h]
set_option maxHeartbeats 4000000 in
theorem has_any (l : List Rg) (v : Value) (c k : Int) (w : World) (hs : SlR w v l) (hll : l.length ≤ 1073741824) :
    Calls Tryz.prog 47 #[v, idV c k] w fun e w' => e = .returned (.bool (hasB l c k)) ∧ Touch (fun _ => False) w w' := by
  have hv1 : v.oneCell' = true := by obtain ⟨ao, cap, rfl, _⟩ := hs; rfl
  have HO := fun W => onlyR_any v (.func (.func 41) #[] #[]) W hv1 rfl
  obtain ⟨ao, cap, rfl, h1, h2, h3, h4⟩ := hs
  refine (callsIn_wide (n := 3)).1 ?_
  refine callsIn_of_wp_marks Tryz.func47 rfl trivial ?_ rfl
  simp only [Tryz.ntmps47, List.size_toArray, List.length_cons, List.length_nil, Nat.reduceAdd, Nat.reduceSub, Array.replicate_succ, Array.replicate_zero, List.push_toArray, List.append_toArray, List.nil_append, List.cons_append]
  gi_wp2_with fail
  refine ⟨trivial, (callsIn_wide.2 (HO _)).mono ?_⟩
  rintro e w1 ⟨rfl, rfl⟩
  clear HO
  obtain ⟨W0, hW0⟩ : ∃ W0, (((w.alloc (idO c k)).alloc (.cells #[.bool false] 4)).alloc (.cells #[.slice ao l.length cap] 29)).alloc (.cells #[.func (.func 41) #[] #[]] 88) = W0 := ⟨_, rfl⟩
  have hsz : W0.heap.size = w.heap.size + 4 := by rw [← hW0]; simp
  have t0 : Touch (fun _ => False) w W0 := by rw [← hW0]; exact ((((Touch.refl _ w).alloc _).alloc _).alloc _).alloc _
  have b0 : W0.heap[w.heap.size]? = some (idO c k) := by
    rw [← hW0]; exact (Below.heap_alloc _ _ _ (by simp; omega)).trans ((Below.heap_alloc _ _ _ (by simp; omega)).trans ((Below.heap_alloc _ _ _ (by simp)).trans (heap_alloc_new w _)))
  have b1 : W0.heap[w.heap.size + 1]? = some (.cells #[.bool false] 4) := by
    have := heap_alloc_new (w.alloc (idO c k)) (.cells #[.bool false] 4)
    rw [World.size_alloc] at this
    rw [← hW0]; exact (Below.heap_alloc _ _ _ (by simp)).trans ((Below.heap_alloc _ _ _ (by simp)).trans this)
  have b2 : W0.heap[w.heap.size + 2]? = some (.cells #[.slice ao l.length cap] 29) := by
    have := heap_alloc_new ((w.alloc (idO c k)).alloc (.cells #[.bool false] 4)) (.cells #[.slice ao l.length cap] 29)
    rw [World.size_alloc, World.size_alloc] at this
    rw [← hW0]; exact (Below.heap_alloc _ _ _ (by simp)).trans this
  have b3 : W0.heap[w.heap.size + 3]? = some (.cells #[.func (.func 41) #[] #[]] 88) := by
    have := heap_alloc_new (((w.alloc (idO c k)).alloc (.cells #[.bool false] 4)).alloc (.cells #[.slice ao l.length cap] 29)) (.cells #[.func (.func 41) #[] #[]] 88)
    rw [World.size_alloc, World.size_alloc, World.size_alloc] at this
    rw [← hW0]; exact this
  have hlt : ∀ b o, l ≠ [] → ao = some ⟨b, o, none⟩ → b < w.heap.size := fun b o hne e => by
    obtain ⟨b', o', cap', e', _, _, hb, _⟩ := SlR.row (w := w) (v := .slice ao l.length cap) ⟨ao, cap, rfl, h1, h2, h3, h4⟩ hne
    rw [e] at e'; simp only [Value.slice.injEq, Option.some.injEq, Addr.mk.injEq] at e'
    obtain ⟨⟨rfl, _, _⟩, _, _⟩ := e'
    exact hb
  have HB : Hid (Below w.heap.size w W0) := t0.below (Nat.le_refl _) (fun _ _ => id)
  gi_wp2
  try rw [hW0]
  refine wpIn_rangeFunc_ownH rfl (by decide) (gf := 63) (lb := #[.pointer (some ⟨w.heap.size + 1 + 1, 0, none⟩), .pointer (some ⟨w.heap.size + 1 + 1 + 1, 0, none⟩)]) rfl trivial (enters_of Tryz.func63 (by kernel_rfl) rfl)
    (onlyR_stops 2 W0.heap.size (w.heap.size + 2) (w.heap.size + 3) 41 Rg.ok ao cap l W0 (Nat.le_refl _) (by omega) (by omega) (by rw [cell_of_block b2]; rfl) (by rw [cell_of_block b3]; rfl) (h4.touch t0) (fun b o hne e => by have := hlt b o hne e; omega) (by omega) (enters_of Tryz.func41 (by kernel_rfl) rfl) (fun r W => (rightRange_any r W).mono fun e w' ⟨h1, h2⟩ => ⟨h1, by rw [h2]; exact (Grows.refl W).alloc _⟩))
    belowK_t (belowK_b (Nat.le_refl _)) (Below.refl _ _) (fun _ => rfl)
    (fun pre W => (pre.any fun r => r.has c k) = false ∧ Below W0.heap.size W0 W)
    (fun q pre W => (q = .ret ∧ (pre.any fun r => r.has c k) = true ∧ Boxed W (w.heap.size + 1) 4 (.bool true)) ∧ Below w.heap.size w W)
    (OwnFrom.and (fun _ _ _ _ h _ _ => h) (ownFrom_below (Nat.le_refl _) (Nat.le_refl _)))
    (fun q => OwnFrom.and (Own.from (fun s X Y row hs hg hr => ⟨hs.1, hs.2.1, boxed_own (β := Unit) (w.heap.size + 1) 4 (fun _ => .bool true) () X Y row hs.2.2 hg hr⟩) _) (ownFrom_below (Nat.le_refl _) (by omega)))
    ⟨rfl, Below.refl _ _⟩
    (fun x a' W => ∃ Bx, W.heap[Bx]? = some (rgO x) ∧ a' = { tmps := #[.slice ao l.length cap, idV c k, undef, .pointer (some ⟨w.heap.size, 0, none⟩), .pointer (some ⟨w.heap.size + 1, 0, none⟩), .pointer (some ⟨Bx, 0, none⟩), .slice ao l.length cap, .func (.func 63) #[] #[.pointer (some ⟨w.heap.size + 1 + 1, 0, none⟩), .pointer (some ⟨w.heap.size + 1 + 1 + 1, 0, none⟩)], rgV x, undef, undef, undef], defers := [] })
    (fun x a' => ?hAx) ?assign ?body ?done ?stop
  case hAx =>
    rintro s W W' row ⟨Bx, h2, h3⟩ hg hr
    exact ⟨Bx, blk_own (β := Unit) Bx _ _ s W W' row h2 hg (fun r e => (hr r e).2), h3⟩
  case assign =>
    rintro l pre x W K ⟨hq, hB⟩ hK
    clear hW0
    gi_wp2
    exact hK _ _ ((KeepsOthers.alloc _ _).from _) ((Below.refl _ W).alloc hB.size _) ⟨hq, hB.alloc hB.size _⟩ ⟨W.heap.size, heap_alloc_new W _, rfl⟩
  case body =>
    rintro ll pre x a' W hl ⟨r, hr⟩ ⟨hq, hB⟩ ⟨Bx, bX, rfl⟩ hlt2
    clear hW0
    have x0 : W.cell? ⟨Bx, 0, none⟩ = some (.int .u64 x.c) := by rw [cell_of_block bX]; rfl
    have x1 : W.cell? ⟨Bx, 1, none⟩ = some (.int .u64 x.f) := by rw [cell_of_block bX]; rfl
    have x2 : W.cell? ⟨Bx, 2, none⟩ = some (.int .u64 x.t) := by rw [cell_of_block bX]; rfl
    have bI : W.heap[w.heap.size]? = some (idO c k) := (hB.block _ (by omega)).trans b0
    have i0 : W.cell? ⟨w.heap.size, 0, none⟩ = some (.int .u64 c) := by rw [cell_of_block bI]; rfl
    have i1 : W.cell? ⟨w.heap.size, 1, none⟩ = some (.int .u64 k) := by rw [cell_of_block bI]; rfl
    have bR : W.heap[w.heap.size + 1]? = some (.cells #[.bool false] 4) := (hB.block _ (by omega)).trans b1
    have HWi := within_any x c k W
    have HQ : Hid ((pre.any fun r => r.has c k) = false ∧ Below W0.heap.size W0 W ∧ W.heap[w.heap.size + 1]? = some (.cells #[.bool false] 4) ∧ W0.heap.size = w.heap.size + 4 ∧ Below w.heap.size w W0) := ⟨hq, hB, bR, hsz, HB.out⟩
    have rR : ((W.alloc (rgO x)).alloc (idO c k)).heap[w.heap.size + 1]? = some (.cells #[.bool false] 4) := (Below.heap_alloc _ _ _ (by have := lt_of_heap bR; simp; omega)).trans ((Below.heap_alloc _ _ _ (lt_of_heap bR)).trans bR)
    have r0 : ((W.alloc (rgO x)).alloc (idO c k)).cell? ⟨w.heap.size + 1, 0, none⟩ = some (.bool false) := by rw [cell_of_block rR]; rfl
    have rf : ((W.alloc (rgO x)).alloc (idO c k)).frozen? ⟨w.heap.size + 1, 0, none⟩ = false := free_of_block rR
    have HRR : Hid (((W.alloc (rgO x)).alloc (idO c k)).heap[w.heap.size + 1]? = some (.cells #[.bool false] 4)) := rR
    have HAny : Hid ((pre ++ [x]).any (fun r => r.has c k) = x.has c k) := by rw [Hid, List.any_append, hq]; simp
    clear hq hB bI bR b0 b1 b2 b3 t0 hsz bX hlt2 hlt rR h1 h2 h3 h4
    generalize x.has c k = hb at *
    obtain ⟨xc, xf, xt⟩ := x
    simp only at *
    gi_wp2
    refine ⟨trivial, (CallsIn.inRound ll (callsIn_wide.2 HWi)).mono ?_⟩
    rintro e W1 ⟨rfl, hW1⟩
    subst hW1
    clear HWi
    cases hb with
    | false =>
      gi_wp2
      exact ⟨((KeepsOthers.alloc _ _).trans (KeepsOthers.alloc _ _)).from _, ((Below.refl _ W).alloc HQ.out.2.1.size _).alloc (Nat.le_trans HQ.out.2.1.size (by simp)) _, HAny.out, (HQ.out.2.1.alloc HQ.out.2.1.size _).alloc (Nat.le_trans HQ.out.2.1.size (by simp)) _⟩
    | true =>
      have HEx : Hid (Boxed (((W.alloc (rgO ⟨xc, xf, xt⟩)).alloc (idO c k)).setCell ⟨w.heap.size + 1, 0, none⟩ (.bool true)) (w.heap.size + 1) 4 (.bool true) ∧ Below w.heap.size w (((W.alloc (rgO ⟨xc, xf, xt⟩)).alloc (idO c k)).setCell ⟨w.heap.size + 1, 0, none⟩ (.bool true)) ∧ KeepsFrom W0.heap.size W (((W.alloc (rgO ⟨xc, xf, xt⟩)).alloc (idO c k)).setCell ⟨w.heap.size + 1, 0, none⟩ (.bool true))) := by
        have h5 : Below w.heap.size W0 W := HQ.out.2.1.mono (by have := HQ.out.2.2.2.1; omega)
        have hz : w.heap.size ≤ W.heap.size := Nat.le_trans (by have := HQ.out.2.2.2.1; omega) HQ.out.2.1.size
        refine ⟨Boxed.set _ (show Boxed _ _ _ _ from HRR.out), ?_, (((KeepsOthers.alloc _ _).trans (KeepsOthers.alloc _ _)).trans (KeepsOthers.setCell _ _ _)).from _⟩
        exact (((HQ.out.2.2.2.2.trans h5).alloc hz _).alloc (by simp; omega) _).setCell (p := ⟨w.heap.size + 1, 0, none⟩) (by simp only; omega) _
      gi_wp2
      exact ⟨HEx.out.2.2, ⟨rfl, HAny.out, HEx.out.1⟩, HEx.out.2.1⟩
  case done =>
    rintro D ys W hD rfl ⟨hq, hB⟩ hK
    have bR : W.heap[w.heap.size + 1]? = some (.cells #[.bool false] 4) := (hB.block _ (by omega)).trans b1
    have r0 : W.cell? ⟨w.heap.size + 1, 0, none⟩ = some (.bool false) := by rw [cell_of_block bR]; rfl
    have rf : W.frozen? ⟨w.heap.size + 1, 0, none⟩ = false := free_of_block bR
    have HBw : Hid (Below w.heap.size w W) := HB.out.trans (hB.mono (by omega))
    have HD : Hid (w.heap.size ≤ D) := by rw [Hid]; omega
    have HA : Hid (hasB l c k = false) := hq
    have HBX : Hid (Boxed W (w.heap.size + 1) 4 (.bool false)) := bR
    clear hW0 hq hB bR
    gi_wp2
    have hK' := (KeepsOthers.setCell W ⟨w.heap.size + 1, 0, none⟩ (.bool false)).same D _ hK rfl
    refine ⟨by simp, .inl ⟨_, _, rfl, run_takeDeferred hK', ?_⟩⟩
    have hc5 := cell_kept (HBX.out.set (.bool false)).cell (grownBy_putObj' _ D (.deferred none)) (fun r e => by cases e; exact ⟨_, hK', rfl⟩)
    refine ⟨.bool false, ?_, by rw [HA.out], Touch.ofBelow ((HBw.out.setCell (p := ⟨w.heap.size + 1, 0, none⟩) (by simp only; omega) _).trans (belowK_b (w := w) (Nat.le_refl _) _ D _ _ HD.out hK' rfl rfl))⟩
    simp [results, Tryz.f47, go_sem, hc5]
  case stop =>
    rintro D q pre W hD hpre ⟨⟨rfl, hy, hbx⟩, hB⟩ hK
    have r0 := hbx.cell
    have HA : Hid (hasB l c k = true) := by
      obtain ⟨rest, e⟩ := hpre
      show (l.filter Rg.ok).any _ = true
      rw [← e, List.any_append, hy]; rfl
    have HD : Hid (w.heap.size ≤ D) := by rw [Hid]; omega
    clear hW0 hy hpre
    gi_wp2
    refine ⟨by simp, .inl ⟨_, _, rfl, run_takeDeferred hK, ?_⟩⟩
    have hc5 := cell_kept hbx.cell (grownBy_putObj' _ D (.deferred none)) (fun r e => by cases e; exact ⟨_, hK, rfl⟩)
    refine ⟨.bool true, ?_, by rw [HA.out], Touch.ofBelow (hB.trans (belowK_b (w := w) (Nat.le_refl _) _ D _ _ HD.out hK rfl rfl))⟩
    simp [results, Tryz.f47, go_sem, hc5]
end Go.Proofs.YtodpdcflbnomgaaGreat
