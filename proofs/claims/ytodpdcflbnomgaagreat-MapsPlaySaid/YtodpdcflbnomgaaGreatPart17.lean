/- The document's Maps in memory: Is. -/
import Derived.Test.YtodpdcflbnomgaaGreatPart16
import Derived.Test.YtodpdcflbnomgaaGreatPart9
import Derived.Test.YtodpdcflbnomgaaGreatPart10
import Derived.BigRegion
import Derived.BigQuiet
import Derived.Deep.RegionHeld3
import Derived.Test.YtodpdcflbnomgaaGreatPart5
import Derived.Test.YtodpdcflbnomgaaGreatPart2
import Derived.Test.YtodpdcflbnomgaaGreatPart8
import Derived.Test.YtodpdcflbnomgaaGreatRowR
import Derived.Deep.LoopGhost
import Derived.Deep.DeepCutAuto
import Derived.Deep.QuietTactic
import Derived.Test.YtodpdcflbnomgaaGreatPart13
namespace Go.Proofs.YtodpdcflbnomgaaGreat
open Go.RowKit
set_option linter.unusedVariables false
set_option linter.unusedSimpArgs false
set_option maxRecDepth 100000

/-- Block b is the document's Maps: its sets, what is hidden. -/
structure RfC (w : World) (b : Nat) (lv hv : Value) (L : List O) (H : List Rg) : Prop where
  cells : w.heap[b]? = some (.cells #[lv, hv] 31 (0, 0))
  l : SlP w lv L
  h : SlR w hv H
theorem RfC.touch {w w' : World} {b : Nat} {lv hv : Value} {L : List O} {H : List Rg} (h : RfC w b lv hv L H) (t : Touch (fun _ => False) w w') : RfC w' b lv hv L H :=
  ⟨(t.block b (lt_of_heap h.cells) id).trans h.cells, h.l.touch t, h.h.touch t⟩
theorem RfC.c0 {w : World} {b : Nat} {lv hv : Value} {L : List O} {H : List Rg} (h : RfC w b lv hv L H) : w.cell? ⟨b, 0, none⟩ = some lv := by rw [cell_of_block h.cells]; rfl
theorem RfC.c1 {w : World} {b : Nat} {lv hv : Value} {L : List O} {H : List Rg} (h : RfC w b lv hv L H) : w.cell? ⟨b, 1, none⟩ = some hv := by rw [cell_of_block h.cells]; rfl
theorem rng_cells {W : World} {b p : Nat} {x : O} (h : W.rangeAt b p x.vals.toList) : W.cell? ⟨b, p, none⟩ = some (.int .u64 x.c) ∧ W.cell? ⟨b, p + 1, none⟩ = some (.int .u64 x.k) ∧ W.cell? ⟨b, p + 9, none⟩ = some (.int .i64 x.vk) ∧ W.cell? ⟨b, p + 13, none⟩ = some (.string x.ky) ∧ W.cell? ⟨b, p + 14, none⟩ = some (.int .u64 x.pc) ∧ W.cell? ⟨b, p + 15, none⟩ = some (.int .u64 x.pk) :=
  ⟨h 0 _ rfl, h 1 _ rfl, h 9 _ rfl, h 13 _ rfl, h 14 _ rfl, h 15 _ rfl⟩
/-- The sets' slice and cells, behind whatever touches nothing old. -/
theorem RfC.rows {w : World} {b : Nat} {lv hv : Value} {L : List O} {H : List Rg} (h : RfC w b lv hv L H) {W : World} (t : Touch (fun _ => False) w W) : ∃ ao cap, lv = .slice ao L.length cap ∧ L.length ≤ cap ∧ cap ≤ 9223372036854775807 ∧ W.cell? ⟨b, 0, none⟩ = some (.slice ao L.length cap) ∧ W.cell? ⟨b, 1, none⟩ = some hv ∧ (0 < L.length → ∃ g o, ao = some ⟨g, o, none⟩ ∧ ∀ i, i < L.length → W.rangeAt g (o + i * 22) (L.getD i zeroO).vals.toList) := by
  have h2 := h.touch t
  obtain ⟨ao, cap, rfl, q1, q2, q3⟩ := h2.l.shape
  refine ⟨ao, cap, rfl, q2, q3, h2.c0, h2.c1, fun h0 => ?_⟩
  obtain ⟨g, o, cap', e, -, -, hr⟩ := h2.l.row (by intro e; rw [e] at h0; simp at h0)
  simp only [Value.slice.injEq] at e
  obtain ⟨rfl, -, rfl⟩ := e
  refine ⟨g, o, rfl, fun i hi => ?_⟩
  rw [List.getD_eq_getElem?_getD, List.getElem?_eq_getElem hi]
  exact hr i hi
theorem any_none {p : O → Bool} {L : List O} (h : ∀ i, i < L.length → p (L.getD i zeroO) = false) : L.any p = false := by
  rw [Bool.eq_false_iff]
  intro q
  obtain ⟨x, hx, e⟩ := List.any_eq_true.1 q
  obtain ⟨i, hi, rfl⟩ := List.mem_iff_getElem.1 hx
  have := h i hi
  rw [List.getD_eq_getElem?_getD, List.getElem?_eq_getElem hi] at this
  simp only [Option.getD_some] at this
  rw [this] at e; cases e
theorem any_some {p : O → Bool} {L : List O} {i : Nat} (hi : i < L.length) (h : p (L.getD i zeroO) = true) : L.any p = true := by
  rw [List.any_eq_true]
  refine ⟨L[i], List.getElem_mem hi, ?_⟩
  rw [List.getD_eq_getElem?_getD, List.getElem?_eq_getElem hi] at h
  exact h
theorem hit_of (c k : Int) (o : O) : hitR c k o = ((o.c == c && o.k == k) && (o.vk == 5)) := by
  unfold hitR
  congr 1
set_option maxHeartbeats 8000000 in
theorem ris_any {w : World} {b : Nat} {lv hv : Value} {L : List O} {H : List Rg} (h : RfC w b lv hv L H) (c k : Int) :
    Calls Tryz.prog 19 #[.pointer (some ⟨b, 0, none⟩), idV c k] w fun e w' => e = .returned (.bool (isR L c k)) ∧ Touch (fun _ => False) w w' := by
  obtain ⟨E, hE⟩ : ∃ E, Hid (E = w.alloc (idO c k)) := ⟨_, Eq.refl _⟩
  have HT : Hid (Touch (fun _ => False) w E) := by rw [hE.out]; exact (Touch.refl _ _).alloc _
  have HB : Hid (∀ W, Touch (fun _ => False) E W → W.cell? ⟨w.heap.size, 0, none⟩ = some (.int .u64 c) ∧ W.cell? ⟨w.heap.size, 1, none⟩ = some (.int .u64 k)) := fun W t => by
    have hb : W.heap[w.heap.size]? = some (idO c k) := (t.block _ (by rw [hE.out]; simp) id).trans (by rw [hE.out]; exact heap_alloc_new w _)
    exact ⟨by rw [cell_of_block hb]; rfl, by rw [cell_of_block hb]; rfl⟩
  have HN : Hid ((∀ i, i < L.length → hitR c k (L.getD i zeroO) = false) → isR L c k = zeroR c k) := fun q => by unfold isR; rw [any_none q]; rfl
  have HS : Hid (∀ i, i < L.length → hitR c k (L.getD i zeroO) = true → isR L c k = true) := fun i hi q => by unfold isR; rw [any_some hi q]; rfl
  have HC : Hid (∀ W, Touch (fun _ => False) E W → _) := fun W (t : Touch (fun _ => False) E W) => h.rows (HT.out.trans t)
  clear h
  generalize isR L c k = res at *
  generalize hn : L.length = n at *
  generalize hnd : (fun i => L.getD i zeroO) = nd at *
  have hnd2 : ∀ i, L.getD i zeroO = nd i := fun i => by rw [← hnd]
  simp only [hnd2] at HN HS HC
  clear hn hnd hnd2
  go_enter Tryz.func19, Tryz.ntmps19
  go_upto_region 1 with fail
  rw [← hE.out]
  clear hE
  generalize w.heap.size = B0 at *
  go_wp2_with fail
  go_loopw [5] (fun i wr => ∃ j : Nat, i = .int .i64 (j : Int) ∧ j ≤ n ∧ Hid ((∀ i, i < j → hitR c k (nd i) = false) ∧ Touch (fun _ => False) E wr)) (fun i _ => (n - intOf i).toNat)
  case atStart => exact ⟨0, rfl, Nat.zero_le _, (fun i hi => absurd hi (Nat.not_lt_zero _)), Touch.refl _ _⟩
  case round =>
    obtain ⟨j, rfl, hj, HJ⟩ := hrel
    obtain ⟨ao, cap, rfl, q0, q1, c0, -, q2⟩ := HC.out _ HJ.out.2
    obtain ⟨b0, b1⟩ := HB.out _ HJ.out.2
    by_cases hlt : j < n
    · obtain ⟨g, o, rfl, q3⟩ := q2 (by omega)
      obtain ⟨d0, d1, d9, -, -, -⟩ := rng_cells (q3 j hlt)
      clear q2 q3
      have HI : Hid (hitR c k (nd j) = (((nd j).c == c && (nd j).k == k) && ((nd j).vk == 5))) := hit_of _ _ _
      have l0 : (j : Int) < (n : Int) := by omega
      have l1 : (0 : Int) ≤ (j : Int) := by omega
      generalize (nd j).c = uc at *
      generalize (nd j).k = uk at *
      generalize (nd j).vk = uv at *
      have HD : Hid (hitR c k (nd j) = false → ∀ i, i < j + 1 → hitR c k (nd i) = false) := fun q i hi => by
        rcases Nat.lt_or_ge i j with x | x
        · exact HJ.out.1 i x
        · rw [show i = j from by omega]; exact q
      cases e1 : (uc == c) with
      | false =>
        have HF : Hid (hitR c k (nd j) = false) := by rw [HI.out, e1]; rfl
        clear HI
        go_wp2_with fail
        go_quiet (fail)
        go_wp2_with fail
        refine ⟨⟨j + 1, by go_num, by omega, HD.out HF.out, ?_⟩, by simp [intOf]; omega⟩
        exact HJ.out.2.drewN _
      | true =>
        cases e2 : (uk == k) with
        | false =>
          have HF : Hid (hitR c k (nd j) = false) := by rw [HI.out, e1, e2]; rfl
          clear HI
          go_wp2_with fail
          go_quiet (fail)
          go_wp2_with fail
          refine ⟨⟨j + 1, by go_num, by omega, HD.out HF.out, ?_⟩, by simp [intOf]; omega⟩
          exact HJ.out.2.drewN _
        | true =>
          cases e3 : (uv == 5) with
          | false =>
            have HF : Hid (hitR c k (nd j) = false) := by rw [HI.out, e1, e2, e3]; rfl
            clear HI
            go_wp2_with fail
            go_quiet (fail)
            go_wp2_with fail
            refine ⟨⟨j + 1, by go_num, by omega, HD.out HF.out, ?_⟩, by simp [intOf]; omega⟩
            exact HJ.out.2.drewN _
          | true =>
            have HF : Hid (res = true) := HS.out j hlt (by rw [HI.out, e1, e2, e3]; rfl)
            clear HI
            go_wp2_with fail
            go_quiet (fail)
            go_wp2_with fail
            go_ret
            exact ⟨congrArg (fun x => Ending.returned (.bool x)) HF.out.symm, (HT.out.trans HJ.out.2).drewN _⟩
    · have hjn : j = n := by omega
      subst hjn
      have HF : Hid (res = zeroR c k) := HN.out HJ.out.1
      have HZ : Hid (zeroR c k = (c == 0 && k == 0)) := by unfold zeroR; rfl
      clear q2
      cases e1 : (c == 0) with
      | false =>
        go_wp2_with fail
        go_ret
        exact ⟨by rw [HF.out, HZ.out, e1]; rfl, HT.out.trans HJ.out.2⟩
      | true =>
        cases e2 : (k == 0) with
        | false =>
          go_wp2_with fail
          go_ret
          exact ⟨by rw [HF.out, HZ.out, e1, e2]; rfl, HT.out.trans HJ.out.2⟩
        | true =>
          go_wp2_with fail
          go_ret
          exact ⟨by rw [HF.out, HZ.out, e1, e2]; rfl, HT.out.trans HJ.out.2⟩
end Go.Proofs.YtodpdcflbnomgaaGreat

/- The document's Less of ids, and of marks. -/
namespace Go.Proofs.YtodpdcflbnomgaaGreat
open Go.RowKit
set_option linter.unusedVariables false
set_option linter.unusedSimpArgs false
set_option maxRecDepth 100000

set_option maxHeartbeats 800000 in
theorem rless_any (a b c d : Int) (w : World) : Calls Tryz.prog 49 #[idV a b, idV c d] w fun e w' => e = .returned (.bool (lessI a b c d)) ∧ w' = (w.alloc (idO a b)).alloc (idO c d) := by
  unfold lessI
  by_cases h1 : a = c
  · subst h1
    rw [if_pos rfl]
    go_enter Tryz.func49, Tryz.ntmps49
    go_wp2_with fail
    go_ret
    exact ⟨by simp, rfl⟩
  · rw [if_neg h1]
    by_cases h2 : a < c
    · go_enter Tryz.func49, Tryz.ntmps49
      go_wp2_with fail
      go_ret
      exact ⟨by simp [h2], rfl⟩
    · go_enter Tryz.func49, Tryz.ntmps49
      go_wp2_with fail
      go_ret
      exact ⟨by simp; omega, rfl⟩
set_option maxHeartbeats 8000000 in
theorem qmless_any (x y : O) (w : World) :
    Calls Tryz.prog 27 #[x.val, y.val] w fun e w' => e = .returned (.bool (lessM x y)) ∧ Touch (fun _ => False) w w' := by
  obtain ⟨E, hE⟩ : ∃ E, Hid (E = (w.alloc (opO x)).alloc (opO y)) := ⟨_, Eq.refl _⟩
  have HTE : Hid (Touch (fun _ => False) w E) := by rw [hE.out]; exact ((Touch.refl _ _).alloc _).alloc _
  have HB : Hid (E.heap[w.heap.size]? = some (opO x) ∧ E.heap[w.heap.size + 1]? = some (opO y)) := by
    rw [hE.out]
    refine ⟨(Below.heap_alloc _ _ _ (by simp)).trans (heap_alloc_new _ _), ?_⟩
    have := heap_alloc_new (w.alloc (opO x)) (opO y)
    simpa using this
  obtain ⟨x0, x1, -, x3, -, -⟩ := opO_head HB.out.1
  obtain ⟨y0, y1, -, y3, -, -⟩ := opO_head HB.out.2
  have HL : Hid (∀ W, Calls Tryz.prog 49 #[.agg #[.int .u64 x.c, .int .u64 x.k], .agg #[.int .u64 y.c, .int .u64 y.k]] W fun e w' => e = .returned (.bool (lessI x.c x.k y.c y.k)) ∧ Touch (fun _ => False) W w') := fun W => (rless_any x.c x.k y.c y.k W).mono fun e w' q => ⟨q.1, by rw [q.2]; exact ((Touch.refl _ _).alloc _).alloc _⟩
  obtain ⟨mb, hmb⟩ : ∃ mb, Hid (mb = lessM x y) := ⟨_, Eq.refl _⟩
  rw [← hmb.out]
  unfold lessM at hmb
  obtain ⟨xc, xk, xkind, xst, xlc, xlk, xrc, xrk, xtx, xvk, xvn, xvf, xvs, xky, xpc, xpk, xfc, xfk, xfa, xtc, xtk, xta⟩ := x
  obtain ⟨yc, yk, ykind, yst, ylc, ylk, yrc, yrk, ytx, yvk, yvn, yvf, yvs, yky, ypc, ypk, yfc, yfk, yfa, ytc, ytk, yta⟩ := y
  simp only at x0 x1 x3 y0 y1 y3 HL hmb ⊢
  clear HB
  go_enter Tryz.func27, Tryz.ntmps27
  go_upto_region 1 with fail
  rw [← hE.out]
  clear hE
  by_cases hst : xst = yst
  · subst hst
    have HM : Hid (mb = lessI xc xk yc yk) := by have := hmb.out; rw [if_pos rfl] at this; exact this
    have b0 : (xst == xst) = true := by simp
    have b1 : decide (xst < xst) = false := by simp
    go_wp2_with fail
    refine (HL.out _).mono ?_
    rintro e W1 ⟨rfl, t1⟩
    have HT : Hid (Touch (fun _ => False) w W1) := HTE.out.trans t1
    clear t1 HL x0 x1 x3 y0 y1 y3
    go_wp2_with fail
    go_ret
    exact ⟨by rw [HM.out]; rfl, HT.out⟩
  · have HM : Hid (mb = decide (xst < yst)) := by have := hmb.out; rw [if_neg hst] at this; exact this
    have b0 : (xst == yst) = false := by simpa using hst
    cases hb : decide (xst < yst) with
    | true =>
      have HM2 : Hid (mb = true) := HM.out.trans hb
      go_wp2_with fail
      go_ret
      exact ⟨by rw [HM2.out]; rfl, HTE.out⟩
    | false =>
      have HM2 : Hid (mb = false) := HM.out.trans hb
      go_wp2_with fail
      go_ret
      exact ⟨by rw [HM2.out]; rfl, HTE.out⟩

end Go.Proofs.YtodpdcflbnomgaaGreat

/- The document's small functions of ids: right, less, Right. -/
namespace Go.Proofs.YtodpdcflbnomgaaGreat
open Go.RowKit
set_option linter.unusedVariables false
set_option linter.unusedSimpArgs false
set_option maxRecDepth 100000

set_option maxHeartbeats 800000 in
theorem rright_any (r : Rg) (w : World) : Calls Tryz.prog 48 #[rgV r] w fun e w' => e = .returned (.bool r.ok) ∧ w' = w.alloc (rgO r) := by
  obtain ⟨c, f, t⟩ := r
  unfold Rg.ok numOk
  simp only
  by_cases h1 : 1 ≤ c
  · by_cases h2 : c ≤ 9007199254740991
    · by_cases h3 : 1 ≤ f
      · by_cases h4 : f < t
        · by_cases h5 : t ≤ 9007199254740992
          · go_enter Tryz.func48, Tryz.ntmps48
            go_wp2_with fail
            go_ret
            exact ⟨by simp [h1, h2, h3, h4, h5], rfl⟩
          · go_enter Tryz.func48, Tryz.ntmps48
            go_wp2_with fail
            go_ret
            exact ⟨by simp [h1, h2, h3, h4, h5], rfl⟩
        · go_enter Tryz.func48, Tryz.ntmps48
          go_wp2_with fail
          go_ret
          exact ⟨by simp; omega, rfl⟩
      · go_enter Tryz.func48, Tryz.ntmps48
        go_wp2_with fail
        go_ret
        exact ⟨by simp; omega, rfl⟩
    · go_enter Tryz.func48, Tryz.ntmps48
      go_wp2_with fail
      go_ret
      exact ⟨by simp; omega, rfl⟩
  · go_enter Tryz.func48, Tryz.ntmps48
    go_wp2_with fail
    go_ret
    exact ⟨by simp; omega, rfl⟩
def lessR (a b : Rg) : Bool := decide (a.c < b.c ∨ (a.c = b.c ∧ a.f < b.f))
set_option maxHeartbeats 800000 in
theorem rRight_any (c k : Int) (w : World) : Calls Tryz.prog 35 #[idV c k] w fun e w' => e = .returned (.bool (numOk c && numOk k)) ∧ w' = w.alloc (idO c k) := by
  unfold numOk
  by_cases h1 : 1 ≤ c
  · by_cases h2 : c ≤ 9007199254740991
    · by_cases h3 : 1 ≤ k
      · by_cases h4 : k ≤ 9007199254740991
        · go_enter Tryz.func35, Tryz.ntmps35
          go_wp2_with fail
          go_ret
          exact ⟨by simp [h1, h2, h3, h4], rfl⟩
        · go_enter Tryz.func35, Tryz.ntmps35
          go_wp2_with fail
          go_ret
          exact ⟨by simp [h1, h2, h3, h4], rfl⟩
      · go_enter Tryz.func35, Tryz.ntmps35
        go_wp2_with fail
        go_ret
        exact ⟨by simp; omega, rfl⟩
    · go_enter Tryz.func35, Tryz.ntmps35
      go_wp2_with fail
      go_ret
      exact ⟨by simp; omega, rfl⟩
  · go_enter Tryz.func35, Tryz.ntmps35
    go_wp2_with fail
    go_ret
    exact ⟨by simp; omega, rfl⟩
end Go.Proofs.YtodpdcflbnomgaaGreat

/- The contract of quireref6.Clean. -/
namespace Go.Proofs.YtodpdcflbnomgaaGreat
open Go.RowKit Go.Maps
set_option linter.unusedVariables false
set_option linter.unusedSimpArgs false
set_option maxRecDepth 100000

theorem Rg.le_trans {a b c : Rg} (h : Rg.le a b) (k : Rg.le b c) : Rg.le a c := by unfold Rg.le at *; omega
theorem ins_sorted (ss : List Rg) (x : Rg) (p : Nat) (h : ss.Pairwise Rg.le) (h1 : ∀ j (hj : j < ss.length), j < p → Rg.le ss[j] x) (h2 : ∀ j (hj : j < ss.length), p ≤ j → Rg.le x ss[j]) : (ss.take p ++ x :: ss.drop p).Pairwise Rg.le := by
  rw [List.pairwise_append]
  have hx := h
  rw [← List.take_append_drop p ss, List.pairwise_append] at hx
  refine ⟨hx.1, List.pairwise_cons.2 ⟨fun y hy => ?_, hx.2.1⟩, fun y hy z hz => ?_⟩
  · obtain ⟨j, hj, rfl⟩ := List.getElem_of_mem hy
    rw [List.getElem_drop]
    exact h2 _ (by simp at hj; omega) (by omega)
  · rcases List.mem_cons.1 hz with rfl | hz
    · obtain ⟨j, hj, rfl⟩ := List.getElem_of_mem hy
      rw [List.getElem_take]
      simp at hj
      exact h1 _ (by omega) (by omega)
    · exact hx.2.2 y hy z hz
theorem ins_perm (ss : List Rg) (x : Rg) (p : Nat) : (ss.take p ++ x :: ss.drop p).Perm (ss ++ [x]) := by
  refine (List.perm_middle).trans ?_
  rw [List.take_append_drop]
  exact (List.perm_append_singleton x ss).symm
theorem ins_len (ss : List Rg) (x : Rg) (p : Nat) (hp : p ≤ ss.length) : (ss.take p ++ x :: ss.drop p).length = ss.length + 1 := by simp; omega
theorem shift_set (ss : List Rg) (y : Rg) (k : Nat) (h0 : 0 < k) (hk : k ≤ ss.length) (hk1 : k - 1 < ss.length) : (ss.take k ++ y :: ss.drop k).set k ss[k - 1] = ss.take (k - 1) ++ ss[k - 1] :: ss.drop (k - 1) := by
  have hl : (ss.take k).length = k := by simp; omega
  rw [List.set_append_right _ _ (by omega), hl, Nat.sub_self, List.set_cons_zero]
  have e1 : ss.take k = ss.take (k - 1) ++ [ss[k - 1]] := by
    have := List.take_succ_eq_append_getElem hk1
    rwa [show k - 1 + 1 = k from by omega] at this
  have e2 : ss.drop (k - 1) = ss[k - 1] :: ss.drop k := by
    have := List.drop_eq_getElem_cons hk1
    rwa [show k - 1 + 1 = k from by omega] at this
  rw [e2, e1, List.append_assoc]
  rfl
theorem put_set (ss : List Rg) (y x : Rg) (k : Nat) (hk : k ≤ ss.length) : (ss.take k ++ y :: ss.drop k).set k x = ss.take k ++ x :: ss.drop k := by
  have hl : (ss.take k).length = k := by simp; omega
  rw [List.set_append_right _ _ (by omega), hl, Nat.sub_self, List.set_cons_zero]
/-- A range laid at a place of a slice of one's own. -/
theorem NewR.put {W w : World} {g cap : Nat} {l : List Rg} (h : NewR W w (.slice (some ⟨g, 0, none⟩) l.length cap) l) (j : Nat) (hj : j < l.length) (r : Rg) :
    NewR W (((w.setCell ⟨g, j * 3, none⟩ (.int .u64 r.c)).setCell ⟨g, j * 3 + 1, none⟩ (.int .u64 r.f)).setCell ⟨g, j * 3 + 2, none⟩ (.int .u64 r.t)) (.slice (some ⟨g, 0, none⟩) l.length cap) (l.set j r) := by
  have h1 := OwnR.set h rfl (j * 3) (by omega) (.int .u64 r.c) rfl
  have h2 := OwnR.set h1 rfl (j * 3 + 1) (by omega) (.int .u64 r.f) rfl
  have h3 := OwnR.set h2 rfl (j * 3 + 2) (by omega) (.int .u64 r.t) rfl
  rw [cellsR_set l j hj r] at h3
  unfold NewR
  rw [List.length_set]; exact h3
theorem lessR_le {a b : Rg} (h : lessR a b = true) : Rg.le a b := by unfold lessR at h; unfold Rg.le; simp at h; omega
theorem lessR_ge {a b : Rg} (h : lessR a b = false) : Rg.le b a := by unfold lessR at h; unfold Rg.le; simp at h; omega

/-- The first half: right ranges, sorted. -/
structure Sorted6 (w : World) (l : List Rg) (i : Nat) (wx : World) (v : Value) (ss : List Rg) : Prop where
  nw : NewR w wx v ss
  perm : ss.Perm ((l.take i).filter Rg.ok)
  sorted : ss.Pairwise Rg.le
theorem Sorted6.start (w : World) (l : List Rg) (wx : World) (t : Touch (fun _ => False) w wx) : Sorted6 w l 0 wx (.slice none 0 0) [] := ⟨NewR.nil w wx t, List.Perm.refl _, List.Pairwise.nil⟩
theorem filter_step {l : List Rg} {i : Nat} (hi : i < l.length) : (l.take (i + 1)).filter Rg.ok = (l.take i).filter Rg.ok ++ (if l[i].ok then [l[i]] else []) := by
  rw [List.take_succ_eq_append_getElem hi, List.filter_append]
  congr 1
  by_cases h : l[i].ok = true <;> simp [h]

/-- The second half: joined so far. -/
def Joined6 (ss : List Rg) (j : Nat) (o : List Rg) : Prop := (o = [] ∧ j = 0) ∨ ∃ p x, o = p ++ [x] ∧ mergeR ss = p ++ mergeFrom x (ss.drop j)
theorem Joined6.fresh {ss : List Rg} (h : 0 < ss.length) : Joined6 ss 1 [ss[0]] := by
  refine .inr ⟨[], ss[0], rfl, ?_⟩
  cases ss with
  | nil => simp at h
  | cons r ss => rfl
theorem Joined6.gap {ss p : List Rg} {x : Rg} {j : Nat} (h : mergeR ss = p ++ mergeFrom x (ss.drop j)) (hj : j < ss.length) (hg : ss[j].c ≠ x.c ∨ x.t < ss[j].f) : Joined6 ss (j + 1) ((p ++ [x]) ++ [ss[j]]) := by
  refine .inr ⟨p ++ [x], ss[j], rfl, ?_⟩
  rw [h, List.drop_eq_getElem_cons hj, mergeFrom, if_pos hg, List.append_assoc]; rfl
theorem Joined6.on {ss p : List Rg} {x : Rg} {j : Nat} (h : mergeR ss = p ++ mergeFrom x (ss.drop j)) (hj : j < ss.length) (hg : ¬ (ss[j].c ≠ x.c ∨ x.t < ss[j].f)) : Joined6 ss (j + 1) (p ++ [⟨x.c, x.f, max x.t ss[j].t⟩]) := by
  refine .inr ⟨p, _, rfl, ?_⟩
  rw [h, List.drop_eq_getElem_cons hj, mergeFrom, if_neg hg]
theorem Joined6.done {ss o : List Rg} (h : Joined6 ss ss.length o) : mergeR ss = o := by
  rcases h with ⟨rfl, h0⟩ | ⟨p, x, rfl, h⟩
  · rw [List.length_eq_zero_iff.1 h0]; rfl
  · rw [h, List.drop_length]; rfl
theorem lastOf {l : List Rg} (h : l ≠ []) : ∃ p x, l = p ++ [x] := ⟨l.dropLast, l.getLast h, (List.dropLast_concat_getLast h).symm⟩

end Go.Proofs.YtodpdcflbnomgaaGreat

/- The contracts of ids.Count and of the statements' helps. -/
namespace Go.Proofs.YtodpdcflbnomgaaGreat
open Go.RowKit Go.Maps
set_option linter.unusedVariables false
set_option linter.unusedSimpArgs false
set_option maxRecDepth 100000

theorem Touch.drewN' {S : Nat → Prop} {a b : World} (h : Touch S a b) (q : Nat) : Touch S a (b.drewN q) := ⟨h.os, h.tape, h.output, h.size, h.block⟩
def cntR : List Rg → Int
  | [] => 0
  | r :: l => (r.t - r.f) + cntR l
theorem cntR_append (a b : List Rg) : cntR (a ++ b) = cntR a + cntR b := by
  induction a with
  | nil => simp [cntR]
  | cons x a ih => rw [List.cons_append, cntR, cntR, ih]; omega
theorem cntR_bound (l : List Rg) (h : ∀ r ∈ l, r.ok = true) : 0 ≤ cntR l ∧ cntR l ≤ 9007199254740992 * l.length := by
  induction l with
  | nil => simp [cntR]
  | cons x l ih =>
    have h1 := Rg.ok_iff.1 (h x List.mem_cons_self)
    have h2 := ih fun r hr => h r (List.mem_cons_of_mem _ hr)
    rw [cntR, List.length_cons]
    omega
theorem Form.oks {l : List Rg} {F : Int → Int → Int} (h : Form (tns l) F) : ∀ r ∈ l, r.ok = true := by
  intro r hr
  have := h.1.oks r.tn (List.mem_map_of_mem hr)
  rwa [Rg.tn_ok] at this
end Go.Proofs.YtodpdcflbnomgaaGreat
