/- The contract of ids.TurnOf. -/
import Derived.Test.YtccgiabihagjoaaOnlyK
import Derived.Test.YtccgiabihagjoaaIdTn
import Derived.Shelf.RegionOpen
namespace Go.Proofs.Ytccgiabihagjoaa
open Go.RowKit Go.Shelf
set_option linter.unusedVariables false
set_option linter.unusedSimpArgs false
set_option maxRecDepth 100000
attribute [local go_sem] Oper.semAt_some

/-- The greatest of those that have it. -/
def mxT (l : List Tn) (c k : Int) : Int := l.foldl (fun (n : Int) (x : Tn) => if x.has c k then max n x.n else n) 0
theorem mxT_snoc (l : List Tn) (x : Tn) (c k : Int) : mxT (l ++ [x]) c k = if x.has c k then max (mxT l c k) x.n else mxT l c k := by
  unfold mxT; rw [List.foldl_append]; rfl
theorem mxT_turn (l : List Tn) (c k : Int) : mxT (l.filter Tn.ok) c k = turnOf l c k := by
  have h : ∀ n : Int, 0 ≤ n → (l.filter Tn.ok).foldl (fun (n : Int) (x : Tn) => if x.has c k then max n x.n else n) n = max n (turnOf l c k) := by
    induction l with
    | nil => intro n hn; show n = max n 0; omega
    | cons x l ih =>
      intro n hn
      rw [turnOf]
      by_cases ho : x.ok = true
      · rw [List.filter_cons_of_pos ho, List.foldl_cons, ho]
        have := Tn.ok_iff.1 ho
        by_cases hh : x.has c k = true
        · rw [hh]
          simp only [if_true, Bool.and_self]
          have hm : 0 ≤ max n x.n := by omega
          rw [ih _ hm]; omega
        · rw [if_neg hh, if_neg (by simpa using hh)]; exact ih n hn
      · rw [List.filter_cons_of_neg ho, if_neg (by simp [ho])]; exact ih n hn
  have hp := turnOf_pos l c k
  unfold mxT
  rw [h 0 (Int.le_refl _)]; omega
structure TofI (n : Nat) (c k : Int) (w : World) (pre : List Tn) (W : World) : Prop where
  id : W.heap[n]? = some (idO c k)
  box : Boxed W (n + 1) 23 (u64 (mxT pre c k))
  below : Below n w W
theorem TofI.own (n : Nat) (c k : Int) (w : World) (B : Nat) (hn : n ≤ w.heap.size) (hB : n ≤ B) : OwnFrom B (fun pre W => TofI n c k w pre W) := by
  rintro s X Y row h hg hr
  exact ⟨blk_own (β := Unit) n _ _ () X Y row h.id hg (fun r e => (hr r e).2), boxed_own (β := Unit) (n + 1) _ (fun _ => _) () X Y row h.box hg (fun r e => (hr r e).2), ownFrom_below (β := Unit) hn hB () X Y row h.below hg hr⟩
theorem TofI.on {n : Nat} {c k : Int} {w : World} {pre : List Tn} {W W' : World} (h : TofI n c k w pre W) (t : Touch (fun _ => False) W W') : TofI n c k w pre W' :=
  ⟨(t.block _ (lt_of_heap h.id) (fun q => q)).trans h.id, (t.block _ (lt_of_heap (show W.heap[n + 1]? = _ from h.box)) (fun q => q)).trans h.box, h.below.trans (t.below (Nat.le_of_lt (lt_of_heap h.id)) (fun _ _ q => q))⟩
theorem TofI.set {n : Nat} {c k : Int} {w : World} {pre : List Tn} {W : World} (h : TofI n c k w pre W) (x : Tn) (hh : x.has c k = true) : TofI n c k w (pre ++ [x]) (W.setCell ⟨n + 1, 0, none⟩ (u64 (max (mxT pre c k) x.n))) := by
  refine ⟨?_, ?_, h.below.setCell (p := ⟨n + 1, 0, none⟩) (by simp only; omega) _⟩
  · rw [heap_setCell_other _ _ _ _ (by simp only; omega)]; exact h.id
  · rw [mxT_snoc, if_pos hh]; exact h.box.set _
set_option maxHeartbeats 4000000 in
theorem turnOfI_any (l : List Tn) (v : Value) (c k : Int) (w : World) (hs : SlT w v l) (hll : l.length ≤ 1073741824) :
    Calls Try.prog 8 #[v, idV c k] w fun e w' => e = .returned (u64 (turnOf l c k)) ∧ Touch (fun _ => False) w w' := by
  have hv1 : v.oneCell' = true := by obtain ⟨ao, cap, rfl, _⟩ := hs; rfl
  have HO := fun W => onlyT_any v (.func (.func 23) #[] #[]) W hv1 rfl
  obtain ⟨ao, cap, rfl, h1, h2, h3, h4⟩ := hs
  refine (callsIn_wide (n := 3)).1 ?_
  refine callsIn_of_wp_marks Try.func8 rfl trivial ?_ rfl
  simp only [Try.ntmps8, List.size_toArray, List.length_cons, List.length_nil, Nat.reduceAdd, Nat.reduceSub, Array.replicate_succ, Array.replicate_zero, List.push_toArray, List.append_toArray, List.nil_append, List.cons_append]
  gi_wp2_with fail
  refine ⟨trivial, (callsIn_wide.2 (HO _)).mono ?_⟩
  rintro e w1 ⟨rfl, rfl⟩
  clear HO
  obtain ⟨W0, hW0⟩ : ∃ W0, (((w.alloc (idO c k)).alloc (.cells #[.int .u64 0] 23)).alloc (.cells #[.slice ao l.length cap] 22)).alloc (.cells #[.func (.func 23) #[] #[]] 46) = W0 := ⟨_, rfl⟩
  have hsz : W0.heap.size = w.heap.size + 4 := by rw [← hW0]; simp
  have t0 : Touch (fun _ => False) w W0 := by rw [← hW0]; exact ((((Touch.refl _ w).alloc _).alloc _).alloc _).alloc _
  have b0 : W0.heap[w.heap.size]? = some (idO c k) := by
    rw [← hW0]; exact (Below.heap_alloc _ _ _ (by simp; omega)).trans ((Below.heap_alloc _ _ _ (by simp; omega)).trans ((Below.heap_alloc _ _ _ (by simp)).trans (heap_alloc_new w _)))
  have b1 : W0.heap[w.heap.size + 1]? = some (.cells #[.int .u64 0] 23) := by
    have := heap_alloc_new (w.alloc (idO c k)) (.cells #[.int .u64 0] 23)
    rw [World.size_alloc] at this
    rw [← hW0]; exact (Below.heap_alloc _ _ _ (by simp)).trans ((Below.heap_alloc _ _ _ (by simp)).trans this)
  have b2 : W0.heap[w.heap.size + 2]? = some (.cells #[.slice ao l.length cap] 22) := by
    have := heap_alloc_new ((w.alloc (idO c k)).alloc (.cells #[.int .u64 0] 23)) (.cells #[.slice ao l.length cap] 22)
    rw [World.size_alloc, World.size_alloc] at this
    rw [← hW0]; exact (Below.heap_alloc _ _ _ (by simp)).trans this
  have b3 : W0.heap[w.heap.size + 3]? = some (.cells #[.func (.func 23) #[] #[]] 46) := by
    have := heap_alloc_new (((w.alloc (idO c k)).alloc (.cells #[.int .u64 0] 23)).alloc (.cells #[.slice ao l.length cap] 22)) (.cells #[.func (.func 23) #[] #[]] 46)
    rw [World.size_alloc, World.size_alloc, World.size_alloc] at this
    rw [← hW0]; exact this
  have hlt : ∀ b o, l ≠ [] → ao = some ⟨b, o, none⟩ → b < w.heap.size := fun b o hne e => by
    obtain ⟨b', o', cap', e', _, _, hb, _⟩ := SlT.row (w := w) (v := .slice ao l.length cap) ⟨ao, cap, rfl, h1, h2, h3, h4⟩ hne
    rw [e] at e'; simp only [Value.slice.injEq, Option.some.injEq, Addr.mk.injEq] at e'
    obtain ⟨⟨rfl, _, _⟩, _, _⟩ := e'
    exact hb
  have hmx : Try.prog.follows .mixedOrders = true := by kernel_rfl
  gi_wp2
  try rw [hW0]
  refine wpIn_rangeFunc_ownH rfl (by decide) (gf := 40) (lb := #[.pointer (some ⟨w.heap.size + 1 + 1, 0, none⟩), .pointer (some ⟨w.heap.size + 1 + 1 + 1, 0, none⟩)]) rfl trivial (enters_of Try.func40 (by kernel_rfl) rfl)
    (onlyT_keeps 2 (w.heap.size + 2) (w.heap.size + 3) 23 (fun j => j = w.heap.size + 1) Tn.ok ao cap l W0 b2 b3 (by omega) (by omega) (h4.touch t0) (fun b o hne e => by have := hlt b o hne e; omega) (by omega) (enters_of Try.func23 (by kernel_rfl) rfl) (fun r W => rightTurn_any r W))
    KeepC.trans (fun W q ob ob' _ h hc _ => KeepC.put W q ob ob' h hc) (Below.refl _ _) (fun _ => rfl)
    (fun pre W => TofI w.heap.size c k w pre W)
    (fun _ _ _ => False)
    (TofI.own _ _ _ _ _ (Nat.le_refl _) (by omega))
    (fun _ _ _ _ _ hs _ _ => hs)
    ⟨b0, b1, t0.below (Nat.le_refl _) (fun _ _ => id)⟩
    (fun x a' W => ∃ Bx, W.heap[Bx]? = some (tnO x) ∧ a' = { tmps := #[.slice ao l.length cap, idV c k, undef, .pointer (some ⟨w.heap.size, 0, none⟩), .int .u64 0, .pointer (some ⟨w.heap.size + 1, 0, none⟩), .pointer (some ⟨Bx, 0, none⟩), .slice ao l.length cap, .func (.func 40) #[] #[.pointer (some ⟨w.heap.size + 1 + 1, 0, none⟩), .pointer (some ⟨w.heap.size + 1 + 1 + 1, 0, none⟩)], tnV x, undef, undef, undef, undef, undef, undef, undef, undef, undef], defers := [] })
    (fun x a' => ?hAx) ?assign ?body ?done ?stop
  case hAx =>
    rintro s W W' row ⟨Bx, h6, h7⟩ hg hr
    exact ⟨Bx, blk_own (β := Unit) Bx _ _ s W W' row h6 hg (fun r e => (hr r e).2), h7⟩
  case assign =>
    rintro q pre x W K hi hK
    clear hW0
    gi_wp2
    exact hK _ _ ((KeepsOthers.alloc _ _).from _) (KeepC.ofF ((Touch.refl _ W).alloc _)) (hi.on ((Touch.refl _ W).alloc _)) ⟨W.heap.size, heap_alloc_new W _, rfl⟩
  case body =>
    rintro ll pre x a' W hl ⟨r, hr⟩ hi ⟨Bx, bX, rfl⟩ hlt2
    clear hW0
    have HK : Hid (∀ W', Touch (fun _ => False) W W' → (W'.cell? ⟨Bx, 0, none⟩ = some (.int .u64 x.c) ∧ W'.cell? ⟨Bx, 1, none⟩ = some (.int .u64 x.f) ∧ W'.cell? ⟨Bx, 2, none⟩ = some (.int .u64 x.t) ∧ W'.cell? ⟨Bx, 3, none⟩ = some (.int .u64 x.n)) ∧ (W'.cell? ⟨w.heap.size, 0, none⟩ = some (.int .u64 c) ∧ W'.cell? ⟨w.heap.size, 1, none⟩ = some (.int .u64 k)) ∧ W'.cell? ⟨w.heap.size + 1, 0, none⟩ = some (.int .u64 (mxT pre c k)) ∧ W'.frozen? ⟨w.heap.size + 1, 0, none⟩ = false) := fun W' t => by
      have q1 := (t.block _ (lt_of_heap bX) id).trans bX
      have q2 := hi.on t
      exact ⟨⟨by rw [cell_of_block q1]; rfl, by rw [cell_of_block q1]; rfl, by rw [cell_of_block q1]; rfl, by rw [cell_of_block q1]; rfl⟩, ⟨by rw [cell_of_block q2.id]; rfl, by rw [cell_of_block q2.id]; rfl⟩, q2.box.cell, q2.box.frozen⟩
    have R1 : Hid (∀ W', Touch (fun _ => False) W W' → Calls Try.prog 25 #[tnV x] W' fun e w' => e = .returned (rgV x.rg) ∧ Touch (fun _ => False) W w') := fun W' t => (rangeOf_any x W').mono fun e w' q => ⟨q.1, by rw [q.2]; exact (t.alloc _).alloc _⟩
    have R2 : Hid (∀ W', Touch (fun _ => False) W W' → Calls Try.prog 24 #[rgV x.rg, idV c k] W' fun e w' => e = .returned (.bool (x.has c k)) ∧ Touch (fun _ => False) W w') := fun W' t => (within_any x.rg c k W').mono fun e w' q => ⟨q.1, by rw [q.2]; exact (t.alloc _).alloc _⟩
    have HN : Hid (x.has c k = false → ∀ W', Touch (fun _ => False) W W' → KeepsFrom W0.heap.size W W' ∧ KeepC (fun j => j = w.heap.size + 1) W W' ∧ TofI w.heap.size c k w (pre ++ [x]) W') := fun hh W' t => by
      have q := hi.on t
      refine ⟨t.keepsOthers.from _, KeepC.ofF t, q.id, ?_, q.below⟩
      rw [mxT_snoc, hh]; exact q.box
    have HY : Hid (x.has c k = true → ∀ W', Touch (fun _ => False) W W' → KeepsFrom W0.heap.size W (W'.setCell ⟨w.heap.size + 1, 0, none⟩ (u64 (max (mxT pre c k) x.n))) ∧ KeepC (fun j => j = w.heap.size + 1) W (W'.setCell ⟨w.heap.size + 1, 0, none⟩ (u64 (max (mxT pre c k) x.n))) ∧ TofI w.heap.size c k w (pre ++ [x]) (W'.setCell ⟨w.heap.size + 1, 0, none⟩ (u64 (max (mxT pre c k) x.n)))) := fun hh W' t =>
      ⟨(t.keepsOthers.trans (KeepsOthers.setCell _ _ _)).from _, KeepC.of ((t.mono fun _ _ e => e.elim).setCell _ _ fun _ => rfl), (hi.on t).set x hh⟩
    obtain ⟨⟨k0, k1, k2, k3⟩, ⟨k4, k5⟩, k6, k7⟩ := HK.out W (Touch.refl _ _)
    obtain ⟨⟨d0, d1, d2, d3⟩, ⟨d4, d5⟩, d6, d7⟩ := HK.out W.drew (Touch.refl _ _).drew
    clear hi bX b0 b1 b2 b3 t0 hlt2 hlt h1 h2 h3 h4
    generalize x.has c k = hb at *
    generalize mxT pre c k = mx at *
    obtain ⟨xc, xf, xt, xn⟩ := x
    simp only [Tn.rg] at *
    cases hb with
    | false =>
      gi_wp2
      gi_region_with_o (first
        | (refine ⟨trivial, ?_⟩; gi_at_call 25; refine (CallsIn.inRound ll (callsIn_wide.2 (R1.out _ (by first | exact Touch.refl _ _ | exact (Touch.refl _ _).drew | exact T3.out | exact T3.out.drew)))).mono ?_; rintro e w3 ⟨rfl, t3⟩; obtain ⟨⟨m0, m1, m2, m3⟩, ⟨m4, m5⟩, m6, m7⟩ := HK.out w3 t3; obtain ⟨⟨n0, n1, n2, n3⟩, ⟨n4, n5⟩, n6, n7⟩ := HK.out w3.drew t3.drew; have T3 : Hid (Touch (fun _ => False) W w3) := t3; clear t3)
        | (refine ⟨trivial, ?_⟩; gi_at_call 24; refine (CallsIn.inRound ll (callsIn_wide.2 (R2.out _ (by first | exact T3.out | exact T3.out.drew)))).mono ?_; rintro e w4 ⟨rfl, t4⟩; have T4 : Hid (Touch (fun _ => False) W w4) := t4; clear t4))
      all_goals gi_wp2
      all_goals exact HN.out trivial _ T4.out
    | true =>
      gi_wp2
      gi_region_with_o (first
        | (refine ⟨trivial, ?_⟩; gi_at_call 25; refine (CallsIn.inRound ll (callsIn_wide.2 (R1.out _ (by first | exact Touch.refl _ _ | exact (Touch.refl _ _).drew | exact T3.out | exact T3.out.drew)))).mono ?_; rintro e w3 ⟨rfl, t3⟩; obtain ⟨⟨m0, m1, m2, m3⟩, ⟨m4, m5⟩, m6, m7⟩ := HK.out w3 t3; obtain ⟨⟨n0, n1, n2, n3⟩, ⟨n4, n5⟩, n6, n7⟩ := HK.out w3.drew t3.drew; have T3 : Hid (Touch (fun _ => False) W w3) := t3; clear t3)
        | (refine ⟨trivial, ?_⟩; gi_at_call 24; refine (CallsIn.inRound ll (callsIn_wide.2 (R2.out _ (by first | exact T3.out | exact T3.out.drew)))).mono ?_; rintro e w4 ⟨rfl, t4⟩; obtain ⟨⟨m0, m1, m2, m3⟩, ⟨m4, m5⟩, m6, m7⟩ := HK.out w4 t4; have T4 : Hid (Touch (fun _ => False) W w4) := t4; clear t4))
      all_goals gi_wp2
      all_goals exact HY.out trivial _ T4.out
  case done =>
    rintro D ys W hD rfl hi hK
    have r0 := hi.box.cell
    have HA : Hid (mxT (l.filter Tn.ok) c k = turnOf l c k) := mxT_turn l c k
    have HBw : Hid (Below w.heap.size w W) := hi.below
    have HD : Hid (w.heap.size ≤ D) := by rw [Hid]; omega
    clear hW0 hi b0 b1 b2 b3 t0
    gi_wp2
    refine ⟨by simp, .inl ⟨_, _, rfl, run_takeDeferred hK, ?_⟩⟩
    exact ⟨_, results_tmp rfl _ _ _, by rw [← HA.out]; rfl, Touch.ofBelow (HBw.out.trans (belowK_b (w := w) (Nat.le_refl _) W D _ _ HD.out hK rfl rfl))⟩
  case stop =>
    rintro D c pre W _ _ h _
    exact h.elim
end Go.Proofs.Ytccgiabihagjoaa
