/- The iterator that ids.only answers, over ranges, and slices.Collect of it. -/
import Derived.RangeFuncNested
import Derived.RangeFuncBound
import Derived.RangeFuncCalls
import Derived.RangeFuncLeaves
import Derived.RangeFuncBox
import Derived.Shelf.Abstract
import Derived.Shelf.RegionOpen
import Derived.WalkKit
import Derived.OwnWalkIn
import Derived.TacticsInMore
import Derived.LoopNIn
import Derived.LoopIn
import Derived.Lib.OthersKept
import Derived.Test.YtmknkecaeagmbaaGreatDoorRowR
import Derived.Test.YtmknkecaeagmbaaGreatDoorPart6
namespace Go.Proofs.YtmknkecaeagmbaaGreatDoor
open Go.RowKit Go.Shelf
set_option linter.unusedVariables false
set_option linter.unusedSimpArgs false
set_option maxRecDepth 100000
attribute [local go_sem] Oper.semAt_some

theorem Touch.grownNone {w w' : World} (h : Touch (fun _ => False) w w') : w.grownBy w' none := ⟨h.os, h.tape, h.output, h.size, fun k hk _ => h.block k hk id⟩
theorem Touch.ofBelow {w w' : World} (h : Below w.heap.size w w') : Touch (fun _ => False) w w' := ⟨h.os, h.tape, h.output, h.size, fun k hk _ => h.block k hk⟩
theorem Touch.keepsOthers {w w' : World} (h : Touch (fun _ => False) w w') : KeepsOthers w w' := ⟨h.size, fun k o hk _ => (h.block k (Array.getElem?_eq_some_iff.1 hk).1 id).trans hk⟩
theorem blk_own {β : Type} (B : Nat) (c : Array Value) (t : TypeId) : Own (fun (_ : β) W => W.heap[B]? = some (.cells c t (0, 0))) := fun s X Y row hs hg hrow =>
  (hg.block B (lt_of_heap hs) (fun e' => by obtain ⟨o, ho, hc⟩ := hrow B e'.symm; rw [hs] at ho; cases ho; cases hc)).trans hs
theorem wide1 {n : Nat} : Fence.wide.depth.isSome = true → 1 ≤ n := fun h => absurd h (by simp [Fence.wide])

theorem LiesR.below {n₀ : Nat} {w w' : World} {ao : Option Addr} {l : List Rg} (h : LiesR w ao l) (t : Below n₀ w w') (hb : ∀ b o, l ≠ [] → ao = some ⟨b, o, none⟩ → b < n₀) : LiesR w' ao l := by
  by_cases hl : l = []
  · exact .inl hl
  rcases h with h | ⟨b, o, e, h⟩
  · exact .inl h
  · exact .inr ⟨b, o, e, fun j u hu => (t.cell (p := ⟨b, o + j, none⟩) (hb b o hl e)).trans (h j u hu)⟩
theorem LiesR.cells {w : World} {b o : Nat} {l : List Rg} (h : LiesR w (some ⟨b, o, none⟩) l) (j : Nat) (hj : j < l.length) : w.cell? ⟨b, o + j * 3, none⟩ = some (.int .u64 l[j].c) ∧ w.cell? ⟨b, o + j * 3 + 1, none⟩ = some (.int .u64 l[j].f) ∧ w.cell? ⟨b, o + j * 3 + 2, none⟩ = some (.int .u64 l[j].t) := by
  rcases h with h | ⟨b', o', e, hc⟩
  · subst h; simp at hj
  · cases e
    obtain ⟨a0, a1, a2⟩ := cellsR_get l j hj
    exact ⟨hc _ _ a0, hc _ _ a1, hc _ _ a2⟩
set_option maxHeartbeats 2000000 in
/-- right: a function that tells p of whatever it is handed. -/
theorem onlyR_stops (n n₀ Bl Br G : Nat) (p : Rg → Bool) (ao : Option Addr) (cap : Nat) (l : List Rg) (w : World) (hn : n₀ ≤ w.heap.size) (hBl : Bl < n₀) (hBr : Br < n₀)
    (cl : w.cell? ⟨Bl, 0, none⟩ = some (.slice ao l.length cap)) (cr : w.cell? ⟨Br, 0, none⟩ = some (.func (.func G) #[] #[])) (hL : LiesR w ao l) (hb : ∀ b o, l ≠ [] → ao = some ⟨b, o, none⟩ → b < n₀) (hll : l.length ≤ 4611686018427387904)
    (eG : ∀ args w, (callFunc G args).run Tryz.prog w = .ok (.enter G args) w)
    (hp : ∀ r W, Calls Tryz.prog G #[rgV r] W fun e w' => e = .returned (.bool (p r)) ∧ Grows W w') :
    SeqStopsK Fence.wide n Tryz.prog 109 #[.pointer (some ⟨Bl, 0, none⟩), .pointer (some ⟨Br, 0, none⟩)] (fun r : Rg => #[rgV r]) (Below n₀) (fun xs => xs = l.filter p) (fun pre => pre <+: l.filter p) (l.filter p).length w := fun yl J Jx W hW hJ hJx hY h0 => by
  have hBW : Below n₀ w W := hW.mono hn
  have cl1 : W.cell? ⟨Bl, 0, none⟩ = some (.slice ao l.length cap) := (hBW.cell (p := ⟨Bl, 0, none⟩) hBl).trans cl
  have HJ : Hid (AbidesFrom W.heap.size J) := hJ
  have HY : Hid _ := hY
  have HP : Hid (∀ r W, Calls Tryz.prog G #[rgV r] W fun e w' => e = .returned (.bool (p r)) ∧ Grows W w') := hp
  have HL : Hid (∀ wr, Below n₀ W wr → LiesR wr ao l ∧ wr.cell? ⟨Br, 0, none⟩ = some (.func (.func G) #[] #[])) := fun wr t => ⟨hL.below (hBW.trans t) hb, ((hBW.trans t).cell (p := ⟨Br, 0, none⟩) hBr).trans cr⟩
  have HN : Hid (n₀ ≤ W.heap.size) := Nat.le_trans hn hW.size
  clear hJ hJx hY hp hL hBW cl cr hW
  refine callsIn_of_wp Tryz.func109 rfl trivial ?_ rfl
  simp only [Tryz.ntmps109, List.size_toArray, List.length_cons, List.length_nil, Nat.reduceAdd, Nat.reduceSub, Array.replicate_succ, Array.replicate_zero, List.push_toArray, List.append_toArray, List.nil_append, List.cons_append]
  gi_wp2_with fail
  gi_loopw [8] (fun i wr => ∃ j : Nat, i = .int .i64 (j : Int) ∧ j ≤ l.length ∧ Below n₀ W wr ∧ J ((l.take j).filter p) wr) (fun i _ => (l.length - intOf i).toNat)
  case atStart => exact ⟨0, rfl, Nat.zero_le _, Below.refl _ _, by simpa using h0⟩
  case round =>
    obtain ⟨j, rfl, hj, hB, hJr⟩ := hrel
    by_cases hlt : j < l.length
    · have hne : l ≠ [] := by rintro rfl; simp at hlt
      obtain ⟨hLr, cr⟩ := HL.out wr hB
      obtain ⟨b, o, rfl⟩ : ∃ b o, ao = some ⟨b, o, none⟩ := by
        rcases hLr with h | ⟨b, o, e, _⟩
        · exact absurd h hne
        · exact ⟨b, o, e⟩
      obtain ⟨c0, c1, c2⟩ := hLr.cells j hlt
      have HE : Hid (l.take (j + 1) = l.take j ++ [l[j]]) := List.take_succ_eq_append_getElem hlt
      have HPj := fun W => HP.out l[j] W
      have HW : Hid (n₀ ≤ wr.heap.size) := Nat.le_trans HN.out hB.size
      have HDrop : Hid (l.take (j + 1) <+: l) := List.take_prefix _ _
      clear HP hLr hb hne
      generalize hx : l[j] = x at *
      clear hx
      have cr2 := (Below.refl n₀ wr).alloc HW.out (rgO x) |>.cell (p := ⟨Br, 0, none⟩) hBr |>.trans cr
      gi_wp2
      refine ⟨trivial, wide1, (callsIn_wide.2 (HPj _)).mono ?_⟩
      rintro e W1 ⟨rfl, hG⟩
      have hT := hG.touch
      have bx : (wr.alloc (rgO x)).heap[wr.heap.size]? = some (rgO x) := heap_alloc_new wr _
      have bx1 : W1.heap[wr.heap.size]? = some (rgO x) := (hT.block _ (lt_of_heap bx) id).trans bx
      have d0 : W1.cell? ⟨wr.heap.size, 0, none⟩ = some (.int .u64 x.c) := by rw [cell_of_block bx1]; rfl
      have d1 : W1.cell? ⟨wr.heap.size, 1, none⟩ = some (.int .u64 x.f) := by rw [cell_of_block bx1]; rfl
      have d2 : W1.cell? ⟨wr.heap.size, 2, none⟩ = some (.int .u64 x.t) := by rw [cell_of_block bx1]; rfl
      have hT1 : Touch (fun _ => False) wr W1 := ((Touch.refl _ wr).alloc _).trans hT
      have hB1 : Below n₀ W W1 := hB.trans (hT1.below HW.out (fun _ _ => id))
      have hJ1 : J ((l.take j).filter p) W1 := HJ.out _ _ _ none hJr hT1.grownNone (fun r e => by cases e)
      have HF : Hid ((l.take (j + 1)).filter p <+: l.filter p) := HDrop.out.filter p
      clear hT hG bx bx1 hT1 cr cr2 c0 c1 c2 HDrop 
      cases hpx : p x with
      | false =>
        have HE2 : Hid ((l.take (j + 1)).filter p = (l.take j).filter p) := by rw [Hid, HE.out, List.filter_append]; simp [hpx]
        clear hpx
        gi_wp2
        refine ⟨(fun _ h => by cases h), ?_⟩
        gi_wp2
        go_roundw
        case rel => exact ⟨j + 1, by go_num, by omega, hB1, by rw [HE2.out]; exact hJ1⟩
        case measure => simp [intOf]; omega
      | true =>
        have HE2 : Hid ((l.take (j + 1)).filter p = (l.take j).filter p ++ [x]) := by rw [Hid, HE.out, List.filter_append]; simp [hpx]
        have hlen : ((l.take j).filter p).length < (l.filter p).length := by
          have := HF.out.length_le
          rw [HE2.out, List.length_append] at this
          simp only [List.length_singleton] at this; omega
        clear hpx
        obtain ⟨fn, tmps, assign, body, hy, hR⟩ := HY.out _ x W1 hJ1 hlen
        clear hlen
        gi_wp2
        refine ⟨wide1, hR.mono ?_⟩
        rintro e W3 (⟨rfl, hJ3, hk3⟩ | ⟨rfl, hJx3⟩)
        · clear hy hR
          gi_wp2
          go_roundw
          case rel => exact ⟨j + 1, by go_num, by omega, hB1.trans hk3, by rw [HE2.out]; exact hJ3⟩
          case measure => simp [intOf]; omega
        · gi_wp2
          refine bodyPost_ret (results_none rfl _ _ _) rfl ?_
          exact ⟨⟨_, rfl⟩, .inr ⟨_, by rw [← HE2.out]; exact HF.out, hJx3⟩⟩
    · have hjl : j = l.length := by omega
      subst hjl
      rw [List.take_length] at hJr
      gi_wp2
      go_end0
      exact ⟨⟨_, rfl⟩, .inl ⟨_, rfl, hJr⟩⟩
set_option maxHeartbeats 400000 in
theorem onlyR_any (v fv : Value) (w : World) (hv : v.oneCell' = true) (hf : fv.oneCell' = true) : Calls Tryz.prog 92 #[v, fv] w fun e w' => e = .returned (.func (.func 109) #[] #[.pointer (some ⟨w.heap.size, 0, none⟩), .pointer (some ⟨w.heap.size + 1, 0, none⟩)]) ∧ w' = (w.alloc (.cells #[v] 56)).alloc (.cells #[fv] 75) := by
  obtain ⟨x, hx⟩ : ∃ x, x = v := ⟨_, rfl⟩
  go_enter Tryz.func92, Tryz.ntmps92
  go_wp2_with fail
  go_ret
  exact ⟨rfl, rfl⟩
end Go.Proofs.YtmknkecaeagmbaaGreatDoor

/- The contract of ids.Has. -/
namespace Go.Proofs.YtmknkecaeagmbaaGreatDoor
open Go.RowKit Go.Shelf
set_option linter.unusedVariables false
set_option linter.unusedSimpArgs false
set_option maxRecDepth 100000
attribute [local go_sem] Oper.semAt_some

def hasB (l : List Rg) (c k : Int) : Bool := (l.filter Rg.ok).any fun r => r.has c k
theorem hasB_turn (l : List Rg) (c k : Int) : hasB l c k = decide (turnOf (tns l) c k = 1) := by
  unfold hasB
  induction l with
  | nil => rfl
  | cons x l ih =>
    have hp := turnOf_pos (tns l) c k
    have hz : turnOf (tns l) c k = 0 ∨ turnOf (tns l) c k = 1 := by
      clear ih hp
      induction l with
      | nil => exact .inl rfl
      | cons x l ih =>
        rw [tns_cons, turnOf]
        have : x.tn.n = 1 := rfl
        split
        · rw [this]; omega
        · exact ih
    rw [tns_cons, turnOf, Rg.tn_ok]
    by_cases h : x.ok = true
    · rw [List.filter_cons_of_pos h, List.any_cons, ih, h]
      simp only [Bool.true_and, Rg.tn_has]
      have : x.tn.n = 1 := rfl
      by_cases g : x.has c k = true
      · rw [if_pos g, g, this]; simp; omega
      · rw [if_neg g]; simp [g]
    · rw [List.filter_cons_of_neg h, ih]; simp [h]
set_option maxHeartbeats 4000000 in
theorem has_any (l : List Rg) (v : Value) (c k : Int) (w : World) (hs : SlR w v l) (hll : l.length ≤ 1073741824) :
    Calls Tryz.prog 67 #[v, idV c k] w fun e w' => e = .returned (.bool (hasB l c k)) ∧ Touch (fun _ => False) w w' := by
  have hv1 : v.oneCell' = true := by obtain ⟨ao, cap, rfl, _⟩ := hs; rfl
  have HO := fun W => onlyR_any v (.func (.func 93) #[] #[]) W hv1 rfl
  obtain ⟨ao, cap, rfl, h1, h2, h3, h4⟩ := hs
  refine (callsIn_wide (n := 3)).1 ?_
  refine callsIn_of_wp_marks Tryz.func67 rfl trivial ?_ rfl
  simp only [Tryz.ntmps67, List.size_toArray, List.length_cons, List.length_nil, Nat.reduceAdd, Nat.reduceSub, Array.replicate_succ, Array.replicate_zero, List.push_toArray, List.append_toArray, List.nil_append, List.cons_append]
  gi_wp2_with fail
  refine ⟨trivial, (callsIn_wide.2 (HO _)).mono ?_⟩
  rintro e w1 ⟨rfl, rfl⟩
  clear HO
  obtain ⟨W0, hW0⟩ : ∃ W0, (((w.alloc (idO c k)).alloc (.cells #[.bool false] 4)).alloc (.cells #[.slice ao l.length cap] 56)).alloc (.cells #[.func (.func 93) #[] #[]] 75) = W0 := ⟨_, rfl⟩
  have hsz : W0.heap.size = w.heap.size + 4 := by rw [← hW0]; simp
  have t0 : Touch (fun _ => False) w W0 := by rw [← hW0]; exact ((((Touch.refl _ w).alloc _).alloc _).alloc _).alloc _
  have b0 : W0.heap[w.heap.size]? = some (idO c k) := by
    rw [← hW0]; exact (Below.heap_alloc _ _ _ (by simp; omega)).trans ((Below.heap_alloc _ _ _ (by simp; omega)).trans ((Below.heap_alloc _ _ _ (by simp)).trans (heap_alloc_new w _)))
  have b1 : W0.heap[w.heap.size + 1]? = some (.cells #[.bool false] 4) := by
    have := heap_alloc_new (w.alloc (idO c k)) (.cells #[.bool false] 4)
    rw [World.size_alloc] at this
    rw [← hW0]; exact (Below.heap_alloc _ _ _ (by simp)).trans ((Below.heap_alloc _ _ _ (by simp)).trans this)
  have b2 : W0.heap[w.heap.size + 2]? = some (.cells #[.slice ao l.length cap] 56) := by
    have := heap_alloc_new ((w.alloc (idO c k)).alloc (.cells #[.bool false] 4)) (.cells #[.slice ao l.length cap] 56)
    rw [World.size_alloc, World.size_alloc] at this
    rw [← hW0]; exact (Below.heap_alloc _ _ _ (by simp)).trans this
  have b3 : W0.heap[w.heap.size + 3]? = some (.cells #[.func (.func 93) #[] #[]] 75) := by
    have := heap_alloc_new (((w.alloc (idO c k)).alloc (.cells #[.bool false] 4)).alloc (.cells #[.slice ao l.length cap] 56)) (.cells #[.func (.func 93) #[] #[]] 75)
    rw [World.size_alloc, World.size_alloc, World.size_alloc] at this
    rw [← hW0]; exact this
  have hlt : ∀ b o, l ≠ [] → ao = some ⟨b, o, none⟩ → b < w.heap.size := fun b o hne e => by
    obtain ⟨b', o', cap', e', _, _, hb, _⟩ := SlR.row (w := w) (v := .slice ao l.length cap) ⟨ao, cap, rfl, h1, h2, h3, h4⟩ hne
    rw [e] at e'; simp only [Value.slice.injEq, Option.some.injEq, Addr.mk.injEq] at e'
    obtain ⟨⟨rfl, _, _⟩, _, _⟩ := e'
    exact hb
  have HB : Hid (Below w.heap.size w W0) := t0.below (Nat.le_refl _) (fun _ _ => id)
  gi_wp2
  try rw [hW0]
  refine wpIn_rangeFunc_ownH rfl (by decide) (gf := 109) (lb := #[.pointer (some ⟨w.heap.size + 1 + 1, 0, none⟩), .pointer (some ⟨w.heap.size + 1 + 1 + 1, 0, none⟩)]) rfl trivial (enters_of Tryz.func109 (by kernel_rfl) rfl)
    (onlyR_stops 2 W0.heap.size (w.heap.size + 2) (w.heap.size + 3) 93 Rg.ok ao cap l W0 (Nat.le_refl _) (by omega) (by omega) (by rw [cell_of_block b2]; rfl) (by rw [cell_of_block b3]; rfl) (h4.touch t0) (fun b o hne e => by have := hlt b o hne e; omega) (by omega) (enters_of Tryz.func93 (by kernel_rfl) rfl) (fun r W => (rightRange_any r W).mono fun e w' ⟨h1, h2⟩ => ⟨h1, by rw [h2]; exact (Grows.refl W).alloc _⟩))
    belowK_t (belowK_b (Nat.le_refl _)) (Below.refl _ _) (fun _ => rfl)
    (fun pre W => (pre.any fun r => r.has c k) = false ∧ Below W0.heap.size W0 W)
    (fun q pre W => (q = .ret ∧ (pre.any fun r => r.has c k) = true ∧ Boxed W (w.heap.size + 1) 4 (.bool true)) ∧ Below w.heap.size w W)
    (OwnFrom.and (fun _ _ _ _ h _ _ => h) (ownFrom_below (Nat.le_refl _) (Nat.le_refl _)))
    (fun q => OwnFrom.and (Own.from (fun s X Y row hs hg hr => ⟨hs.1, hs.2.1, boxed_own (β := Unit) (w.heap.size + 1) 4 (fun _ => .bool true) () X Y row hs.2.2 hg hr⟩) _) (ownFrom_below (Nat.le_refl _) (by omega)))
    ⟨rfl, Below.refl _ _⟩
    (fun x a' W => ∃ Bx, W.heap[Bx]? = some (rgO x) ∧ a' = { tmps := #[.slice ao l.length cap, idV c k, undef, .pointer (some ⟨w.heap.size, 0, none⟩), .pointer (some ⟨w.heap.size + 1, 0, none⟩), .pointer (some ⟨Bx, 0, none⟩), .slice ao l.length cap, .func (.func 109) #[] #[.pointer (some ⟨w.heap.size + 1 + 1, 0, none⟩), .pointer (some ⟨w.heap.size + 1 + 1 + 1, 0, none⟩)], rgV x, undef, undef, undef], defers := [] })
    (fun x a' => ?hAx) ?assign ?body ?done ?stop
  case hAx =>
    rintro s W W' row ⟨Bx, h2, h3⟩ hg hr
    exact ⟨Bx, blk_own (β := Unit) Bx _ _ s W W' row h2 hg (fun r e => (hr r e).2), h3⟩
  case assign =>
    rintro l pre x W K ⟨hq, hB⟩ hK
    clear hW0
    gi_wp2
    exact hK _ _ ((KeepsOthers.alloc _ _).from _) ((Below.refl _ W).alloc hB.size _) ⟨hq, hB.alloc hB.size _⟩ ⟨W.heap.size, heap_alloc_new W _, rfl⟩
  case body =>
    rintro ll pre x a' W hl ⟨r, hr⟩ ⟨hq, hB⟩ ⟨Bx, bX, rfl⟩ hlt2
    clear hW0
    have x0 : W.cell? ⟨Bx, 0, none⟩ = some (.int .u64 x.c) := by rw [cell_of_block bX]; rfl
    have x1 : W.cell? ⟨Bx, 1, none⟩ = some (.int .u64 x.f) := by rw [cell_of_block bX]; rfl
    have x2 : W.cell? ⟨Bx, 2, none⟩ = some (.int .u64 x.t) := by rw [cell_of_block bX]; rfl
    have bI : W.heap[w.heap.size]? = some (idO c k) := (hB.block _ (by omega)).trans b0
    have i0 : W.cell? ⟨w.heap.size, 0, none⟩ = some (.int .u64 c) := by rw [cell_of_block bI]; rfl
    have i1 : W.cell? ⟨w.heap.size, 1, none⟩ = some (.int .u64 k) := by rw [cell_of_block bI]; rfl
    have bR : W.heap[w.heap.size + 1]? = some (.cells #[.bool false] 4) := (hB.block _ (by omega)).trans b1
    have HWi := within_any x c k W
    have HQ : Hid ((pre.any fun r => r.has c k) = false ∧ Below W0.heap.size W0 W ∧ W.heap[w.heap.size + 1]? = some (.cells #[.bool false] 4) ∧ W0.heap.size = w.heap.size + 4 ∧ Below w.heap.size w W0) := ⟨hq, hB, bR, hsz, HB.out⟩
    have rR : ((W.alloc (rgO x)).alloc (idO c k)).heap[w.heap.size + 1]? = some (.cells #[.bool false] 4) := (Below.heap_alloc _ _ _ (by have := lt_of_heap bR; simp; omega)).trans ((Below.heap_alloc _ _ _ (lt_of_heap bR)).trans bR)
    have r0 : ((W.alloc (rgO x)).alloc (idO c k)).cell? ⟨w.heap.size + 1, 0, none⟩ = some (.bool false) := by rw [cell_of_block rR]; rfl
    have rf : ((W.alloc (rgO x)).alloc (idO c k)).frozen? ⟨w.heap.size + 1, 0, none⟩ = false := free_of_block rR
    have HRR : Hid (((W.alloc (rgO x)).alloc (idO c k)).heap[w.heap.size + 1]? = some (.cells #[.bool false] 4)) := rR
    have HAny : Hid ((pre ++ [x]).any (fun r => r.has c k) = x.has c k) := by rw [Hid, List.any_append, hq]; simp
    clear hq hB bI bR b0 b1 b2 b3 t0 hsz bX hlt2 hlt rR h1 h2 h3 h4
    generalize x.has c k = hb at *
    obtain ⟨xc, xf, xt⟩ := x
    simp only at *
    gi_wp2
    refine ⟨trivial, (CallsIn.inRound ll (callsIn_wide.2 HWi)).mono ?_⟩
    rintro e W1 ⟨rfl, hW1⟩
    subst hW1
    clear HWi
    cases hb with
    | false =>
      gi_wp2
      exact ⟨((KeepsOthers.alloc _ _).trans (KeepsOthers.alloc _ _)).from _, ((Below.refl _ W).alloc HQ.out.2.1.size _).alloc (Nat.le_trans HQ.out.2.1.size (by simp)) _, HAny.out, (HQ.out.2.1.alloc HQ.out.2.1.size _).alloc (Nat.le_trans HQ.out.2.1.size (by simp)) _⟩
    | true =>
      have HEx : Hid (Boxed (((W.alloc (rgO ⟨xc, xf, xt⟩)).alloc (idO c k)).setCell ⟨w.heap.size + 1, 0, none⟩ (.bool true)) (w.heap.size + 1) 4 (.bool true) ∧ Below w.heap.size w (((W.alloc (rgO ⟨xc, xf, xt⟩)).alloc (idO c k)).setCell ⟨w.heap.size + 1, 0, none⟩ (.bool true)) ∧ KeepsFrom W0.heap.size W (((W.alloc (rgO ⟨xc, xf, xt⟩)).alloc (idO c k)).setCell ⟨w.heap.size + 1, 0, none⟩ (.bool true))) := by
        have h5 : Below w.heap.size W0 W := HQ.out.2.1.mono (by have := HQ.out.2.2.2.1; omega)
        have hz : w.heap.size ≤ W.heap.size := Nat.le_trans (by have := HQ.out.2.2.2.1; omega) HQ.out.2.1.size
        refine ⟨Boxed.set _ (show Boxed _ _ _ _ from HRR.out), ?_, (((KeepsOthers.alloc _ _).trans (KeepsOthers.alloc _ _)).trans (KeepsOthers.setCell _ _ _)).from _⟩
        exact (((HQ.out.2.2.2.2.trans h5).alloc hz _).alloc (by simp; omega) _).setCell (p := ⟨w.heap.size + 1, 0, none⟩) (by simp only; omega) _
      gi_wp2
      exact ⟨HEx.out.2.2, ⟨rfl, HAny.out, HEx.out.1⟩, HEx.out.2.1⟩
  case done =>
    rintro D ys W hD rfl ⟨hq, hB⟩ hK
    have bR : W.heap[w.heap.size + 1]? = some (.cells #[.bool false] 4) := (hB.block _ (by omega)).trans b1
    have r0 : W.cell? ⟨w.heap.size + 1, 0, none⟩ = some (.bool false) := by rw [cell_of_block bR]; rfl
    have rf : W.frozen? ⟨w.heap.size + 1, 0, none⟩ = false := free_of_block bR
    have HBw : Hid (Below w.heap.size w W) := HB.out.trans (hB.mono (by omega))
    have HD : Hid (w.heap.size ≤ D) := by rw [Hid]; omega
    have HA : Hid (hasB l c k = false) := hq
    have HBX : Hid (Boxed W (w.heap.size + 1) 4 (.bool false)) := bR
    clear hW0 hq hB bR
    gi_wp2
    have hK' := (KeepsOthers.setCell W ⟨w.heap.size + 1, 0, none⟩ (.bool false)).same D _ hK rfl
    refine ⟨by simp, .inl ⟨_, _, rfl, run_takeDeferred hK', ?_⟩⟩
    have hc5 := cell_kept (HBX.out.set (.bool false)).cell (grownBy_putObj' _ D (.deferred none)) (fun r e => by cases e; exact ⟨_, hK', rfl⟩)
    refine ⟨.bool false, ?_, by rw [HA.out], Touch.ofBelow ((HBw.out.setCell (p := ⟨w.heap.size + 1, 0, none⟩) (by simp only; omega) _).trans (belowK_b (w := w) (Nat.le_refl _) _ D _ _ HD.out hK' rfl rfl))⟩
    simp [results, Tryz.f67, go_sem, hc5]
  case stop =>
    rintro D q pre W hD hpre ⟨⟨rfl, hy, hbx⟩, hB⟩ hK
    have r0 := hbx.cell
    have HA : Hid (hasB l c k = true) := by
      obtain ⟨rest, e⟩ := hpre
      show (l.filter Rg.ok).any _ = true
      rw [← e, List.any_append, hy]; rfl
    have HD : Hid (w.heap.size ≤ D) := by rw [Hid]; omega
    clear hW0 hy hpre
    gi_wp2
    refine ⟨by simp, .inl ⟨_, _, rfl, run_takeDeferred hK, ?_⟩⟩
    have hc5 := cell_kept hbx.cell (grownBy_putObj' _ D (.deferred none)) (fun r e => by cases e; exact ⟨_, hK, rfl⟩)
    refine ⟨.bool true, ?_, by rw [HA.out], Touch.ofBelow (hB.trans (belowK_b (w := w) (Nat.le_refl _) _ D _ _ HD.out hK rfl rfl))⟩
    simp [results, Tryz.f67, go_sem, hc5]
end Go.Proofs.YtmknkecaeagmbaaGreatDoor

/- The document's small functions of ids: right, less, Right. -/
namespace Go.Proofs.YtmknkecaeagmbaaGreatDoor
open Go.RowKit
set_option linter.unusedVariables false
set_option linter.unusedSimpArgs false
set_option maxRecDepth 100000

set_option maxHeartbeats 800000 in
theorem rright_any (r : Rg) (w : World) : Calls Tryz.prog 59 #[rgV r] w fun e w' => e = .returned (.bool r.ok) ∧ w' = w.alloc (rgO r) := by
  obtain ⟨c, f, t⟩ := r
  unfold Rg.ok numOk
  simp only
  by_cases h1 : 1 ≤ c
  · by_cases h2 : c ≤ 9007199254740991
    · by_cases h3 : 1 ≤ f
      · by_cases h4 : f < t
        · by_cases h5 : t ≤ 9007199254740992
          · go_enter Tryz.func59, Tryz.ntmps59
            go_wp2_with fail
            go_ret
            exact ⟨by simp [h1, h2, h3, h4, h5], rfl⟩
          · go_enter Tryz.func59, Tryz.ntmps59
            go_wp2_with fail
            go_ret
            exact ⟨by simp [h1, h2, h3, h4, h5], rfl⟩
        · go_enter Tryz.func59, Tryz.ntmps59
          go_wp2_with fail
          go_ret
          exact ⟨by simp; omega, rfl⟩
      · go_enter Tryz.func59, Tryz.ntmps59
        go_wp2_with fail
        go_ret
        exact ⟨by simp; omega, rfl⟩
    · go_enter Tryz.func59, Tryz.ntmps59
      go_wp2_with fail
      go_ret
      exact ⟨by simp; omega, rfl⟩
  · go_enter Tryz.func59, Tryz.ntmps59
    go_wp2_with fail
    go_ret
    exact ⟨by simp; omega, rfl⟩
def lessR (a b : Rg) : Bool := decide (a.c < b.c ∨ (a.c = b.c ∧ a.f < b.f))
set_option maxHeartbeats 800000 in
theorem rlessR_any (a b : Rg) (w : World) : Calls Tryz.prog 60 #[rgV a, rgV b] w fun e w' => e = .returned (.bool (lessR a b)) ∧ w' = (w.alloc (rgO a)).alloc (rgO b) := by
  obtain ⟨c, f, t⟩ := a
  obtain ⟨c', f', t'⟩ := b
  unfold lessR
  simp only
  by_cases h2 : c < c'
  · go_enter Tryz.func60, Tryz.ntmps60
    go_wp2_with fail
    go_ret
    exact ⟨by simp [h2], rfl⟩
  · by_cases h1 : c = c'
    · subst h1
      go_enter Tryz.func60, Tryz.ntmps60
      go_wp2_with fail
      go_ret
      exact ⟨by simp, rfl⟩
    · go_enter Tryz.func60, Tryz.ntmps60
      go_wp2_with fail
      go_ret
      exact ⟨by simp; omega, rfl⟩
set_option maxHeartbeats 800000 in
theorem rRight_any (c k : Int) (w : World) : Calls Tryz.prog 37 #[idV c k] w fun e w' => e = .returned (.bool (numOk c && numOk k)) ∧ w' = w.alloc (idO c k) := by
  unfold numOk
  by_cases h1 : 1 ≤ c
  · by_cases h2 : c ≤ 9007199254740991
    · by_cases h3 : 1 ≤ k
      · by_cases h4 : k ≤ 9007199254740991
        · go_enter Tryz.func37, Tryz.ntmps37
          go_wp2_with fail
          go_ret
          exact ⟨by simp [h1, h2, h3, h4], rfl⟩
        · go_enter Tryz.func37, Tryz.ntmps37
          go_wp2_with fail
          go_ret
          exact ⟨by simp [h1, h2, h3, h4], rfl⟩
      · go_enter Tryz.func37, Tryz.ntmps37
        go_wp2_with fail
        go_ret
        exact ⟨by simp; omega, rfl⟩
    · go_enter Tryz.func37, Tryz.ntmps37
      go_wp2_with fail
      go_ret
      exact ⟨by simp; omega, rfl⟩
  · go_enter Tryz.func37, Tryz.ntmps37
    go_wp2_with fail
    go_ret
    exact ⟨by simp; omega, rfl⟩
end Go.Proofs.YtmknkecaeagmbaaGreatDoor
