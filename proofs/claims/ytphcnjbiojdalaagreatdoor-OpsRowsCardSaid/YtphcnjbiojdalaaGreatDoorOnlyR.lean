/- The iterator that ids.only answers, over ranges, and slices.Collect of it. -/
import Derived.RangeFuncNested
import Derived.RangeFuncBound
import Derived.RangeFuncCalls
import Derived.RangeFuncLeaves
import Derived.RangeFuncBox
import Derived.Shelf.Abstract
import Derived.Shelf.RegionOpen
import Derived.WalkKit
import Derived.OwnWalkIn
import Derived.TacticsInMore
import Derived.LoopNIn
import Derived.LoopIn
import Derived.Lib.OthersKept
import Derived.Test.YtphcnjbiojdalaaGreatDoorRowR
namespace Go.Proofs.YtphcnjbiojdalaaGreatDoor
open Go.RowKit Go.Shelf
set_option linter.unusedVariables false
set_option linter.unusedSimpArgs false
set_option maxRecDepth 100000
attribute [local go_sem] Oper.semAt_some

theorem Touch.grownNone {w w' : World} (h : Touch (fun _ => False) w w') : w.grownBy w' none := ⟨h.os, h.tape, h.output, h.size, fun k hk _ => h.block k hk id⟩
theorem Touch.ofBelow {w w' : World} (h : Below w.heap.size w w') : Touch (fun _ => False) w w' := ⟨h.os, h.tape, h.output, h.size, fun k hk _ => h.block k hk⟩
theorem Touch.keepsOthers {w w' : World} (h : Touch (fun _ => False) w w') : KeepsOthers w w' := ⟨h.size, fun k o hk _ => (h.block k (Array.getElem?_eq_some_iff.1 hk).1 id).trans hk⟩
theorem blk_own {β : Type} (B : Nat) (c : Array Value) (t : TypeId) : Own (fun (_ : β) W => W.heap[B]? = some (.cells c t (0, 0))) := fun s X Y row hs hg hrow =>
  (hg.block B (lt_of_heap hs) (fun e' => by obtain ⟨o, ho, hc⟩ := hrow B e'.symm; rw [hs] at ho; cases ho; cases hc)).trans hs
theorem wide1 {n : Nat} : Fence.wide.depth.isSome = true → 1 ≤ n := fun h => absurd h (by simp [Fence.wide])

theorem LiesR.below {n₀ : Nat} {w w' : World} {ao : Option Addr} {l : List Rg} (h : LiesR w ao l) (t : Below n₀ w w') (hb : ∀ b o, l ≠ [] → ao = some ⟨b, o, none⟩ → b < n₀) : LiesR w' ao l := by
  by_cases hl : l = []
  · exact .inl hl
  rcases h with h | ⟨b, o, e, h⟩
  · exact .inl h
  · exact .inr ⟨b, o, e, fun j u hu => (t.cell (p := ⟨b, o + j, none⟩) (hb b o hl e)).trans (h j u hu)⟩
theorem LiesR.cells {w : World} {b o : Nat} {l : List Rg} (h : LiesR w (some ⟨b, o, none⟩) l) (j : Nat) (hj : j < l.length) : w.cell? ⟨b, o + j * 3, none⟩ = some (.int .u64 l[j].c) ∧ w.cell? ⟨b, o + j * 3 + 1, none⟩ = some (.int .u64 l[j].f) ∧ w.cell? ⟨b, o + j * 3 + 2, none⟩ = some (.int .u64 l[j].t) := by
  rcases h with h | ⟨b', o', e, hc⟩
  · subst h; simp at hj
  · cases e
    obtain ⟨a0, a1, a2⟩ := cellsR_get l j hj
    exact ⟨hc _ _ a0, hc _ _ a1, hc _ _ a2⟩
set_option maxHeartbeats 2000000 in
/-- right: a function that tells p of whatever it is handed. -/
theorem onlyR_stops (n n₀ Bl Br G : Nat) (p : Rg → Bool) (ao : Option Addr) (cap : Nat) (l : List Rg) (w : World) (hn : n₀ ≤ w.heap.size) (hBl : Bl < n₀) (hBr : Br < n₀)
    (cl : w.cell? ⟨Bl, 0, none⟩ = some (.slice ao l.length cap)) (cr : w.cell? ⟨Br, 0, none⟩ = some (.func (.func G) #[] #[])) (hL : LiesR w ao l) (hb : ∀ b o, l ≠ [] → ao = some ⟨b, o, none⟩ → b < n₀) (hll : l.length ≤ 4611686018427387904)
    (eG : ∀ args w, (callFunc G args).run Tryz.prog w = .ok (.enter G args) w)
    (hp : ∀ r W, Calls Tryz.prog G #[rgV r] W fun e w' => e = .returned (.bool (p r)) ∧ Grows W w') :
    SeqStopsK Fence.wide n Tryz.prog 109 #[.pointer (some ⟨Bl, 0, none⟩), .pointer (some ⟨Br, 0, none⟩)] (fun r : Rg => #[rgV r]) (Below n₀) (fun xs => xs = l.filter p) (fun pre => pre <+: l.filter p) (l.filter p).length w := fun yl J Jx W hW hJ hJx hY h0 => by
  have hBW : Below n₀ w W := hW.mono hn
  have cl1 : W.cell? ⟨Bl, 0, none⟩ = some (.slice ao l.length cap) := (hBW.cell (p := ⟨Bl, 0, none⟩) hBl).trans cl
  have HJ : Hid (AbidesFrom W.heap.size J) := hJ
  have HY : Hid _ := hY
  have HP : Hid (∀ r W, Calls Tryz.prog G #[rgV r] W fun e w' => e = .returned (.bool (p r)) ∧ Grows W w') := hp
  have HL : Hid (∀ wr, Below n₀ W wr → LiesR wr ao l ∧ wr.cell? ⟨Br, 0, none⟩ = some (.func (.func G) #[] #[])) := fun wr t => ⟨hL.below (hBW.trans t) hb, ((hBW.trans t).cell (p := ⟨Br, 0, none⟩) hBr).trans cr⟩
  have HN : Hid (n₀ ≤ W.heap.size) := Nat.le_trans hn hW.size
  clear hJ hJx hY hp hL hBW cl cr hW
  refine callsIn_of_wp Tryz.func109 rfl trivial ?_ rfl
  simp only [Tryz.ntmps109, List.size_toArray, List.length_cons, List.length_nil, Nat.reduceAdd, Nat.reduceSub, Array.replicate_succ, Array.replicate_zero, List.push_toArray, List.append_toArray, List.nil_append, List.cons_append]
  gi_wp2_with fail
  gi_loopw [8] (fun i wr => ∃ j : Nat, i = .int .i64 (j : Int) ∧ j ≤ l.length ∧ Below n₀ W wr ∧ J ((l.take j).filter p) wr) (fun i _ => (l.length - intOf i).toNat)
  case atStart => exact ⟨0, rfl, Nat.zero_le _, Below.refl _ _, by simpa using h0⟩
  case round =>
    obtain ⟨j, rfl, hj, hB, hJr⟩ := hrel
    by_cases hlt : j < l.length
    · have hne : l ≠ [] := by rintro rfl; simp at hlt
      obtain ⟨hLr, cr⟩ := HL.out wr hB
      obtain ⟨b, o, rfl⟩ : ∃ b o, ao = some ⟨b, o, none⟩ := by
        rcases hLr with h | ⟨b, o, e, _⟩
        · exact absurd h hne
        · exact ⟨b, o, e⟩
      obtain ⟨c0, c1, c2⟩ := hLr.cells j hlt
      have HE : Hid (l.take (j + 1) = l.take j ++ [l[j]]) := List.take_succ_eq_append_getElem hlt
      have HPj := fun W => HP.out l[j] W
      have HW : Hid (n₀ ≤ wr.heap.size) := Nat.le_trans HN.out hB.size
      have HDrop : Hid (l.take (j + 1) <+: l) := List.take_prefix _ _
      clear HP hLr hb hne
      generalize hx : l[j] = x at *
      clear hx
      have cr2 := (Below.refl n₀ wr).alloc HW.out (rgO x) |>.cell (p := ⟨Br, 0, none⟩) hBr |>.trans cr
      gi_wp2
      refine ⟨trivial, wide1, (callsIn_wide.2 (HPj _)).mono ?_⟩
      rintro e W1 ⟨rfl, hG⟩
      have hT := hG.touch
      have bx : (wr.alloc (rgO x)).heap[wr.heap.size]? = some (rgO x) := heap_alloc_new wr _
      have bx1 : W1.heap[wr.heap.size]? = some (rgO x) := (hT.block _ (lt_of_heap bx) id).trans bx
      have d0 : W1.cell? ⟨wr.heap.size, 0, none⟩ = some (.int .u64 x.c) := by rw [cell_of_block bx1]; rfl
      have d1 : W1.cell? ⟨wr.heap.size, 1, none⟩ = some (.int .u64 x.f) := by rw [cell_of_block bx1]; rfl
      have d2 : W1.cell? ⟨wr.heap.size, 2, none⟩ = some (.int .u64 x.t) := by rw [cell_of_block bx1]; rfl
      have hT1 : Touch (fun _ => False) wr W1 := ((Touch.refl _ wr).alloc _).trans hT
      have hB1 : Below n₀ W W1 := hB.trans (hT1.below HW.out (fun _ _ => id))
      have hJ1 : J ((l.take j).filter p) W1 := HJ.out _ _ _ none hJr hT1.grownNone (fun r e => by cases e)
      have HF : Hid ((l.take (j + 1)).filter p <+: l.filter p) := HDrop.out.filter p
      clear hT hG bx bx1 hT1 cr cr2 c0 c1 c2 HDrop 
      cases hpx : p x with
      | false =>
        have HE2 : Hid ((l.take (j + 1)).filter p = (l.take j).filter p) := by rw [Hid, HE.out, List.filter_append]; simp [hpx]
        clear hpx
        gi_wp2
        refine ⟨(fun _ h => by cases h), ?_⟩
        gi_wp2
        go_roundw
        case rel => exact ⟨j + 1, by go_num, by omega, hB1, by rw [HE2.out]; exact hJ1⟩
        case measure => simp [intOf]; omega
      | true =>
        have HE2 : Hid ((l.take (j + 1)).filter p = (l.take j).filter p ++ [x]) := by rw [Hid, HE.out, List.filter_append]; simp [hpx]
        have hlen : ((l.take j).filter p).length < (l.filter p).length := by
          have := HF.out.length_le
          rw [HE2.out, List.length_append] at this
          simp only [List.length_singleton] at this; omega
        clear hpx
        obtain ⟨fn, tmps, assign, body, hy, hR⟩ := HY.out _ x W1 hJ1 hlen
        clear hlen
        gi_wp2
        refine ⟨wide1, hR.mono ?_⟩
        rintro e W3 (⟨rfl, hJ3, hk3⟩ | ⟨rfl, hJx3⟩)
        · clear hy hR
          gi_wp2
          go_roundw
          case rel => exact ⟨j + 1, by go_num, by omega, hB1.trans hk3, by rw [HE2.out]; exact hJ3⟩
          case measure => simp [intOf]; omega
        · gi_wp2
          refine bodyPost_ret (results_none rfl _ _ _) rfl ?_
          exact ⟨⟨_, rfl⟩, .inr ⟨_, by rw [← HE2.out]; exact HF.out, hJx3⟩⟩
    · have hjl : j = l.length := by omega
      subst hjl
      rw [List.take_length] at hJr
      gi_wp2
      go_end0
      exact ⟨⟨_, rfl⟩, .inl ⟨_, rfl, hJr⟩⟩
set_option maxHeartbeats 400000 in
theorem onlyR_any (v fv : Value) (w : World) (hv : v.oneCell' = true) (hf : fv.oneCell' = true) : Calls Tryz.prog 92 #[v, fv] w fun e w' => e = .returned (.func (.func 109) #[] #[.pointer (some ⟨w.heap.size, 0, none⟩), .pointer (some ⟨w.heap.size + 1, 0, none⟩)]) ∧ w' = (w.alloc (.cells #[v] 56)).alloc (.cells #[fv] 75) := by
  obtain ⟨x, hx⟩ : ∃ x, x = v := ⟨_, rfl⟩
  go_enter Tryz.func92, Tryz.ntmps92
  go_wp2_with fail
  go_ret
  exact ⟨rfl, rfl⟩
end Go.Proofs.YtphcnjbiojdalaaGreatDoor
