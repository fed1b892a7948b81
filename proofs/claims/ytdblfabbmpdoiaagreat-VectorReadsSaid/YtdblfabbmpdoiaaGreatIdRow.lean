/- The rows that ids.blend goes through. -/
import Derived.Test.YtdblfabbmpdoiaaGreatRowT
import Derived.Deep.RegionHeld3
namespace Go.Proofs.YtdblfabbmpdoiaaGreat
open Go.RowKit Go.Maps
set_option linter.unusedVariables false
set_option linter.unusedSimpArgs false
set_option maxRecDepth 100000

/-- Where a row stands. -/
def hd : List Tn → Tn
  | [] => ⟨9007199254740992, 0, 0, 0⟩
  | x :: _ => x
abbrev rwO (x : Tn) (rv : Value) : Obj := .cells #[.int .u64 x.c, .int .u64 x.f, .int .u64 x.t, .int .u64 x.n, rv] 129
/-- The row at r has L ahead of it; the turns lie since W0. -/
structure Rw (W0 w : World) (r : Nat) (L : List Tn) : Prop where
  new : W0.heap.size ≤ r
  ex : ∃ rv, w.heap[r]? = some (rwO (hd L) rv) ∧ SlT W0 rv L.tail
abbrev rp (r : Nat) : Value := .pointer (some ⟨r, 0, none⟩)
theorem Rw.on {W0 w w' : World} {r : Nat} {L : List Tn} {S : Nat → Prop} (h : Rw W0 w r L) (t : Touch S w w') (hs : ¬ S r) : Rw W0 w' r L := by
  obtain ⟨rv, h1, h2⟩ := h.ex
  exact ⟨h.new, rv, (t.block r (lt_of_heap h1) hs).trans h1, h2⟩
theorem Rw.lt {W0 w : World} {r : Nat} {L : List Tn} (h : Rw W0 w r L) : r < w.heap.size := by
  obtain ⟨rv, h1, h2⟩ := h.ex
  exact lt_of_heap h1
set_option maxHeartbeats 400000 in
theorem endOfRow_any (w : World) : Calls Tryz.prog 96 #[] w fun e w' => e = .returned (tnV ⟨9007199254740992, 0, 0, 0⟩) ∧ w' = w.alloc (tnO ⟨9007199254740992, 0, 0, 0⟩) := by
  go_enter Tryz.func96, Tryz.ntmps96
  go_wp2_with fail
  exact bodyPost_ret (v := tnV ⟨9007199254740992, 0, 0, 0⟩) (by simp [results, Tryz.results96, go_sem]) rfl ⟨rfl, rfl⟩
theorem rw_set4 {w : World} {r : Nat} {x : Tn} {rv : Value} (h : w.heap[r]? = some (rwO x rv)) (y : Tn) : ((((w.setCell ⟨r, 0, none⟩ (.int .u64 y.c)).setCell ⟨r, 1, none⟩ (.int .u64 y.f)).setCell ⟨r, 2, none⟩ (.int .u64 y.t)).setCell ⟨r, 3, none⟩ (.int .u64 y.n)).heap[r]? = some (rwO y rv) := by
  have h1 := heap_setCell_same _ _ 0 (.int .u64 y.c) h
  have h2 := heap_setCell_same _ _ 1 (.int .u64 y.f) h1
  have h3 := heap_setCell_same _ _ 2 (.int .u64 y.t) h2
  have h4 := heap_setCell_same _ _ 3 (.int .u64 y.n) h3
  exact h4
end Go.Proofs.YtdblfabbmpdoiaaGreat
