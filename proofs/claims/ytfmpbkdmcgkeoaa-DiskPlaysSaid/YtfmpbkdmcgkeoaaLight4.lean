/- The contract of quirelaw4.light. -/
import Derived.Test.YtfmpbkdmcgkeoaaSteps
import Derived.BigRegion
namespace Go.Proofs.Ytfmpbkdmcgkeoaa
open Go.RowKit Go.Maps
set_option linter.unusedVariables false

def StepV.size (x : StepV) : Nat := x.b.length + x.name.size + x.tgt.size + x.keep.length
def wsum (l : List StepV) : Nat := (l.map StepV.size).sum
def isLight (l : List StepV) : Bool := decide (l.length ≤ 300 ∧ wsum l ≤ 50000)
theorem wsum_take_le (l : List StepV) (k : Nat) : wsum (l.take k) ≤ wsum l := by
  unfold wsum
  have : l.map StepV.size = (l.take k).map StepV.size ++ (l.drop k).map StepV.size := by rw [← List.map_append, List.take_append_drop]
  rw [this, List.sum_append]; omega
theorem wsum_succ (l : List StepV) {k : Nat} (h : k < l.length) : wsum (l.take (k + 1)) = wsum (l.take k) + l[k].size := by
  unfold wsum
  rw [List.take_succ_eq_append_getElem h, List.map_append, List.sum_append]; simp
theorem StepAt.touch {w w' : World} {g o : Nat} {x : StepV} (h : StepAt w g o x) (t : Touch (fun _ => False) w w') : StepAt w' g o x := by
  have hg : g < w.heap.size := World.block_lt_of_cell? _ _ h.c0
  exact ⟨(t.cell hg id _).trans h.c0, (t.cell hg id _).trans h.c1, (t.cell hg id _).trans h.c2, (t.cell hg id _).trans h.c3, (t.cell hg id _).trans h.c4, (t.cell hg id _).trans h.c5⟩

set_option maxRecDepth 100000 in
set_option maxHeartbeats 1600000 in
theorem light_any (w : World) (ao : Option Addr) (l : List StepV) (n cap : Nat) (hn : n = l.length) (hS : Steps w ao l) (hlen : l.length ≤ 140737488355328) :
    Calls Try.prog 5 #[.slice ao n cap] w fun e w' => e = .returned (.bool (isLight l)) ∧ Touch (fun _ => False) w w' := by
  subst hn
  have HS : Hid (Steps w ao l) := hS
  clear hS
  go_enter Try.func5, Try.ntmps5
  go_wp2_with fail
  go_loopw [3, 4] (fun a b wr => ∃ k : Nat, b = .int .i64 (k : Int) ∧ k ≤ l.length ∧ a = .int .i64 (wsum (l.take k) : Int) ∧ wsum (l.take k) ≤ 1125899906892624 ∧ Touch (fun _ => False) w wr) (fun _ b _ => (l.length - intOf b).toNat)
  case atStart => exact ⟨0, rfl, Nat.zero_le _, by simp [wsum], by simp [wsum], Touch.refl _ _⟩
  case round =>
    obtain ⟨k, rfl, hk, rfl, hb, hT⟩ := hrel
    have HT : Hid (Touch (fun _ => False) w wr) := hT
    clear hT
    by_cases hlt : k < l.length
    · by_cases hsm : wsum (l.take k) ≤ 50000
      · obtain ⟨g, off, rfl, hA⟩ := HS.out.cells k hlt
        have hA2 := hA.touch HT.out
        have hok := HS.out.ok l[k] (List.getElem_mem hlt)
        have HW : Hid (wsum (l.take (k + 1)) = wsum (l.take k) + l[k].size) := wsum_succ l hlt
        obtain ⟨o0, ho0⟩ : ∃ o0, o0 = off + k * 6 := ⟨_, rfl⟩
        have c2 := hA2.c2
        have c3 := hA2.c3
        have c4 := hA2.c4
        have c5 := hA2.c5
        have z2 := hok.name
        have z3 := hok.tgt
        have z4 := hok.blen
        have z5 := hok.klen
        clear hA hA2 hok
        generalize l[k] = x at *
        generalize wsum (l.take k) = W at *
        have hsmI : (W : Int) ≤ 50000 := by omega
        go_wp2_with fail
        go_region
        go_wp2_with fail
        go_roundw
        case rel =>
          refine ⟨k + 1, by go_num, by omega, ?_, ?_, HT.out.drew⟩
          · rw [HW.out]; unfold StepV.size; congr 1; omega
          · rw [HW.out]; unfold StepV.size; omega
        case measure => simp [intOf]; omega
      · have hsmI : decide ((wsum (l.take k) : Int) ≤ 50000) = false := by simp; omega
        have HQ : Hid (isLight l = false) := by
          have := wsum_take_le l k
          unfold isLight; exact decide_eq_false (fun h => by omega)
        generalize wsum (l.take k) = W at *
        go_wp2_with fail
        all_goals go_ret
        all_goals exact ⟨by rw [HQ.out]; simp_all, HT.out⟩
    · have hke : k = l.length := by omega
      have HQ : Hid (isLight l = decide (l.length ≤ 300 ∧ wsum (l.take k) ≤ 50000)) := by rw [hke, List.take_length]; rfl
      generalize wsum (l.take k) = W at *
      subst hke
      go_wp2_with fail
      all_goals go_ret
      all_goals exact ⟨by rw [HQ.out]; by_cases hww : W ≤ 50000 <;> by_cases hll : l.length ≤ 300 <;> simp [hww, hll] <;> omega, HT.out⟩
end Go.Proofs.Ytfmpbkdmcgkeoaa
