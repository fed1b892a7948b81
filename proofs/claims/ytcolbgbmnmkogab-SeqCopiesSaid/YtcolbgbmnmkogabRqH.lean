/- The document's tree of units (quireref9): one more node. -/
import Derived.Test.YtcolbgbmnmkogabRqA
import Derived.Test.YtcolbgbmnmkogabSeqB
namespace Go.Proofs.Ytcolbgbmnmkogab
open Go.RowKit Go.Maps
set_option linter.unusedVariables false
set_option linter.unusedSimpArgs false
set_option maxRecDepth 100000

theorem infoN : (Try.prog.info? 84).map (fun i => (i.zero, i.size, i.bytes)) = some (some (.agg #[u64 0, u64 0, u64 0, u64 0, u64 0, u64 0, iV 0, .bool false, .slice none 0 0, .slice none 0 0]), 10, 112) := by kernel_rfl
abbrev mnO (x : Mn) : Obj := .cells #[u64 x.u.c, u64 x.u.k, u64 x.u.lc, u64 x.u.lk, u64 x.u.rc, u64 x.u.rk, iV x.par, .bool x.left, x.lv, x.mv] 84
theorem cellsMn_one (x : Mn) (h1 : x.lv.oneCell' = true) (h2 : x.mv.oneCell' = true) : ∀ u ∈ [x].flatMap cellMn, u.oneCell' = true := by
  intro u hu
  simp only [List.flatMap_cons, List.flatMap_nil, List.append_nil, cellMn, List.mem_cons, List.not_mem_nil, or_false] at hu
  rcases hu with rfl | rfl | rfl | rfl | rfl | rfl | rfl | rfl | rfl | rfl <;> first | rfl | assumption
/-- An append to a slice of nodes that has no room: it lies anew. -/
theorem append_nd {w : World} {ao : Option Addr} {cap : Nat} {M : List Mn} (hown : w.ownsRow 0 84 10 (.slice ao M.length cap) M.length (M.flatMap cellMn)) (x : Mn) (h1 : x.lv.oneCell' = true) (h2 : x.mv.oneCell' = true) (hl : M.length ≤ 1073741824) :
    ∃ g' cap' w', (Builtin.append_ #[59, 59] 59 #[.slice ao M.length M.length, .slice (some ⟨w.heap.size, 0, none⟩) 1 1]).run Try.prog (w.alloc (mnO x)) = .ok (.slice (some ⟨g', 0, none⟩) (M.length + 1) cap') w' ∧
      w'.ownsRow 0 84 10 (.slice (some ⟨g', 0, none⟩) (M.length + 1) cap') (M.length + 1) ((M ++ [x]).flatMap cellMn) ∧ w.heap.size ≤ g' ∧ Touch (fun _ => False) w w' := by
  obtain ⟨i0, hi, hz0, hz1, hz2⟩ := info_parts infoN
  have hT : Touch (fun _ => False) w (w.alloc (mnO x)) := (Touch.refl _ _).alloc _
  have hcl : ∀ j u, ([x].flatMap cellMn)[j]? = some u → (w.alloc (mnO x)).cell? ((⟨w.heap.size, 0, none⟩ : Addr).add j) = some u := by
    intro j u hu
    rw [addr_addH, Nat.zero_add, cell_of_block (heap_alloc_new w (mnO x))]
    have : ([x].flatMap cellMn)[j]? = (#[u64 x.u.c, u64 x.u.k, u64 x.u.lc, u64 x.u.lk, u64 x.u.rc, u64 x.u.rk, iV x.par, .bool x.left, x.lv, x.mv] : Array Value)[j]? := by simp [cellMn]
    rw [← this]; exact hu
  have hlen1 : ([x].flatMap cellMn).length = 1 * 10 := flat_len cellMn 10 cellMn_len [x]
  rcases hown.2 with ⟨e, h0⟩ | ⟨g, cap', cur, e, _, hg, q1, q2, q3, q4⟩
  · have hM : M = [] := List.length_eq_zero_iff.1 h0
    subst hM
    simp only [Value.slice.injEq] at e
    obtain ⟨rfl, -, -⟩ := e
    obtain ⟨v', w', hrun, hown', hgr, _, hat⟩ := run_append_own_at (w.alloc (mnO x)) 0 59 59 84 i0 _ 10 112 Try.underlying59 hi hz0 hz1 hz2 rfl (by decide) (.slice none 0 0) 0 [] (World.ownsRow_nil _ _ _ _) ⟨w.heap.size, 0, none⟩ 1 1 ([x].flatMap cellMn) hlen1 hcl (cellsMn_one x h1 h2) (by unfold maxLen; omega) (by omega) (Nat.zero_le _)
    rcases hown'.2 with ⟨_, h9⟩ | ⟨g', cap', cur', rfl, r⟩
    · omega
    · refine ⟨g', cap', w', hrun, hown', ?_, hT.trans ⟨hgr.os, hgr.tape, hgr.output, hgr.size, fun k hk _ => hgr.block k hk (by simp [Value.ownBlock])⟩⟩
      have : g' = (w.alloc (mnO x)).heap.size := by simpa [Value.ownBlock] using hat
      have hs : (w.alloc (mnO x)).heap.size = w.heap.size + 1 := by simp
      omega
  · simp only [Value.slice.injEq] at e
    obtain ⟨rfl, -, rfl⟩ := e
    have hlt := lt_of_heap hg
    have hgA : (w.alloc (mnO x)).heap[g]? = some (.cells cur 84 (0, 0)) := by rw [Below.heap_alloc _ _ _ hlt]; exact hg
    have hlo : (M.flatMap cellMn).length = M.length * 10 := flat_len cellMn 10 cellMn_len M
    have holds : ∀ j u, (M.flatMap cellMn)[j]? = some u → (w.alloc (mnO x)).cell? ((⟨g, 0, none⟩ : Addr).add j) = some u := by
      intro j u hu
      rw [addr_addH, Nat.zero_add, cell_of_block hgA, ← Array.getElem?_toList]
      rw [← q4, List.getElem?_take] at hu
      split at hu
      · exact hu
      · cases hu
    have hr := run_append_grow (P := Try.prog) (w := w.alloc (mnO x)) 59 59 84 i0 _ Try.underlying59 hi hz0 ⟨g, 0, none⟩ M.length M.length (M.flatMap cellMn) (by rw [hz1]; exact hlo) holds ⟨w.heap.size, 0, none⟩ 1 1 ([x].flatMap cellMn) (by rw [hz1]; exact hlen1) hcl (by omega) (by omega) (growslice_fits (by omega) (by rw [hz2]; omega))
    have hge := grownCap_ge (w.alloc (mnO x)) (M.length + 1) M.length 84
    have hcm := grownCap_le_maxLen (w.alloc (mnO x)) (M.length + 1) M.length 84 (by unfold maxLen; omega)
    refine ⟨_, _, _, hr, ⟨by rw [flat_len cellMn 10 cellMn_len, List.length_append]; rfl, .inr ⟨_, _, _, rfl, Nat.zero_le _, heap_alloc_new _ _, hge, hcm, ?_, ?_⟩⟩, ?_, (hT.drew).alloc _⟩
    · simp only [Array.size_append, List.size_toArray, size_zeroCells, hlo, hlen1, ← Nat.add_mul]
      show (M.length + 1) * 10 + (grownCap (w.alloc (mnO x)) (M.length + 1) M.length 84 - (M.length + 1)) * 10 = _
      omega
    · simp only [Array.toList_append, List.append_assoc, List.flatMap_append]
      rw [← List.append_assoc, show (M.length + 1) * 10 = (M.flatMap cellMn ++ [x].flatMap cellMn).length from by rw [List.length_append, hlo, hlen1]; omega]
      exact List.take_left
    · simp
end Go.Proofs.Ytcolbgbmnmkogab
