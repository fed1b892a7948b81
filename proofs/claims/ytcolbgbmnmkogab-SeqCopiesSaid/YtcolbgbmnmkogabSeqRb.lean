/- Package seq's row: a thing more in the slice. -/
import Derived.Test.YtcolbgbmnmkogabSeqRa
import Derived.Test.YtcolbgbmnmkogabTreA
import Derived.Maps.AppendAt
import Derived.Laws.OwnMore
import Derived.Shelf.GgSortFunc.RowK
namespace Go.Proofs.Ytcolbgbmnmkogab
open Go.RowKit Go.Maps
set_option linter.unusedVariables false
set_option linter.unusedSimpArgs false
set_option maxRecDepth 100000

theorem cellsH_one (l : List Th) : ∀ u ∈ cellsH l, u.oneCell' = true := by
  intro u hu
  obtain ⟨f, _, hf⟩ := List.mem_flatMap.1 hu
  simp only [cellH, List.mem_cons, List.not_mem_nil, or_false] at hf
  rcases hf with rfl | rfl | rfl | rfl | rfl <;> rfl
theorem infoH : (Try.prog.info? 82).map (fun i => (i.zero, i.size, i.bytes)) = some (some (.agg #[iV 0, iV 0, iV 0, iV 0, iV 0]), 5, 40) := by kernel_rfl
abbrev zeroT : Th := ⟨0, 0, 0, 0, 0⟩
abbrev zeroTO : Obj := .cells #[iV 0, iV 0, iV 0, iV 0, iV 0] 82
theorem addr_addH (g o j : Nat) : (⟨g, o, none⟩ : Addr).add j = ⟨g, o + j, none⟩ := by
  unfold Addr.add
  split <;> simp_all
/-- What else stands behind an append that lays its slice into cell k of block b. -/
structure AddF (w w' : World) (b k g : Nat) : Prop where
  os : w'.os = w.os
  tape : w'.tape = w.tape
  output : w'.output = w.output
  size : w.heap.size ≤ w'.heap.size
  block : ∀ x, x < w.heap.size → x ≠ g → x ≠ b → w'.heap[x]? = w.heap[x]?
  cells : ∀ j, j ≠ k → w'.cell? ⟨b, j, none⟩ = w.cell? ⟨b, j, none⟩
  blk : ∀ c t fr, w.heap[b]? = some (.cells c t fr) → ∃ v, w'.heap[b]? = some (.cells (c.setIfInBounds k v) t fr)
theorem append_thing {w : World} {b k g cap : Nat} {L : List Th} (h : Things w b k g cap L) (hl : L.length ≤ 1073741824) :
    ∃ g' cap' w', (Builtin.append_ #[52, 52] 52 #[.slice (some ⟨g, 0, none⟩) L.length cap, .slice (some ⟨w.heap.size, 0, none⟩) 1 1]).run Try.prog (w.alloc zeroTO) = .ok (.slice (some ⟨g', 0, none⟩) (L.length + 1) cap') w' ∧
      Things (w'.setCell ⟨b, k, none⟩ (.slice (some ⟨g', 0, none⟩) (L.length + 1) cap')) b k g' cap' (L ++ [zeroT]) ∧ AddF w (w'.setCell ⟨b, k, none⟩ (.slice (some ⟨g', 0, none⟩) (L.length + 1) cap')) b k g ∧ (g' = g ∨ w.heap.size ≤ g') ∧ (∃ v, w'.cell? ⟨b, k, none⟩ = some v) ∧ w'.heap[b]? = w.heap[b]? := by
  obtain ⟨i0, hi, hz0, hz1, hz2⟩ := info_parts infoH
  obtain ⟨cur, c1, c2, c3, c4, c5⟩ := h.row
  have hg := h.lt
  have hb : b < w.heap.size := World.block_lt_of_cell? _ _ h.cell
  have hgA : (w.alloc zeroTO).heap[g]? = some (.cells cur 82 (0, 0)) := by rw [Below.heap_alloc _ _ _ hg]; exact c1
  have hown : (w.alloc zeroTO).ownsRow 0 82 5 (.slice (some ⟨g, 0, none⟩) L.length cap) L.length (cellsH L) := ⟨cellsH_len L, .inr ⟨g, cap, cur, rfl, Nat.zero_le _, hgA, c3, by unfold maxLen; omega, c2, c5⟩⟩
  have hcl : ∀ j u, (cellsH [zeroT])[j]? = some u → (w.alloc zeroTO).cell? ((⟨w.heap.size, 0, none⟩ : Addr).add j) = some u := by
    intro j u hu
    rw [addr_addH, Nat.zero_add, cell_of_block (heap_alloc_new w zeroTO)]
    have : (cellsH [zeroT])[j]? = (#[iV 0, iV 0, iV 0, iV 0, iV 0] : Array Value)[j]? := by simp [cellsH, cellH]
    rw [← this]; exact hu
  obtain ⟨v', w', hrun, hown', hgr, _, hat⟩ := run_append_own_at (w.alloc zeroTO) 0 52 52 82 i0 _ 5 40 Try.underlying52 hi hz0 hz1 hz2 rfl (by decide) (.slice (some ⟨g, 0, none⟩) L.length cap) L.length (cellsH L) hown ⟨w.heap.size, 0, none⟩ 1 1 (cellsH [zeroT]) (cellsH_len [zeroT]) hcl (cellsH_one [zeroT]) (by unfold maxLen; omega) (by omega) (Nat.zero_le _)
  rcases hown'.2 with ⟨_, h9⟩ | ⟨g', cap', cur', rfl, _, hg', d1, d2, d3, d4⟩
  · omega
  have hat' : g' = g ∨ g' = (w.alloc zeroTO).heap.size := by simpa [Value.ownBlock] using hat
  have hsz : (w.alloc zeroTO).heap.size = w.heap.size + 1 := by simp
  have hbg' : b ≠ g' := by
    rcases hat' with e | e
    · rw [e]; exact h.ne
    · omega
  have hold : ∀ x, x < w.heap.size → x ≠ g → w'.heap[x]? = w.heap[x]? := fun x hx hxg => by
    rw [hgr.block x (by omega) (by simp [Value.ownBlock]; omega)]
    exact Below.heap_alloc _ _ _ hx
  have hbo : w'.heap[b]? = w.heap[b]? := hold b hb h.ne
  have hcb : w'.cell? ⟨b, k, none⟩ = w.cell? ⟨b, k, none⟩ := World.cell?_of_block hbo
  refine ⟨g', cap', w', hrun, ⟨?_, hbg', cur', ?_, d3, by simpa using d1, by unfold maxLen at d2; omega, ?_⟩, ⟨?_, ?_, ?_, ?_, ?_, ?_, ?_⟩, ?_, ⟨_, by rw [hcb]; exact h.cell⟩, hbo⟩
  · rw [List.length_append]
    exact World.cell?_setCell_same' w' ⟨b, k, none⟩ _ (by rw [hcb, h.cell]; rfl)
  · rw [Below.heap_setCell _ _ _ _ (Ne.symm hbg')]; exact hg'
  · rw [List.length_append, cellsH_append]; exact d4
  · exact hgr.os
  · exact hgr.tape
  · exact hgr.output
  · have := hgr.size
    simp only [World.setCell, World.alloc] at this ⊢
    simp at this ⊢
    omega
  · intro x hx hxg hxb
    rw [Below.heap_setCell _ _ _ _ hxb]
    exact hold x hx hxg
  · intro j hj
    have hne : (⟨b, k, none⟩ : Addr) ≠ ⟨b, j, none⟩ := fun e => by simp only [Addr.mk.injEq] at e; exact hj e.2.1.symm
    exact (World.cell?_setCell_other w' _ _ _ hne).trans (World.cell?_of_block hbo)
  · intro c t fr hb'
    exact ⟨_, heap_setCell_same _ _ _ _ (hbo.trans hb')⟩
  · rcases hat' with e | e
    · exact .inl e
    · exact .inr (by omega)
end Go.Proofs.Ytcolbgbmnmkogab
