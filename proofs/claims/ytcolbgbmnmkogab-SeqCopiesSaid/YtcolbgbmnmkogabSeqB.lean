/- Package seq: one more piece, one more run. -/
import Derived.Test.YtcolbgbmnmkogabSeqA
namespace Go.Proofs.Ytcolbgbmnmkogab
open Go.RowKit Go.Maps
set_option linter.unusedVariables false
set_option linter.unusedSimpArgs false
set_option maxRecDepth 100000

theorem step_append {w w' : World} {ops : Array Oper} {o : Oper} {a : Act} {K : Act → World → Prop} {Q : Exit → Act → World → Prop} {E : Prop} (t : Nat) (hw : Region.wanted o (yielded ops a.tmps) = true) (s x : Operand)
    (ho : o.op = .call { callee := .builtin .append, args := #[s, x], argTypes := #[t, t] }) (v y v' : Value) (hs : a.eval s = v) (hx : a.eval x = y)
    (hrun : (Builtin.append_ #[t, t] o.type #[v, y]).run Try.prog w = .ok v' w') (h : K (a.put o.dst v') w') :
    if Region.wanted o (yielded ops a.tmps) = true then Oper.wp Try.prog o a w K Q else E := by
  rw [if_pos hw]
  unfold Oper.wp
  simp [execOp, ho, resolve, invoke, builtin, hs, hx, hrun, Result.andThen]
  exact h
theorem cellsP_one (l : List Sp) : ∀ u ∈ l.flatMap cellSp, u.oneCell' = true := by
  intro u hu
  obtain ⟨f, _, hf⟩ := List.mem_flatMap.1 hu
  simp only [cellSp, List.mem_cons, List.not_mem_nil, or_false] at hf
  rcases hf with rfl | rfl <;> rfl
theorem cellsR_one (l : List Rn) : ∀ u ∈ l.flatMap cellRn, u.oneCell' = true := by
  intro u hu
  obtain ⟨f, _, hf⟩ := List.mem_flatMap.1 hu
  simp only [cellRn, List.mem_cons, List.not_mem_nil, or_false] at hf
  rcases hf with rfl | rfl | rfl | rfl | rfl | rfl | rfl | rfl | rfl | rfl | rfl <;> rfl
theorem infoP : (Try.prog.info? 47).map (fun i => (i.zero, i.size, i.bytes)) = some (some (.agg #[iV 0, u64 0]), 2, 16) := by kernel_rfl
theorem infoR : (Try.prog.info? 49).map (fun i => (i.zero, i.size, i.bytes)) = some (some (.agg #[u64 0, u64 0, u64 0, u64 0, u64 0, u64 0, iV 0, u64 0, iV 0, u64 0, iV 0]), 11, 88) := by kernel_rfl
abbrev rnO (r : Rn) : Obj := .cells #[u64 r.first.c, u64 r.first.k, u64 r.first.lc, u64 r.first.lk, u64 r.first.rc, u64 r.first.rk, iV (r.par.run : Int), u64 r.par.pos, iV (r.far.run : Int), u64 r.far.pos, iV r.depth] 49
abbrev spO' (x : Sp) : Obj := .cells #[iV (x.run : Int), u64 x.pos] 47
theorem append_sp {w : World} {b k g cap : Nat} {L : List Sp} (x : Sp) (h : PcsAt w b k g cap L) (hl : L.length ≤ 1073741824) :
    ∃ g' cap' w', (Builtin.append_ #[51, 51] 51 #[.slice (some ⟨g, 0, none⟩) L.length cap, .slice (some ⟨w.heap.size, 0, none⟩) 1 1]).run Try.prog (w.alloc (spO' x)) = .ok (.slice (some ⟨g', 0, none⟩) (L.length + 1) cap') w' ∧
      PcsAt (w'.setCell ⟨b, k, none⟩ (.slice (some ⟨g', 0, none⟩) (L.length + 1) cap')) b k g' cap' (L ++ [x]) ∧ AddF w (w'.setCell ⟨b, k, none⟩ (.slice (some ⟨g', 0, none⟩) (L.length + 1) cap')) b k g ∧ (g' = g ∨ w.heap.size ≤ g') ∧ (∃ v, w'.cell? ⟨b, k, none⟩ = some v) ∧ w'.heap[b]? = w.heap[b]? := by
  obtain ⟨i0, hi, hz0, hz1, hz2⟩ := info_parts infoP
  obtain ⟨cur, c1, c2, c3, c4, c5⟩ := h.row
  have hg := h.lt
  have hb : b < w.heap.size := World.block_lt_of_cell? _ _ h.cell
  have hgA : (w.alloc (spO' x)).heap[g]? = some (.cells cur 47 (0, 0)) := by rw [Below.heap_alloc _ _ _ hg]; exact c1
  have hown : (w.alloc (spO' x)).ownsRow 0 47 2 (.slice (some ⟨g, 0, none⟩) L.length cap) L.length (L.flatMap cellSp) := ⟨flat_len cellSp 2 cellSp_len L, .inr ⟨g, cap, cur, rfl, Nat.zero_le _, hgA, c3, by unfold maxLen; omega, c2, c5⟩⟩
  have hcl : ∀ j u, ([x].flatMap cellSp)[j]? = some u → (w.alloc (spO' x)).cell? ((⟨w.heap.size, 0, none⟩ : Addr).add j) = some u := by
    intro j u hu
    rw [addr_addH, Nat.zero_add, cell_of_block (heap_alloc_new w (spO' x))]
    have : ([x].flatMap cellSp)[j]? = (#[iV (x.run : Int), u64 x.pos] : Array Value)[j]? := by simp [cellSp]
    rw [← this]; exact hu
  obtain ⟨v', w', hrun, hown', hgr, _, hat⟩ := run_append_own_at (w.alloc (spO' x)) 0 51 51 47 i0 _ 2 16 Try.underlying51 hi hz0 hz1 hz2 rfl (by decide) (.slice (some ⟨g, 0, none⟩) L.length cap) L.length (L.flatMap cellSp) hown ⟨w.heap.size, 0, none⟩ 1 1 ([x].flatMap cellSp) (flat_len cellSp 2 cellSp_len [x]) hcl (cellsP_one [x]) (by unfold maxLen; omega) (by omega) (Nat.zero_le _)
  rcases hown'.2 with ⟨_, h9⟩ | ⟨g', cap', cur', rfl, _, hg', d1, d2, d3, d4⟩
  · omega
  have hat' : g' = g ∨ g' = (w.alloc (spO' x)).heap.size := by simpa [Value.ownBlock] using hat
  have hsz : (w.alloc (spO' x)).heap.size = w.heap.size + 1 := by simp
  have hbg' : b ≠ g' := by
    rcases hat' with e | e
    · rw [e]; exact h.ne
    · omega
  have hold : ∀ x, x < w.heap.size → x ≠ g → w'.heap[x]? = w.heap[x]? := fun x hx hxg => by
    rw [hgr.block x (by omega) (by simp [Value.ownBlock]; omega)]
    exact Below.heap_alloc _ _ _ hx
  have hbo : w'.heap[b]? = w.heap[b]? := hold b hb h.ne
  have hcb : w'.cell? ⟨b, k, none⟩ = w.cell? ⟨b, k, none⟩ := World.cell?_of_block hbo
  refine ⟨g', cap', w', hrun, ⟨?_, hbg', cur', ?_, d3, by simpa using d1, by unfold maxLen at d2; omega, ?_⟩, ⟨?_, ?_, ?_, ?_, ?_, ?_, ?_⟩, ?_, ⟨_, by rw [hcb]; exact h.cell⟩, hbo⟩
  · rw [List.length_append]
    exact World.cell?_setCell_same' w' ⟨b, k, none⟩ _ (by rw [hcb, h.cell]; rfl)
  · rw [Below.heap_setCell _ _ _ _ (Ne.symm hbg')]; exact hg'
  · rw [List.length_append, List.flatMap_append]; exact d4
  · exact hgr.os
  · exact hgr.tape
  · exact hgr.output
  · have := hgr.size
    simp only [World.setCell, World.alloc] at this ⊢
    simp at this ⊢
    omega
  · intro x hx hxg hxb
    rw [Below.heap_setCell _ _ _ _ hxb]
    exact hold x hx hxg
  · intro j hj
    have hne : (⟨b, k, none⟩ : Addr) ≠ ⟨b, j, none⟩ := fun e => by simp only [Addr.mk.injEq] at e; exact hj e.2.1.symm
    exact (World.cell?_setCell_other w' _ _ _ hne).trans (World.cell?_of_block hbo)
  · intro c t fr hb'
    exact ⟨_, heap_setCell_same _ _ _ _ (hbo.trans hb')⟩
  · rcases hat' with e | e
    · exact .inl e
    · exact .inr (by omega)
theorem append_rn {w : World} {b k g cap : Nat} {L : List Rn} (x : Rn) (h : RunsAt w b k g cap L) (hl : L.length ≤ 1073741824) :
    ∃ g' cap' w', (Builtin.append_ #[50, 50] 50 #[.slice (some ⟨g, 0, none⟩) L.length cap, .slice (some ⟨w.heap.size, 0, none⟩) 1 1]).run Try.prog (w.alloc (rnO x)) = .ok (.slice (some ⟨g', 0, none⟩) (L.length + 1) cap') w' ∧
      RunsAt (w'.setCell ⟨b, k, none⟩ (.slice (some ⟨g', 0, none⟩) (L.length + 1) cap')) b k g' cap' (L ++ [x]) ∧ AddF w (w'.setCell ⟨b, k, none⟩ (.slice (some ⟨g', 0, none⟩) (L.length + 1) cap')) b k g ∧ (g' = g ∨ w.heap.size ≤ g') ∧ (∃ v, w'.cell? ⟨b, k, none⟩ = some v) ∧ w'.heap[b]? = w.heap[b]? := by
  obtain ⟨i0, hi, hz0, hz1, hz2⟩ := info_parts infoR
  obtain ⟨cur, c1, c2, c3, c4, c5⟩ := h.row
  have hg := h.lt
  have hb : b < w.heap.size := World.block_lt_of_cell? _ _ h.cell
  have hgA : (w.alloc (rnO x)).heap[g]? = some (.cells cur 49 (0, 0)) := by rw [Below.heap_alloc _ _ _ hg]; exact c1
  have hown : (w.alloc (rnO x)).ownsRow 0 49 11 (.slice (some ⟨g, 0, none⟩) L.length cap) L.length (L.flatMap cellRn) := ⟨flat_len cellRn 11 cellRn_len L, .inr ⟨g, cap, cur, rfl, Nat.zero_le _, hgA, c3, by unfold maxLen; omega, c2, c5⟩⟩
  have hcl : ∀ j u, ([x].flatMap cellRn)[j]? = some u → (w.alloc (rnO x)).cell? ((⟨w.heap.size, 0, none⟩ : Addr).add j) = some u := by
    intro j u hu
    rw [addr_addH, Nat.zero_add, cell_of_block (heap_alloc_new w (rnO x))]
    have : ([x].flatMap cellRn)[j]? = (#[u64 x.first.c, u64 x.first.k, u64 x.first.lc, u64 x.first.lk, u64 x.first.rc, u64 x.first.rk, iV (x.par.run : Int), u64 x.par.pos, iV (x.far.run : Int), u64 x.far.pos, iV x.depth] : Array Value)[j]? := by simp [cellRn]
    rw [← this]; exact hu
  obtain ⟨v', w', hrun, hown', hgr, _, hat⟩ := run_append_own_at (w.alloc (rnO x)) 0 50 50 49 i0 _ 11 88 Try.underlying50 hi hz0 hz1 hz2 rfl (by decide) (.slice (some ⟨g, 0, none⟩) L.length cap) L.length (L.flatMap cellRn) hown ⟨w.heap.size, 0, none⟩ 1 1 ([x].flatMap cellRn) (flat_len cellRn 11 cellRn_len [x]) hcl (cellsR_one [x]) (by unfold maxLen; omega) (by omega) (Nat.zero_le _)
  rcases hown'.2 with ⟨_, h9⟩ | ⟨g', cap', cur', rfl, _, hg', d1, d2, d3, d4⟩
  · omega
  have hat' : g' = g ∨ g' = (w.alloc (rnO x)).heap.size := by simpa [Value.ownBlock] using hat
  have hsz : (w.alloc (rnO x)).heap.size = w.heap.size + 1 := by simp
  have hbg' : b ≠ g' := by
    rcases hat' with e | e
    · rw [e]; exact h.ne
    · omega
  have hold : ∀ x, x < w.heap.size → x ≠ g → w'.heap[x]? = w.heap[x]? := fun x hx hxg => by
    rw [hgr.block x (by omega) (by simp [Value.ownBlock]; omega)]
    exact Below.heap_alloc _ _ _ hx
  have hbo : w'.heap[b]? = w.heap[b]? := hold b hb h.ne
  have hcb : w'.cell? ⟨b, k, none⟩ = w.cell? ⟨b, k, none⟩ := World.cell?_of_block hbo
  refine ⟨g', cap', w', hrun, ⟨?_, hbg', cur', ?_, d3, by simpa using d1, by unfold maxLen at d2; omega, ?_⟩, ⟨?_, ?_, ?_, ?_, ?_, ?_, ?_⟩, ?_, ⟨_, by rw [hcb]; exact h.cell⟩, hbo⟩
  · rw [List.length_append]
    exact World.cell?_setCell_same' w' ⟨b, k, none⟩ _ (by rw [hcb, h.cell]; rfl)
  · rw [Below.heap_setCell _ _ _ _ (Ne.symm hbg')]; exact hg'
  · rw [List.length_append, List.flatMap_append]; exact d4
  · exact hgr.os
  · exact hgr.tape
  · exact hgr.output
  · have := hgr.size
    simp only [World.setCell, World.alloc] at this ⊢
    simp at this ⊢
    omega
  · intro x hx hxg hxb
    rw [Below.heap_setCell _ _ _ _ hxb]
    exact hold x hx hxg
  · intro j hj
    have hne : (⟨b, k, none⟩ : Addr) ≠ ⟨b, j, none⟩ := fun e => by simp only [Addr.mk.injEq] at e; exact hj e.2.1.symm
    exact (World.cell?_setCell_other w' _ _ _ hne).trans (World.cell?_of_block hbo)
  · intro c t fr hb'
    exact ⟨_, heap_setCell_same _ _ _ _ (hbo.trans hb')⟩
  · rcases hat' with e | e
    · exact .inl e
    · exact .inr (by omega)
end Go.Proofs.Ytcolbgbmnmkogab
