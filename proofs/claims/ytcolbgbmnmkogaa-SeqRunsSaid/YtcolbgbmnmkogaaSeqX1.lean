/- Package seq: copies of its slices. -/
import Derived.Test.YtcolbgbmnmkogaaPart15
import Derived.Test.YtcolbgbmnmkogaaPart12
import Derived.Lib.AppendZeros
namespace Go.Proofs.Ytcolbgbmnmkogaa
open Go.RowKit Go.Maps
set_option linter.unusedVariables false
set_option linter.unusedSimpArgs false
set_option maxRecDepth 100000

/-- A block of structs' cells. -/
def BlkAt (m ty : Nat) (w : World) (g cap n : Nat) (cs : List Value) : Prop := ∃ cur, w.heap[g]? = some (.cells cur ty (0, 0)) ∧ cur.size = cap * m ∧ n ≤ cap ∧ cap ≤ 9223372036854775807 ∧ cur.toList.take (n * m) = cs
theorem BlkAt.keep {m ty : Nat} {w w' : World} {g cap n : Nat} {cs : List Value} (h : BlkAt m ty w g cap n cs) (t : Touch (fun _ => False) w w') : BlkAt m ty w' g cap n cs := by
  obtain ⟨cur, h0, h1⟩ := h
  exact ⟨cur, heap_keep t h0, h1⟩
theorem BlkAt.lt {m ty : Nat} {w : World} {g cap n : Nat} {cs : List Value} (h : BlkAt m ty w g cap n cs) : g < w.heap.size := by
  obtain ⟨cur, h0, h1⟩ := h
  exact lt_of_heap h0
theorem wpList_append_any {w w' : World} {ops : Array Oper} {rest : List Oper} {o : Oper} {a : Act} {Q : Exit → Act → World → Prop} {t : Nat} (hgd : o.guard = none) (s x : Operand)
    (ho : o.op = .call { callee := .builtin .append, args := #[s, x], argTypes := #[t, t] }) (v y v' : Value) (hs : a.eval s = v) (hx : a.eval x = y)
    (hrun : (Builtin.append_ #[t, t] o.type #[v, y]).run Try.prog w = .ok v' w') (h : wpList Try.prog ops Q rest (a.put o.dst v') w') : wpList Try.prog ops Q (o :: rest) a w := by
  refine wpList_plain hgd fun K' hK' => ?_
  unfold Oper.wp
  simp [execOp, ho, resolve, invoke, builtin, hs, hx, hrun, Result.andThen]
  exact hK' _ _ h
theorem cellH_len (x : Th) : (cellH x).length = 5 := rfl
set_option maxHeartbeats 8000000 in
theorem clone_rn {w : World} {g cap : Nat} {L : List Rn} (h : BlkAt 11 64 w g cap L.length (L.flatMap cellRn)) (hl : L.length ≤ 1073741824) :
    Calls Try.prog 34 #[.slice (some ⟨g, 0, none⟩) L.length cap] w fun e w' => ∃ g' cap', e = .returned (.slice (some ⟨g', 0, none⟩) L.length cap') ∧ w.heap.size ≤ g' ∧ BlkAt 11 64 w' g' cap' L.length (L.flatMap cellRn) ∧ Touch (fun _ => False) w w' := by
  have bz : ∀ W : World, (Instr.buildSlice 65 0 #[]).run Try.prog W = .ok (.slice (some ⟨W.heap.size, 0, none⟩) 0 0) (W.alloc (.cells #[] 64)) := fun W => by kernel_rfl
  obtain ⟨i0, hi, hz0, hz1, hz2⟩ := info_parts infoR
  obtain ⟨cur, c1, c2, c3, c4, c5⟩ := h
  have hg := lt_of_heap c1
  have hlen : ∀ L : List Rn, (L.flatMap cellRn).length = L.length * 11 := flat_len cellRn 11 cellRn_len
  have hown : (w.alloc (.cells #[] 64)).ownsRow 0 64 11 (.slice (some ⟨w.heap.size, 0, none⟩) 0 0) 0 [] := ⟨rfl, .inr ⟨w.heap.size, 0, #[], rfl, Nat.zero_le _, heap_alloc_new w _, Nat.le_refl _, by unfold maxLen; omega, rfl, rfl⟩⟩
  have hcl : ∀ j u, (L.flatMap cellRn)[j]? = some u → (w.alloc (.cells #[] 64)).cell? ((⟨g, 0, none⟩ : Addr).add j) = some u := by
    intro j u hu
    have hg' : (w.alloc (.cells #[] 64)).heap[g]? = some (.cells cur 64 (0, 0)) := by rw [Below.heap_alloc _ _ _ hg]; exact c1
    rw [addr_addH, Nat.zero_add, cell_of_block hg', ← Array.getElem?_toList]
    rw [← c5, List.getElem?_take] at hu
    split at hu
    · exact hu
    · cases hu
  obtain ⟨v', w', hrun, hown', hgr, _, hat⟩ := run_append_own_at (w.alloc (.cells #[] 64)) 0 65 65 64 i0 _ 11 88 Try.underlying65 hi hz0 hz1 hz2 rfl (by decide) (.slice (some ⟨w.heap.size, 0, none⟩) 0 0) 0 [] hown ⟨g, 0, none⟩ L.length cap (L.flatMap cellRn) (hlen L) hcl (cellsR_one L) (by unfold maxLen; omega) (by omega) (Nat.zero_le _)
  have HR : Hid ((Builtin.append_ #[65, 65] 65 #[.slice (some ⟨w.heap.size, 0, none⟩) 0 0, .slice (some ⟨g, 0, none⟩) L.length cap]).run Try.prog (w.alloc (.cells #[] 64)) = .ok v' w') := hrun
  have HF : Hid (∃ g' cap', v' = .slice (some ⟨g', 0, none⟩) L.length cap' ∧ w.heap.size ≤ g' ∧ BlkAt 11 64 w' g' cap' L.length (L.flatMap cellRn) ∧ Touch (fun _ => False) w w') := by
    have hT : Touch (fun _ => False) w w' := ((Touch.refl (fun _ => False) w).alloc (.cells #[] 64)).then ((Touch.refl (fun i => i = w.heap.size) _).grown hgr (fun i e _ => by simpa [Value.ownBlock, eq_comm] using e)) fun i hi e => absurd hi (by omega)
    rw [Nat.zero_add, List.nil_append] at hown'
    rcases hown'.2 with ⟨e, h9⟩ | ⟨g', cap', cur', e, _, hg', d1, d2, d3, d4⟩
    · rcases hat with h' | h' <;> (rw [e] at h'; simp [Value.ownBlock] at h')
    · refine ⟨g', cap', e, ?_, ⟨cur', hg', d3, d1, by unfold maxLen at d2; omega, d4⟩, hT⟩
      have hsz : (w.alloc (.cells #[] 64)).heap.size = w.heap.size + 1 := by simp
      rw [e] at hat
      simp only [Value.ownBlock, Option.some.injEq] at hat
      rcases hat with e' | e' <;> omega
  have heq := Lib.run_eql_slice_nil (P := Try.prog)
  clear hown hcl hrun hown' hgr hat c1 c2 c3 c4 c5 hi hz0 hz1 hz2 hlen
  go_enter Try.func34, Try.ntmps34
  go_wp2_with (first | (at_builtin; refine wpList_append_any rfl _ _ rfl _ _ _ rfl rfl HR.out ?_))
  go_ret
  obtain ⟨g', cap', e, r⟩ := HF.out
  exact ⟨g', cap', congrArg Ending.returned e, r⟩
set_option maxHeartbeats 8000000 in
theorem clone_sp {w : World} {g cap : Nat} {L : List Sp} (h : BlkAt 2 62 w g cap L.length (L.flatMap cellSp)) (hl : L.length ≤ 1073741824) :
    Calls Try.prog 35 #[.slice (some ⟨g, 0, none⟩) L.length cap] w fun e w' => ∃ g' cap', e = .returned (.slice (some ⟨g', 0, none⟩) L.length cap') ∧ w.heap.size ≤ g' ∧ BlkAt 2 62 w' g' cap' L.length (L.flatMap cellSp) ∧ Touch (fun _ => False) w w' := by
  have bz : ∀ W : World, (Instr.buildSlice 66 0 #[]).run Try.prog W = .ok (.slice (some ⟨W.heap.size, 0, none⟩) 0 0) (W.alloc (.cells #[] 62)) := fun W => by kernel_rfl
  obtain ⟨i0, hi, hz0, hz1, hz2⟩ := info_parts infoP
  obtain ⟨cur, c1, c2, c3, c4, c5⟩ := h
  have hg := lt_of_heap c1
  have hlen : ∀ L : List Sp, (L.flatMap cellSp).length = L.length * 2 := flat_len cellSp 2 cellSp_len
  have hown : (w.alloc (.cells #[] 62)).ownsRow 0 62 2 (.slice (some ⟨w.heap.size, 0, none⟩) 0 0) 0 [] := ⟨rfl, .inr ⟨w.heap.size, 0, #[], rfl, Nat.zero_le _, heap_alloc_new w _, Nat.le_refl _, by unfold maxLen; omega, rfl, rfl⟩⟩
  have hcl : ∀ j u, (L.flatMap cellSp)[j]? = some u → (w.alloc (.cells #[] 62)).cell? ((⟨g, 0, none⟩ : Addr).add j) = some u := by
    intro j u hu
    have hg' : (w.alloc (.cells #[] 62)).heap[g]? = some (.cells cur 62 (0, 0)) := by rw [Below.heap_alloc _ _ _ hg]; exact c1
    rw [addr_addH, Nat.zero_add, cell_of_block hg', ← Array.getElem?_toList]
    rw [← c5, List.getElem?_take] at hu
    split at hu
    · exact hu
    · cases hu
  obtain ⟨v', w', hrun, hown', hgr, _, hat⟩ := run_append_own_at (w.alloc (.cells #[] 62)) 0 66 66 62 i0 _ 2 16 Try.underlying66 hi hz0 hz1 hz2 rfl (by decide) (.slice (some ⟨w.heap.size, 0, none⟩) 0 0) 0 [] hown ⟨g, 0, none⟩ L.length cap (L.flatMap cellSp) (hlen L) hcl (cellsP_one L) (by unfold maxLen; omega) (by omega) (Nat.zero_le _)
  have HR : Hid ((Builtin.append_ #[66, 66] 66 #[.slice (some ⟨w.heap.size, 0, none⟩) 0 0, .slice (some ⟨g, 0, none⟩) L.length cap]).run Try.prog (w.alloc (.cells #[] 62)) = .ok v' w') := hrun
  have HF : Hid (∃ g' cap', v' = .slice (some ⟨g', 0, none⟩) L.length cap' ∧ w.heap.size ≤ g' ∧ BlkAt 2 62 w' g' cap' L.length (L.flatMap cellSp) ∧ Touch (fun _ => False) w w') := by
    have hT : Touch (fun _ => False) w w' := ((Touch.refl (fun _ => False) w).alloc (.cells #[] 62)).then ((Touch.refl (fun i => i = w.heap.size) _).grown hgr (fun i e _ => by simpa [Value.ownBlock, eq_comm] using e)) fun i hi e => absurd hi (by omega)
    rw [Nat.zero_add, List.nil_append] at hown'
    rcases hown'.2 with ⟨e, h9⟩ | ⟨g', cap', cur', e, _, hg', d1, d2, d3, d4⟩
    · rcases hat with h' | h' <;> (rw [e] at h'; simp [Value.ownBlock] at h')
    · refine ⟨g', cap', e, ?_, ⟨cur', hg', d3, d1, by unfold maxLen at d2; omega, d4⟩, hT⟩
      have hsz : (w.alloc (.cells #[] 62)).heap.size = w.heap.size + 1 := by simp
      rw [e] at hat
      simp only [Value.ownBlock, Option.some.injEq] at hat
      rcases hat with e' | e' <;> omega
  have heq := Lib.run_eql_slice_nil (P := Try.prog)
  clear hown hcl hrun hown' hgr hat c1 c2 c3 c4 c5 hi hz0 hz1 hz2 hlen
  go_enter Try.func35, Try.ntmps35
  go_wp2_with (first | (at_builtin; refine wpList_append_any rfl _ _ rfl _ _ _ rfl rfl HR.out ?_))
  go_ret
  obtain ⟨g', cap', e, r⟩ := HF.out
  exact ⟨g', cap', congrArg Ending.returned e, r⟩
set_option maxHeartbeats 8000000 in
theorem clone_th {w : World} {g cap : Nat} {L : List Th} (h : BlkAt 5 98 w g cap L.length (L.flatMap cellH)) (hl : L.length ≤ 1073741824) :
    Calls Try.prog 63 #[.slice (some ⟨g, 0, none⟩) L.length cap] w fun e w' => ∃ g' cap', e = .returned (.slice (some ⟨g', 0, none⟩) L.length cap') ∧ w.heap.size ≤ g' ∧ BlkAt 5 98 w' g' cap' L.length (L.flatMap cellH) ∧ Touch (fun _ => False) w w' := by
  have bz : ∀ W : World, (Instr.buildSlice 67 0 #[]).run Try.prog W = .ok (.slice (some ⟨W.heap.size, 0, none⟩) 0 0) (W.alloc (.cells #[] 98)) := fun W => by kernel_rfl
  obtain ⟨i0, hi, hz0, hz1, hz2⟩ := info_parts infoH
  obtain ⟨cur, c1, c2, c3, c4, c5⟩ := h
  have hg := lt_of_heap c1
  have hlen : ∀ L : List Th, (L.flatMap cellH).length = L.length * 5 := flat_len cellH 5 cellH_len
  have hown : (w.alloc (.cells #[] 98)).ownsRow 0 98 5 (.slice (some ⟨w.heap.size, 0, none⟩) 0 0) 0 [] := ⟨rfl, .inr ⟨w.heap.size, 0, #[], rfl, Nat.zero_le _, heap_alloc_new w _, Nat.le_refl _, by unfold maxLen; omega, rfl, rfl⟩⟩
  have hcl : ∀ j u, (L.flatMap cellH)[j]? = some u → (w.alloc (.cells #[] 98)).cell? ((⟨g, 0, none⟩ : Addr).add j) = some u := by
    intro j u hu
    have hg' : (w.alloc (.cells #[] 98)).heap[g]? = some (.cells cur 98 (0, 0)) := by rw [Below.heap_alloc _ _ _ hg]; exact c1
    rw [addr_addH, Nat.zero_add, cell_of_block hg', ← Array.getElem?_toList]
    rw [← c5, List.getElem?_take] at hu
    split at hu
    · exact hu
    · cases hu
  obtain ⟨v', w', hrun, hown', hgr, _, hat⟩ := run_append_own_at (w.alloc (.cells #[] 98)) 0 67 67 98 i0 _ 5 40 Try.underlying67 hi hz0 hz1 hz2 rfl (by decide) (.slice (some ⟨w.heap.size, 0, none⟩) 0 0) 0 [] hown ⟨g, 0, none⟩ L.length cap (L.flatMap cellH) (hlen L) hcl (cellsH_one L) (by unfold maxLen; omega) (by omega) (Nat.zero_le _)
  have HR : Hid ((Builtin.append_ #[67, 67] 67 #[.slice (some ⟨w.heap.size, 0, none⟩) 0 0, .slice (some ⟨g, 0, none⟩) L.length cap]).run Try.prog (w.alloc (.cells #[] 98)) = .ok v' w') := hrun
  have HF : Hid (∃ g' cap', v' = .slice (some ⟨g', 0, none⟩) L.length cap' ∧ w.heap.size ≤ g' ∧ BlkAt 5 98 w' g' cap' L.length (L.flatMap cellH) ∧ Touch (fun _ => False) w w') := by
    have hT : Touch (fun _ => False) w w' := ((Touch.refl (fun _ => False) w).alloc (.cells #[] 98)).then ((Touch.refl (fun i => i = w.heap.size) _).grown hgr (fun i e _ => by simpa [Value.ownBlock, eq_comm] using e)) fun i hi e => absurd hi (by omega)
    rw [Nat.zero_add, List.nil_append] at hown'
    rcases hown'.2 with ⟨e, h9⟩ | ⟨g', cap', cur', e, _, hg', d1, d2, d3, d4⟩
    · rcases hat with h' | h' <;> (rw [e] at h'; simp [Value.ownBlock] at h')
    · refine ⟨g', cap', e, ?_, ⟨cur', hg', d3, d1, by unfold maxLen at d2; omega, d4⟩, hT⟩
      have hsz : (w.alloc (.cells #[] 98)).heap.size = w.heap.size + 1 := by simp
      rw [e] at hat
      simp only [Value.ownBlock, Option.some.injEq] at hat
      rcases hat with e' | e' <;> omega
  have heq := Lib.run_eql_slice_nil (P := Try.prog)
  clear hown hcl hrun hown' hgr hat c1 c2 c3 c4 c5 hi hz0 hz1 hz2 hlen
  go_enter Try.func63, Try.ntmps63
  go_wp2_with (first | (at_builtin; refine wpList_append_any rfl _ _ rfl _ _ _ rfl rfl HR.out ?_))
  go_ret
  obtain ⟨g', cap', e, r⟩ := HF.out
  exact ⟨g', cap', congrArg Ending.returned e, r⟩
end Go.Proofs.Ytcolbgbmnmkogaa
