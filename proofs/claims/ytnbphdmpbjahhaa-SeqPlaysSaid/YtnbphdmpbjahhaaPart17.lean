/- Package seq: copies of its slices. -/
import Derived.Test.YtnbphdmpbjahhaaPart12
import Derived.Test.YtnbphdmpbjahhaaPart10
import Derived.Lib.AppendZeros
import Derived.Deep.RegionHeld3
namespace Go.Proofs.Ytnbphdmpbjahhaa
open Go.RowKit Go.Maps
set_option linter.unusedVariables false
set_option linter.unusedSimpArgs false
set_option maxRecDepth 100000

/-- A block of structs' cells. -/
def BlkAt (m ty : Nat) (w : World) (g cap n : Nat) (cs : List Value) : Prop := ∃ cur, w.heap[g]? = some (.cells cur ty (0, 0)) ∧ cur.size = cap * m ∧ n ≤ cap ∧ cap ≤ 9223372036854775807 ∧ cur.toList.take (n * m) = cs
theorem BlkAt.keep {m ty : Nat} {w w' : World} {g cap n : Nat} {cs : List Value} (h : BlkAt m ty w g cap n cs) (t : Touch (fun _ => False) w w') : BlkAt m ty w' g cap n cs := by
  obtain ⟨cur, h0, h1⟩ := h
  exact ⟨cur, heap_keep t h0, h1⟩
theorem BlkAt.lt {m ty : Nat} {w : World} {g cap n : Nat} {cs : List Value} (h : BlkAt m ty w g cap n cs) : g < w.heap.size := by
  obtain ⟨cur, h0, h1⟩ := h
  exact lt_of_heap h0
theorem wpList_append_any {w w' : World} {ops : Array Oper} {rest : List Oper} {o : Oper} {a : Act} {Q : Exit → Act → World → Prop} {t : Nat} (hgd : o.guard = none) (s x : Operand)
    (ho : o.op = .call { callee := .builtin .append, args := #[s, x], argTypes := #[t, t] }) (v y v' : Value) (hs : a.eval s = v) (hx : a.eval x = y)
    (hrun : (Builtin.append_ #[t, t] o.type #[v, y]).run Try.prog w = .ok v' w') (h : wpList Try.prog ops Q rest (a.put o.dst v') w') : wpList Try.prog ops Q (o :: rest) a w := by
  refine wpList_plain hgd fun K' hK' => ?_
  unfold Oper.wp
  simp [execOp, ho, resolve, invoke, builtin, hs, hx, hrun, Result.andThen]
  exact hK' _ _ h
theorem cellH_len (x : Th) : (cellH x).length = 5 := rfl
set_option maxHeartbeats 8000000 in
theorem clone_rn {w : World} {g cap : Nat} {L : List Rn} (h : BlkAt 11 64 w g cap L.length (L.flatMap cellRn)) (hl : L.length ≤ 1073741824) :
    Calls Try.prog 34 #[.slice (some ⟨g, 0, none⟩) L.length cap] w fun e w' => ∃ g' cap', e = .returned (.slice (some ⟨g', 0, none⟩) L.length cap') ∧ w.heap.size ≤ g' ∧ BlkAt 11 64 w' g' cap' L.length (L.flatMap cellRn) ∧ Touch (fun _ => False) w w' := by
  have bz : ∀ W : World, (Instr.buildSlice 65 0 #[]).run Try.prog W = .ok (.slice (some ⟨W.heap.size, 0, none⟩) 0 0) (W.alloc (.cells #[] 64)) := fun W => by kernel_rfl
  obtain ⟨i0, hi, hz0, hz1, hz2⟩ := info_parts infoR
  obtain ⟨cur, c1, c2, c3, c4, c5⟩ := h
  have hg := lt_of_heap c1
  have hlen : ∀ L : List Rn, (L.flatMap cellRn).length = L.length * 11 := flat_len cellRn 11 cellRn_len
  have hown : (w.alloc (.cells #[] 64)).ownsRow 0 64 11 (.slice (some ⟨w.heap.size, 0, none⟩) 0 0) 0 [] := ⟨rfl, .inr ⟨w.heap.size, 0, #[], rfl, Nat.zero_le _, heap_alloc_new w _, Nat.le_refl _, by unfold maxLen; omega, rfl, rfl⟩⟩
  have hcl : ∀ j u, (L.flatMap cellRn)[j]? = some u → (w.alloc (.cells #[] 64)).cell? ((⟨g, 0, none⟩ : Addr).add j) = some u := by
    intro j u hu
    have hg' : (w.alloc (.cells #[] 64)).heap[g]? = some (.cells cur 64 (0, 0)) := by rw [Below.heap_alloc _ _ _ hg]; exact c1
    rw [addr_addH, Nat.zero_add, cell_of_block hg', ← Array.getElem?_toList]
    rw [← c5, List.getElem?_take] at hu
    split at hu
    · exact hu
    · cases hu
  obtain ⟨v', w', hrun, hown', hgr, _, hat⟩ := run_append_own_at (w.alloc (.cells #[] 64)) 0 65 65 64 i0 _ 11 88 Try.underlying65 hi hz0 hz1 hz2 rfl (by decide) (.slice (some ⟨w.heap.size, 0, none⟩) 0 0) 0 [] hown ⟨g, 0, none⟩ L.length cap (L.flatMap cellRn) (hlen L) hcl (cellsR_one L) (by unfold maxLen; omega) (by omega) (Nat.zero_le _)
  have HR : Hid ((Builtin.append_ #[65, 65] 65 #[.slice (some ⟨w.heap.size, 0, none⟩) 0 0, .slice (some ⟨g, 0, none⟩) L.length cap]).run Try.prog (w.alloc (.cells #[] 64)) = .ok v' w') := hrun
  have HF : Hid (∃ g' cap', v' = .slice (some ⟨g', 0, none⟩) L.length cap' ∧ w.heap.size ≤ g' ∧ BlkAt 11 64 w' g' cap' L.length (L.flatMap cellRn) ∧ Touch (fun _ => False) w w') := by
    have hT : Touch (fun _ => False) w w' := ((Touch.refl (fun _ => False) w).alloc (.cells #[] 64)).then ((Touch.refl (fun i => i = w.heap.size) _).grown hgr (fun i e _ => by simpa [Value.ownBlock, eq_comm] using e)) fun i hi e => absurd hi (by omega)
    rw [Nat.zero_add, List.nil_append] at hown'
    rcases hown'.2 with ⟨e, h9⟩ | ⟨g', cap', cur', e, _, hg', d1, d2, d3, d4⟩
    · rcases hat with h' | h' <;> (rw [e] at h'; simp [Value.ownBlock] at h')
    · refine ⟨g', cap', e, ?_, ⟨cur', hg', d3, d1, by unfold maxLen at d2; omega, d4⟩, hT⟩
      have hsz : (w.alloc (.cells #[] 64)).heap.size = w.heap.size + 1 := by simp
      rw [e] at hat
      simp only [Value.ownBlock, Option.some.injEq] at hat
      rcases hat with e' | e' <;> omega
  have heq := Lib.run_eql_slice_nil (P := Try.prog)
  clear hown hcl hrun hown' hgr hat c1 c2 c3 c4 c5 hi hz0 hz1 hz2 hlen
  go_enter Try.func34, Try.ntmps34
  go_wp2_with (first | (at_builtin; refine wpList_append_any rfl _ _ rfl _ _ _ rfl rfl HR.out ?_))
  go_ret
  obtain ⟨g', cap', e, r⟩ := HF.out
  exact ⟨g', cap', congrArg Ending.returned e, r⟩
set_option maxHeartbeats 8000000 in
theorem clone_sp {w : World} {g cap : Nat} {L : List Sp} (h : BlkAt 2 62 w g cap L.length (L.flatMap cellSp)) (hl : L.length ≤ 1073741824) :
    Calls Try.prog 35 #[.slice (some ⟨g, 0, none⟩) L.length cap] w fun e w' => ∃ g' cap', e = .returned (.slice (some ⟨g', 0, none⟩) L.length cap') ∧ w.heap.size ≤ g' ∧ BlkAt 2 62 w' g' cap' L.length (L.flatMap cellSp) ∧ Touch (fun _ => False) w w' := by
  have bz : ∀ W : World, (Instr.buildSlice 66 0 #[]).run Try.prog W = .ok (.slice (some ⟨W.heap.size, 0, none⟩) 0 0) (W.alloc (.cells #[] 62)) := fun W => by kernel_rfl
  obtain ⟨i0, hi, hz0, hz1, hz2⟩ := info_parts infoP
  obtain ⟨cur, c1, c2, c3, c4, c5⟩ := h
  have hg := lt_of_heap c1
  have hlen : ∀ L : List Sp, (L.flatMap cellSp).length = L.length * 2 := flat_len cellSp 2 cellSp_len
  have hown : (w.alloc (.cells #[] 62)).ownsRow 0 62 2 (.slice (some ⟨w.heap.size, 0, none⟩) 0 0) 0 [] := ⟨rfl, .inr ⟨w.heap.size, 0, #[], rfl, Nat.zero_le _, heap_alloc_new w _, Nat.le_refl _, by unfold maxLen; omega, rfl, rfl⟩⟩
  have hcl : ∀ j u, (L.flatMap cellSp)[j]? = some u → (w.alloc (.cells #[] 62)).cell? ((⟨g, 0, none⟩ : Addr).add j) = some u := by
    intro j u hu
    have hg' : (w.alloc (.cells #[] 62)).heap[g]? = some (.cells cur 62 (0, 0)) := by rw [Below.heap_alloc _ _ _ hg]; exact c1
    rw [addr_addH, Nat.zero_add, cell_of_block hg', ← Array.getElem?_toList]
    rw [← c5, List.getElem?_take] at hu
    split at hu
    · exact hu
    · cases hu
  obtain ⟨v', w', hrun, hown', hgr, _, hat⟩ := run_append_own_at (w.alloc (.cells #[] 62)) 0 66 66 62 i0 _ 2 16 Try.underlying66 hi hz0 hz1 hz2 rfl (by decide) (.slice (some ⟨w.heap.size, 0, none⟩) 0 0) 0 [] hown ⟨g, 0, none⟩ L.length cap (L.flatMap cellSp) (hlen L) hcl (cellsP_one L) (by unfold maxLen; omega) (by omega) (Nat.zero_le _)
  have HR : Hid ((Builtin.append_ #[66, 66] 66 #[.slice (some ⟨w.heap.size, 0, none⟩) 0 0, .slice (some ⟨g, 0, none⟩) L.length cap]).run Try.prog (w.alloc (.cells #[] 62)) = .ok v' w') := hrun
  have HF : Hid (∃ g' cap', v' = .slice (some ⟨g', 0, none⟩) L.length cap' ∧ w.heap.size ≤ g' ∧ BlkAt 2 62 w' g' cap' L.length (L.flatMap cellSp) ∧ Touch (fun _ => False) w w') := by
    have hT : Touch (fun _ => False) w w' := ((Touch.refl (fun _ => False) w).alloc (.cells #[] 62)).then ((Touch.refl (fun i => i = w.heap.size) _).grown hgr (fun i e _ => by simpa [Value.ownBlock, eq_comm] using e)) fun i hi e => absurd hi (by omega)
    rw [Nat.zero_add, List.nil_append] at hown'
    rcases hown'.2 with ⟨e, h9⟩ | ⟨g', cap', cur', e, _, hg', d1, d2, d3, d4⟩
    · rcases hat with h' | h' <;> (rw [e] at h'; simp [Value.ownBlock] at h')
    · refine ⟨g', cap', e, ?_, ⟨cur', hg', d3, d1, by unfold maxLen at d2; omega, d4⟩, hT⟩
      have hsz : (w.alloc (.cells #[] 62)).heap.size = w.heap.size + 1 := by simp
      rw [e] at hat
      simp only [Value.ownBlock, Option.some.injEq] at hat
      rcases hat with e' | e' <;> omega
  have heq := Lib.run_eql_slice_nil (P := Try.prog)
  clear hown hcl hrun hown' hgr hat c1 c2 c3 c4 c5 hi hz0 hz1 hz2 hlen
  go_enter Try.func35, Try.ntmps35
  go_wp2_with (first | (at_builtin; refine wpList_append_any rfl _ _ rfl _ _ _ rfl rfl HR.out ?_))
  go_ret
  obtain ⟨g', cap', e, r⟩ := HF.out
  exact ⟨g', cap', congrArg Ending.returned e, r⟩
set_option maxHeartbeats 8000000 in
theorem clone_th {w : World} {g cap : Nat} {L : List Th} (h : BlkAt 5 98 w g cap L.length (L.flatMap cellH)) (hl : L.length ≤ 1073741824) :
    Calls Try.prog 63 #[.slice (some ⟨g, 0, none⟩) L.length cap] w fun e w' => ∃ g' cap', e = .returned (.slice (some ⟨g', 0, none⟩) L.length cap') ∧ w.heap.size ≤ g' ∧ BlkAt 5 98 w' g' cap' L.length (L.flatMap cellH) ∧ Touch (fun _ => False) w w' := by
  have bz : ∀ W : World, (Instr.buildSlice 67 0 #[]).run Try.prog W = .ok (.slice (some ⟨W.heap.size, 0, none⟩) 0 0) (W.alloc (.cells #[] 98)) := fun W => by kernel_rfl
  obtain ⟨i0, hi, hz0, hz1, hz2⟩ := info_parts infoH
  obtain ⟨cur, c1, c2, c3, c4, c5⟩ := h
  have hg := lt_of_heap c1
  have hlen : ∀ L : List Th, (L.flatMap cellH).length = L.length * 5 := flat_len cellH 5 cellH_len
  have hown : (w.alloc (.cells #[] 98)).ownsRow 0 98 5 (.slice (some ⟨w.heap.size, 0, none⟩) 0 0) 0 [] := ⟨rfl, .inr ⟨w.heap.size, 0, #[], rfl, Nat.zero_le _, heap_alloc_new w _, Nat.le_refl _, by unfold maxLen; omega, rfl, rfl⟩⟩
  have hcl : ∀ j u, (L.flatMap cellH)[j]? = some u → (w.alloc (.cells #[] 98)).cell? ((⟨g, 0, none⟩ : Addr).add j) = some u := by
    intro j u hu
    have hg' : (w.alloc (.cells #[] 98)).heap[g]? = some (.cells cur 98 (0, 0)) := by rw [Below.heap_alloc _ _ _ hg]; exact c1
    rw [addr_addH, Nat.zero_add, cell_of_block hg', ← Array.getElem?_toList]
    rw [← c5, List.getElem?_take] at hu
    split at hu
    · exact hu
    · cases hu
  obtain ⟨v', w', hrun, hown', hgr, _, hat⟩ := run_append_own_at (w.alloc (.cells #[] 98)) 0 67 67 98 i0 _ 5 40 Try.underlying67 hi hz0 hz1 hz2 rfl (by decide) (.slice (some ⟨w.heap.size, 0, none⟩) 0 0) 0 [] hown ⟨g, 0, none⟩ L.length cap (L.flatMap cellH) (hlen L) hcl (cellsH_one L) (by unfold maxLen; omega) (by omega) (Nat.zero_le _)
  have HR : Hid ((Builtin.append_ #[67, 67] 67 #[.slice (some ⟨w.heap.size, 0, none⟩) 0 0, .slice (some ⟨g, 0, none⟩) L.length cap]).run Try.prog (w.alloc (.cells #[] 98)) = .ok v' w') := hrun
  have HF : Hid (∃ g' cap', v' = .slice (some ⟨g', 0, none⟩) L.length cap' ∧ w.heap.size ≤ g' ∧ BlkAt 5 98 w' g' cap' L.length (L.flatMap cellH) ∧ Touch (fun _ => False) w w') := by
    have hT : Touch (fun _ => False) w w' := ((Touch.refl (fun _ => False) w).alloc (.cells #[] 98)).then ((Touch.refl (fun i => i = w.heap.size) _).grown hgr (fun i e _ => by simpa [Value.ownBlock, eq_comm] using e)) fun i hi e => absurd hi (by omega)
    rw [Nat.zero_add, List.nil_append] at hown'
    rcases hown'.2 with ⟨e, h9⟩ | ⟨g', cap', cur', e, _, hg', d1, d2, d3, d4⟩
    · rcases hat with h' | h' <;> (rw [e] at h'; simp [Value.ownBlock] at h')
    · refine ⟨g', cap', e, ?_, ⟨cur', hg', d3, d1, by unfold maxLen at d2; omega, d4⟩, hT⟩
      have hsz : (w.alloc (.cells #[] 98)).heap.size = w.heap.size + 1 := by simp
      rw [e] at hat
      simp only [Value.ownBlock, Option.some.injEq] at hat
      rcases hat with e' | e' <;> omega
  have heq := Lib.run_eql_slice_nil (P := Try.prog)
  clear hown hcl hrun hown' hgr hat c1 c2 c3 c4 c5 hi hz0 hz1 hz2 hlen
  go_enter Try.func63, Try.ntmps63
  go_wp2_with (first | (at_builtin; refine wpList_append_any rfl _ _ rfl _ _ _ rfl rfl HR.out ?_))
  go_ret
  obtain ⟨g', cap', e, r⟩ := HF.out
  exact ⟨g', cap', congrArg Ending.returned e, r⟩
end Go.Proofs.Ytnbphdmpbjahhaa

/- Package seq: a row's copy. -/
namespace Go.Proofs.Ytnbphdmpbjahhaa
open Go.RowKit
set_option linter.unusedVariables false
set_option linter.unusedSimpArgs false
set_option maxRecDepth 100000

/-- A row without the cell that holds its slice. -/
def RowBk (w : World) (g cap n : Nat) (F : List Nat) (len : Nat → Int) : Prop :=
  ∃ L t, BlkAt 5 98 w g cap L.length (L.flatMap cellH) ∧ L.length = n ∧ RowOk (gt L) n t ∧ t.flat = F ∧ ∀ x, (gt L x).long = len x
theorem RowAt.bk {w : World} {b k g cap n : Nat} {F : List Nat} {len : Nat → Int} (h : RowAt w b k g cap n F len) : RowBk w g cap n F len := by
  obtain ⟨L, t, h1, h2⟩ := h
  exact ⟨L, t, h1.row, h2⟩
theorem RowBk.row {w : World} {b k g cap n : Nat} {F : List Nat} {len : Nat → Int} (h : RowBk w g cap n F len) (hc : w.cell? ⟨b, k, none⟩ = some (.slice (some ⟨g, 0, none⟩) n cap)) (hb : b ≠ g) : RowAt w b k g cap n F len := by
  obtain ⟨L, t, h1, h2, h3⟩ := h
  subst h2
  exact ⟨L, t, ⟨hc, hb, h1⟩, rfl, h3⟩
theorem RowBk.keep {w w' : World} {g cap n : Nat} {F : List Nat} {len : Nat → Int} (h : RowBk w g cap n F len) (t : Touch (fun _ => False) w w') : RowBk w' g cap n F len := by
  obtain ⟨L, tr, h1, h2⟩ := h
  exact ⟨L, tr, h1.keep t, h2⟩
set_option maxHeartbeats 4000000 in
theorem r_clone {w : World} {b k g cap n : Nat} {F : List Nat} {len : Nat → Int} (h : RowAt w b k g cap n F len) (hn : n ≤ 1073741824) :
    Calls Try.prog 36 #[rP b k] w fun e w' => ∃ g' cap', e = .returned (.agg #[.slice (some ⟨g', 0, none⟩) n cap']) ∧ w.heap.size ≤ g' ∧ RowBk w' g' cap' n F len ∧ Touch (fun _ => False) w w' := by
  obtain ⟨E, hE⟩ : ∃ E, Hid (E = w.alloc (.cells #[.slice none 0 0] 69)) := ⟨_, Eq.refl _⟩
  have HT : Hid (Touch (fun _ => False) w E) := by rw [hE.out]; exact (Touch.refl _ _).alloc _
  have HB : Hid (E.heap[w.heap.size]? = some (.cells #[.slice none 0 0] 69)) := by rw [hE.out]; exact heap_alloc_new _ _
  have hc : E.cell? ⟨b, k, none⟩ = some (.slice (some ⟨g, 0, none⟩) n cap) := (h.keep HT.out id id).cellb
  have HC : Hid (Calls Try.prog 63 #[.slice (some ⟨g, 0, none⟩) n cap] E fun e w' => ∃ g' cap', e = .returned (.slice (some ⟨g', 0, none⟩) n cap') ∧ E.heap.size ≤ g' ∧ RowBk w' g' cap' n F len ∧ Touch (fun _ => False) E w') := by
    obtain ⟨L, t, h1, h2, h3⟩ := (h.keep HT.out id id).bk
    subst h2
    refine (clone_th h1 hn).mono ?_
    rintro e w' ⟨g', cap', rfl, q1, q2, q3⟩
    exact ⟨g', cap', rfl, q1, ⟨L, t, q2, rfl, h3⟩, q3⟩
  clear h
  go_enter Try.func36, Try.ntmps36
  go_upto_region 1 with fail
  rw [← hE.out]
  clear hE
  obtain ⟨B0, hB0⟩ : ∃ m, Hid (m = w.heap.size) := ⟨_, Eq.refl _⟩
  rw [← hB0.out] at HB ⊢
  go_wp2_with fail
  refine HC.out.mono ?_
  rintro e W1 ⟨g', cap', rfl, q1, q2, t1⟩
  have hz := heap_keep t1 HB.out
  have c0 : W1.cell? ⟨B0, 0, none⟩ = some (.slice none 0 0) := by rw [cell_of_block hz]; rfl
  have f0 : W1.frozen? ⟨B0, 0, none⟩ = false := free_of_block hz
  have en : (W1.setCell ⟨B0, 0, none⟩ (.slice (some ⟨g', 0, none⟩) n cap')).cell? ⟨B0, 0, none⟩ = some (.slice (some ⟨g', 0, none⟩) n cap') := by rw [cell_of_block (heap_setCell_same _ _ _ _ hz)]; rfl
  have HF : Hid (w.heap.size ≤ g' ∧ RowBk (W1.setCell ⟨B0, 0, none⟩ (.slice (some ⟨g', 0, none⟩) n cap')) g' cap' n F len ∧ Touch (fun _ => False) w (W1.setCell ⟨B0, 0, none⟩ (.slice (some ⟨g', 0, none⟩) n cap'))) := by
    have hs := HT.out.size
    have hlt : B0 < E.heap.size := lt_of_heap HB.out
    have hne : B0 ≠ g' := by omega
    refine ⟨by omega, ?_, (HT.out.trans t1).fresh _ _ _ (Nat.le_of_eq hB0.out.symm)⟩
    obtain ⟨L, t, ⟨cur, h1, h2⟩, h3⟩ := q2
    exact ⟨L, t, ⟨cur, by rw [Below.heap_setCell _ _ _ _ (Ne.symm hne)]; exact h1, h2⟩, h3⟩
  clear hz q1 q2 t1 HC
  go_wp2_with fail
  refine bodyPost_ret (v := .agg #[.slice (some ⟨g', 0, none⟩) n cap']) (by simp [results, Try.results36, go_sem, en]) rfl ?_
  exact ⟨g', cap', rfl, HF.out⟩
end Go.Proofs.Ytnbphdmpbjahhaa

/- Package seq: Copy. -/
namespace Go.Proofs.Ytnbphdmpbjahhaa
open Go.RowKit
set_option linter.unusedVariables false
set_option linter.unusedSimpArgs false
set_option maxRecDepth 100000

/-- A sequence's block. -/
abbrev seqO (gr kr nr gp kp np go ko gi ki : Nat) : Obj := .cells #[.slice (some ⟨gr, 0, none⟩) nr kr, .slice (some ⟨gp, 0, none⟩) np kp, .slice (some ⟨go, 0, none⟩) np ko, .slice (some ⟨gi, 0, none⟩) np ki] 72
set_option maxHeartbeats 8000000 in
theorem copy_any {w : World} {B : Bk} {S : SS} (h : SeqM w B S) (hr : S.runs.length ≤ 1073741824) (hp : S.pcs.length ≤ 1073741824) :
    Calls Try.prog 13 #[sP B] w fun e w' => ∃ B', e = .returned (sP B') ∧ SeqM w' B' S ∧ (∀ x, B'.has x → w.heap.size ≤ x) ∧ Touch (fun _ => False) w w' := by
  have HC : Hid (∀ W, Touch (fun _ => False) w W → W.cell? ⟨B.b, 0, none⟩ = some (.slice (some ⟨B.gr, 0, none⟩) S.runs.length B.kr) ∧ W.cell? ⟨B.b, 1, none⟩ = some (.slice (some ⟨B.gp, 0, none⟩) S.pcs.length B.kp)) := fun W t => ⟨(h.keep0 t).runs.cell, (h.keep0 t).pcs.cell⟩
  have H1 : Hid (∀ W, Touch (fun _ => False) w W → Calls Try.prog 34 #[.slice (some ⟨B.gr, 0, none⟩) S.runs.length B.kr] W fun e w' => ∃ g' cap', e = .returned (.slice (some ⟨g', 0, none⟩) S.runs.length cap') ∧ W.heap.size ≤ g' ∧ BlkAt 11 64 w' g' cap' S.runs.length (S.runs.flatMap cellRn) ∧ Touch (fun _ => False) W w') := fun W t => clone_rn (h.keep0 t).runs.row hr
  have H2 : Hid (∀ W, Touch (fun _ => False) w W → Calls Try.prog 35 #[.slice (some ⟨B.gp, 0, none⟩) S.pcs.length B.kp] W fun e w' => ∃ g' cap', e = .returned (.slice (some ⟨g', 0, none⟩) S.pcs.length cap') ∧ W.heap.size ≤ g' ∧ BlkAt 2 62 w' g' cap' S.pcs.length (S.pcs.flatMap cellSp) ∧ Touch (fun _ => False) W w') := fun W t => clone_sp (h.keep0 t).pcs.row hp
  have H3 : Hid (∀ W, Touch (fun _ => False) w W → Calls Try.prog 36 #[rP B.b 2] W fun e w' => ∃ g' cap', e = .returned (.agg #[.slice (some ⟨g', 0, none⟩) S.pcs.length cap']) ∧ W.heap.size ≤ g' ∧ RowBk w' g' cap' S.pcs.length S.ord S.len ∧ Touch (fun _ => False) W w') := fun W t => r_clone (h.keep0 t).ord hp
  have H4 : Hid (∀ W, Touch (fun _ => False) w W → Calls Try.prog 36 #[rP B.b 3] W fun e w' => ∃ g' cap', e = .returned (.agg #[.slice (some ⟨g', 0, none⟩) S.pcs.length cap']) ∧ W.heap.size ≤ g' ∧ RowBk w' g' cap' S.pcs.length S.idx (fun _ => 0) ∧ Touch (fun _ => False) W w') := fun W t => r_clone (h.keep0 t).idx hp
  have S0 := HC.out w.drew (Touch.refl _ w).drew
  have HQ : Hid (∀ (W4 : World) (gr kr gp kp go ko gi ki : Nat), w.heap.size ≤ gr → gr < gp → gp < go → go < gi → BlkAt 11 64 W4 gr kr S.runs.length (S.runs.flatMap cellRn) → BlkAt 2 62 W4 gp kp S.pcs.length (S.pcs.flatMap cellSp) → RowBk W4 go ko S.pcs.length S.ord S.len → RowBk W4 gi ki S.pcs.length S.idx (fun _ => 0) → gi < W4.heap.size → Touch (fun _ => False) w W4 →
      ∃ B', sP ⟨W4.heap.size, gr, kr, gp, kp, go, ko, gi, ki⟩ = sP B' ∧ SeqM (W4.alloc (seqO gr kr S.runs.length gp kp S.pcs.length go ko gi ki)) B' S ∧ (∀ x, B'.has x → w.heap.size ≤ x) ∧ Touch (fun _ => False) w (W4.alloc (seqO gr kr S.runs.length gp kp S.pcs.length go ko gi ki))) := by
    intro W4 gr kr gp kp go ko gi ki a0 a1 a2 a3 b1 b2 b3 b4 hlt t
    have hb := heap_alloc_new W4 (seqO gr kr S.runs.length gp kp S.pcs.length go ko gi ki)
    have tt := (Touch.refl (fun _ => False) W4).alloc (seqO gr kr S.runs.length gp kp S.pcs.length go ko gi ki)
    have hsz := t.size
    refine ⟨⟨W4.heap.size, gr, kr, gp, kp, go, ko, gi, ki⟩, rfl, ⟨⟨_, hb⟩, ⟨by rw [cell_of_block hb]; rfl, by show W4.heap.size ≠ gr; omega, b1.keep tt⟩, ⟨by rw [cell_of_block hb]; rfl, by show W4.heap.size ≠ gp; omega, b2.keep tt⟩, (b3.keep tt).row (by rw [cell_of_block hb]; rfl) (by show W4.heap.size ≠ go; omega), (b4.keep tt).row (by rw [cell_of_block hb]; rfl) (by show W4.heap.size ≠ gi; omega), ?_⟩, ?_, t.alloc _⟩
    · simp only [List.nodup_cons, List.mem_cons, List.not_mem_nil, or_false, not_or, List.nodup_nil, and_true, not_false_eq_true]
      exact ⟨⟨by omega, by omega, by omega⟩, ⟨by omega, by omega⟩, by omega⟩
    · rintro x (e | e | e | e | e)
      · have e' : x = W4.heap.size := e
        omega
      · have e' : x = gr := e
        omega
      · have e' : x = gp := e
        omega
      · have e' : x = go := e
        omega
      · have e' : x = gi := e
        omega
  clear h hr hp
  go_enter Try.func13, Try.ntmps13
  go_wp2_with fail
  go_region_held3 (fun W => W.cell? ⟨B.b, 0, none⟩ = some (.slice (some ⟨B.gr, 0, none⟩) S.runs.length B.kr) ∧ W.cell? ⟨B.b, 1, none⟩ = some (.slice (some ⟨B.gp, 0, none⟩) S.pcs.length B.kp)) (first | assumption | exact HC.out _ ((((HT1.out.1.trans HT2.out.1).trans HT3.out.1).trans HT4.out.1).alloc _))
    (first
      | (go_at_call 34; (with_reducible refine (H1.out _ (Touch.refl _ w).drew).mono ?_); rintro e w1 ⟨gr, kr, rfl, a1, b1, t1⟩; have HT1 : Hid (Touch (fun _ => False) w w1 ∧ w.heap.size ≤ gr ∧ BlkAt 11 64 w1 gr kr S.runs.length (S.runs.flatMap cellRn)) := ⟨(Touch.refl _ w).drew.trans t1, a1, b1⟩; have S1 := HC.out w1 HT1.out.1; clear t1 a1 b1)
      | (go_at_call 35; (with_reducible refine (H2.out _ HT1.out.1).mono ?_); rintro e w2 ⟨gp, kp, rfl, a1, b1, t1⟩; have HT2 : Hid (Touch (fun _ => False) w1 w2 ∧ w1.heap.size ≤ gp ∧ BlkAt 2 62 w2 gp kp S.pcs.length (S.pcs.flatMap cellSp)) := ⟨t1, a1, b1⟩; have S2 := HC.out w2 (HT1.out.1.trans HT2.out.1); clear t1 a1 b1)
      | (go_at_call 36; (with_reducible refine (H3.out _ (HT1.out.1.trans HT2.out.1)).mono ?_); rintro e w3 ⟨go, ko, rfl, a1, b1, t1⟩; have HT3 : Hid (Touch (fun _ => False) w2 w3 ∧ w2.heap.size ≤ go ∧ RowBk w3 go ko S.pcs.length S.ord S.len) := ⟨t1, a1, b1⟩; have S3 := HC.out w3 ((HT1.out.1.trans HT2.out.1).trans HT3.out.1); clear t1 a1 b1)
      | (go_at_call 36; (with_reducible refine (H4.out _ ((HT1.out.1.trans HT2.out.1).trans HT3.out.1)).mono ?_); rintro e w4 ⟨gi, ki, rfl, a1, b1, t1⟩; have HT4 : Hid (Touch (fun _ => False) w3 w4 ∧ w3.heap.size ≤ gi ∧ RowBk w4 gi ki S.pcs.length S.idx (fun _ => 0)) := ⟨t1, a1, b1⟩; have S4 := HC.out w4 (((HT1.out.1.trans HT2.out.1).trans HT3.out.1).trans HT4.out.1); clear t1 a1 b1))
  all_goals (try go_wp2_with fail)
  all_goals (try go_ret)
  all_goals
    have c1 := HT1.out.2.2.lt
    have c2 := HT2.out.2.2.lt
    have c3 : go < w3.heap.size := by obtain ⟨L, t, hb, -⟩ := HT3.out.2.2; exact hb.lt
    have c4 : gi < w4.heap.size := by obtain ⟨L, t, hb, -⟩ := HT4.out.2.2; exact hb.lt
    have c5 := HT2.out.2.1
    have c6 := HT3.out.2.1
    have c7 := HT4.out.2.1
    obtain ⟨B', e, r⟩ := HQ.out w4 gr kr gp kp go ko gi ki HT1.out.2.1 (by omega) (by omega) (by omega) (HT1.out.2.2.keep ((HT2.out.1.trans HT3.out.1).trans HT4.out.1)) (HT2.out.2.2.keep (HT3.out.1.trans HT4.out.1)) (HT3.out.2.2.keep HT4.out.1) HT4.out.2.2 c4 (((HT1.out.1.trans HT2.out.1).trans HT3.out.1).trans HT4.out.1)
    exact ⟨B', congrArg Ending.returned e, r⟩
end Go.Proofs.Ytnbphdmpbjahhaa
