/- The contract of the document's Append. -/
import Derived.Test.YtfmpbkdmcgkeoaaPart4
import Derived.Laws.Append
import Derived.Deep.QuietTactic
import Derived.BigQuiet
import Derived.Deep.DeepCutAuto
namespace Go.Proofs.Ytfmpbkdmcgkeoaa
open Go.RowKit Go.Maps
set_option linter.unusedVariables false
set_option linter.unusedSimpArgs false

theorem sliceB_full (bo : Option Addr) (n cap : Nat) (h : n ≤ cap) (W : World) : (Instr.slice 29 (.slice bo n cap) none (some (.int .i64 (n : Int))) (some (.int .i64 (n : Int)))).run Try.prog W = .ok (.slice bo n n) W := by
  have h0 : (0 : Int) ≤ (n : Int) := by omega
  have h1 : (n : Int) ≤ (cap : Int) := by omega
  have hu := Try.underlying29
  obtain ⟨i0, hi, hz0, hz1, hz2⟩ := info_parts Try.infoByte
  simp [Instr.slice, run_underlying hu, Instr.sliceBounds, run_sliceBound, h1, sizeOf, typeInfo, hi, addr_add_zero]
/-- An append of bytes to a slice that has no room: what it leaves lies in a block of its own, but for nothing appended. -/
theorem run_append_tight (w : World) (g : Nat) (bo : Option Addr) (bs : List UInt8) (hL : Lies w g bo bs) (gb : Nat) (ao : Option Addr) (b : List UInt8) (nb cp : Nat) (hnb : nb = b.length) (hno : ao = none → cp = 0) (hLb : Lies w gb ao b) (hlen : bs.length + b.length ≤ 140737488355328) :
    ∃ bo' cap' g' w', (Builtin.append_ #[29, 29] 29 #[.slice bo bs.length bs.length, .slice ao nb cp]).run Try.prog w = .ok (.slice bo' (bs ++ b).length cap') w' ∧ Lies w' g' bo' (bs ++ b) ∧ Touch (fun _ => False) w w' ∧ (bo' = none → cap' = 0) ∧ (bs ++ b).length ≤ cap' ∧ cap' ≤ 9223372036854775807 ∧ (b = [] ∧ g' = g ∨ b ≠ [] ∧ w.heap.size ≤ g') := by
  subst hnb
  obtain ⟨i0, hi, hz0, hz1, hz2⟩ := info_parts Try.infoByte
  have hu := Try.underlying29
  by_cases hb : b = []
  · subst hb
    refine ⟨bo, bs.length, g, w, ?_, by rw [List.append_nil]; exact hL, Touch.refl _ _, fun e => ?_, by simp, by omega, .inl ⟨rfl, rfl⟩⟩
    · rw [List.append_nil]
      cases ao with
      | none => cases bo with
        | none => simp [Builtin.append_, run_underlying hu, sizeOf, typeInfo, hi, Builtin.lenOf, Builtin.firstCells, storeCells]
        | some a => simp [Builtin.append_, run_underlying hu, sizeOf, typeInfo, hi, Builtin.lenOf, Builtin.firstCells, storeCells]
      | some ad => cases bo with
        | none => simp [Builtin.append_, run_underlying hu, sizeOf, typeInfo, hi, Builtin.lenOf, Builtin.firstCells, loadCells, loadCellsFrom, storeCells]
        | some a => simp [Builtin.append_, run_underlying hu, sizeOf, typeInfo, hi, Builtin.lenOf, Builtin.firstCells, loadCells, loadCellsFrom, storeCells]
    · subst e
      rcases hL with h | ⟨off, e, _⟩
      · rw [h]; rfl
      · cases e
  · obtain ⟨ad, rfl⟩ : ∃ ad, ao = some ad := by
      rcases hLb with h | ⟨off, e, _⟩
      · exact absurd h hb
      · exact ⟨_, e⟩
    have hbp : 0 < b.length := List.length_pos_iff.2 hb
    have hcb : (cellsOf b).length = b.length * i0.size := by rw [cellsOf_length, hz1, Nat.mul_one]
    have lies_new : ∀ (W : World) (c : Nat), bs.length + b.length ≤ c → Lies (W.alloc (.cells ((cellsOf bs).toArray ++ (cellsOf b).toArray ++ Builtin.zeroCells (Value.int .u8 0).cells (c - (bs.length + b.length))) 5)) W.heap.size (some ⟨W.heap.size, 0, none⟩) (bs ++ b) := by
      intro W c hc
      refine .inr ⟨0, rfl, fun j hj => ?_⟩
      rw [cell_of_block (heap_alloc_new W _), Nat.zero_add]
      have e1 : (cellsOf bs).toArray ++ (cellsOf b).toArray = (cellsOf (bs ++ b)).toArray := by rw [cellsOf_append]; simp
      rw [e1, Array.getElem?_append_left (by simp [cellsOf_length] at hj ⊢; omega)]
      simp only [List.getElem?_toArray]
      rw [List.getElem?_eq_getElem (by rw [cellsOf_length]; exact hj)]
      simp only [cellsOf, List.getElem_map]
    by_cases hbs : bo = none
    · subst hbs
      have hb0 : bs = [] := by
        rcases hL with h | ⟨off, e, _⟩
        · exact h
        · cases e
      subst hb0
      have hr := run_append_nil (P := Try.prog) w 29 29 5 i0 _ hu hi hz0 ad b.length cp (cellsOf b) hcb hLb.cells hbp (by simp at hlen; omega) (by rw [hz2]; simp at hlen; omega)
      have hge := grownCap_ge w b.length 0 5
      have hmx := grownCap_le_maxLen w b.length 0 5 (by unfold maxLen; simp at hlen; omega)
      have hl := lies_new w.drew (grownCap w b.length 0 5) (by simpa using hge)
      refine ⟨_, _, w.heap.size, _, hr, ?_, ((Touch.refl _ w).drew).alloc _, (by intro h; cases h), by simpa using hge, by unfold maxLen at hmx; omega, .inr ⟨hb, Nat.le_refl _⟩⟩
      simpa [cellsOf] using hl
    · obtain ⟨bd, rfl⟩ := Option.ne_none_iff_exists'.1 hbs
      have hr := run_append_grow (P := Try.prog) w 29 29 5 i0 _ hu hi hz0 bd bs.length bs.length (cellsOf bs) (by rw [cellsOf_length, hz1, Nat.mul_one]) hL.cells ad b.length cp (cellsOf b) hcb hLb.cells (by omega) (by omega) (growslice_fits (by omega) (by rw [hz2]; omega))
      have hge := grownCap_ge w (bs.length + b.length) bs.length 5
      have hmx := grownCap_le_maxLen w (bs.length + b.length) bs.length 5 (by unfold maxLen; omega)
      have hl := lies_new w.drew (grownCap w (bs.length + b.length) bs.length 5) hge
      refine ⟨_, _, w.heap.size, _, (by rw [List.length_append]; exact hr), hl, ((Touch.refl _ w).drew).alloc _, (by intro h; cases h), by simpa using hge, by unfold maxLen at hmx; omega, .inr ⟨hb, Nat.le_refl _⟩⟩
theorem Touch.drewN' {S : Nat → Prop} {w w' : World} (h : Touch S w w') (n : Nat) : Touch S w (w'.drewN n) := ⟨h.os, h.tape, h.output, h.size, h.block⟩
theorem wpList_append_runB {w w' : World} {ops : Array Oper} {rest : List Oper} {o : Oper} {a : Act} {Q : Exit → Act → World → Prop} (hgd : o.guard = none) (s x : Operand)
    (ho : o.op = .call { callee := .builtin .append, args := #[s, x], argTypes := #[29, 29] }) (v y v' : Value) (hs : a.eval s = v) (hx : a.eval x = y)
    (hrun : (Builtin.append_ #[29, 29] o.type #[v, y]).run Try.prog w = .ok v' w') (h : wpList Try.prog ops Q rest (a.put o.dst v') w') : wpList Try.prog ops Q (o :: rest) a w := by
  refine wpList_plain hgd fun K' hK' => ?_
  unfold Oper.wp
  simp [execOp, ho, resolve, invoke, builtin, hs, hx, hrun, Result.andThen]
  exact hK' _ _ h
end Go.Proofs.Ytfmpbkdmcgkeoaa
