/- The document's disk: a file put. -/
import Derived.Test.YtfmpbkdmcgkeoaaPart4
import Derived.Deep.RegionHeld3
import Derived.Deep.DeepCutAuto
namespace Go.Proofs.Ytfmpbkdmcgkeoaa
open Go.RowKit Go.Maps
set_option linter.unusedVariables false

theorem sliceF_to (vo : Option Addr) (n cap c : Nat) (h : c ≤ cap) (W : World) : (Instr.slice 61 (.slice vo n cap) none (some (.int .i64 (c : Int))) none).run Try.prog W = .ok (.slice vo c cap) W := by
  have h1 : (c : Int) ≤ (cap : Int) := by omega
  have hu := Try.underlying61
  obtain ⟨i0, hi, hz0, hz1, hz2⟩ := info_parts infoFile
  simp [Instr.slice, run_underlying hu, Instr.sliceBounds, run_sliceBound, h1, sizeOf, typeInfo, hi, addr_add_zero]
theorem sliceF_from (vo : Option Addr) (n cap c : Nat) (h : c ≤ n) (W : World) : (Instr.slice 61 (.slice vo n cap) (some (.int .i64 (c : Int))) none none).run Try.prog W = .ok (.slice (if cap = c then vo else vo.map (·.add (c * 3))) (n - c) (cap - c)) W := by
  have h1 : (c : Int) ≤ (n : Int) := by omega
  have hu := Try.underlying61
  obtain ⟨i0, hi, hz0, hz1, hz2⟩ := info_parts infoFile
  simp [Instr.slice, run_underlying hu, Instr.sliceBounds, run_sliceBound, h1, sizeOf, typeInfo, hi, hz1]
theorem step_append_runF {w w' : World} {ops : Array Oper} {o : Oper} {a : Act} {K : Act → World → Prop} {Q : Exit → Act → World → Prop} {E : Prop} (hw : Region.wanted o (yielded ops a.tmps) = true) (s x : Operand)
    (ho : o.op = .call { callee := .builtin .append, args := #[s, x], argTypes := #[61, 61] }) (v y v' : Value) (hs : a.eval s = v) (hx : a.eval x = y)
    (hrun : (Builtin.append_ #[61, 61] o.type #[v, y]).run Try.prog w = .ok v' w') (h : K (a.put o.dst v') w') :
    if Region.wanted o (yielded ops a.tmps) = true then Oper.wp Try.prog o a w K Q else E := by
  rw [if_pos hw]
  unfold Oper.wp
  simp [execOp, ho, resolve, invoke, builtin, hs, hx, hrun, Result.andThen]
  exact h
theorem wpList_append_runF {w w' : World} {ops : Array Oper} {rest : List Oper} {o : Oper} {a : Act} {Q : Exit → Act → World → Prop} (hgd : o.guard = none) (s x : Operand)
    (ho : o.op = .call { callee := .builtin .append, args := #[s, x], argTypes := #[61, 61] }) (v y v' : Value) (hs : a.eval s = v) (hx : a.eval x = y)
    (hrun : (Builtin.append_ #[61, 61] o.type #[v, y]).run Try.prog w = .ok v' w') (h : wpList Try.prog ops Q rest (a.put o.dst v') w') : wpList Try.prog ops Q (o :: rest) a w := by
  refine wpList_plain hgd fun K' hK' => ?_
  unfold Oper.wp
  simp [execOp, ho, resolve, invoke, builtin, hs, hx, hrun, Result.andThen]
  exact hK' _ _ h
theorem addr_add (g o j : Nat) : (⟨g, o, none⟩ : Addr).add j = ⟨g, o + j, none⟩ := by
  unfold Addr.add
  split <;> simp_all
section
variable {w : World} {r : Nat} {v : Value} {l : List RFl} {room power : Int}
theorem RCore.lies (h : RCore w r v l room power) : ∃ vo cap, v = .slice vo l.length cap ∧ (vo = none → cap = 0) ∧ l.length ≤ cap ∧ cap ≤ 9223372036854775807 ∧ (∀ i, LiesR w vo (l.take i)) ∧ ∀ i, i ≤ l.length → LiesR w (if cap = i then vo else vo.map (·.add (i * 3))) (l.drop i) := by
  rcases h.owns.2 with ⟨e, h0⟩ | ⟨g, cap, cur, e, hb, hg, q1, q2, q3, q4⟩
  · have : l = [] := List.length_eq_zero_iff.1 (by omega)
    subst this
    exact ⟨none, 0, by rw [e]; rfl, fun _ => rfl, Nat.le_refl _, by omega, fun i => .inl (by simp), fun i _ => .inl (by simp)⟩
  · have hc : ∀ j u, (rcells l)[j]? = some u → w.cell? ⟨g, j, none⟩ = some u := by
      intro j u hu
      rw [← q4, List.getElem?_take] at hu
      split at hu
      · rw [cell_of_block hg, ← Array.getElem?_toList]; exact hu
      · cases hu
    refine ⟨some ⟨g, 0, none⟩, cap, e, (fun h => by cases h), q1, q2, fun i => .inr ⟨_, rfl, fun j u hu => ?_⟩, fun i hi => ?_⟩
    · have : (rcells l)[j]? = some u := by
        have e2 : rcells l = rcells (l.take i) ++ rcells (l.drop i) := by rw [← rcells_append, List.take_append_drop]
        rw [e2, List.getElem?_append_left (by rw [List.getElem?_eq_some_iff] at hu; exact hu.1)]; exact hu
      have := hc j u this
      rw [addr_add, Nat.zero_add]; exact this
    · by_cases hl : l.drop i = []
      · exact .inl hl
      · have hlt : i < l.length := by
          rcases Nat.lt_or_ge i l.length with x | x
          · exact x
          · exact absurd (List.drop_of_length_le x) hl
        refine .inr ⟨⟨g, i * 3, none⟩, by rw [if_neg (by omega), Option.map_some, addr_add, Nat.zero_add], fun j u hu => ?_⟩
        have e2 : rcells l = rcells (l.take i) ++ rcells (l.drop i) := by rw [← rcells_append, List.take_append_drop]
        have hlen : (rcells (l.take i)).length = i * 3 := by rw [rcells_len, List.length_take]; omega
        have : (rcells l)[i * 3 + j]? = some u := by
          rw [e2, List.getElem?_append_right (by omega), hlen, Nat.add_sub_cancel_left]; exact hu
        have := hc _ u this
        rw [addr_add]; exact this
end
end Go.Proofs.Ytfmpbkdmcgkeoaa
