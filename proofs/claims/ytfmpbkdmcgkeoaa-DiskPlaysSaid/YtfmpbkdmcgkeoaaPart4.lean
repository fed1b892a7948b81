/- An append of bytes, as its run. -/
import Derived.Test.YtfmpbkdmcgkeoaaPart3
import Derived.Maps.AppendAt
import Derived.Laws.OwnMore
namespace Go.Proofs.Ytfmpbkdmcgkeoaa
open Go.RowKit Go.Maps
set_option linter.unusedVariables false

theorem run_append_bytes (w : World) (v : Value) (bs : List UInt8) (hown : w.ownsRow 0 5 1 v bs.length (cellsOf bs)) (g : Nat) (ao : Option Addr) (n cap : Nat) (b : List UInt8) (hn : n = b.length) (hno : ao = none → cap = 0) (hL : Lies w g ao b) (hlen : bs.length + b.length ≤ 140737488355328) :
    ∃ v' w', (Builtin.append_ #[29, 29] 29 #[v, .slice ao n cap]).run Try.prog w = .ok v' w' ∧ Grow v v' (bs ++ b) w w' := by
  subst hn
  obtain ⟨i0, hi, hz0, hz1, hz2⟩ := info_parts Try.infoByte
  cases ao with
  | none =>
    have hb : b = [] := by
      rcases hL with h | ⟨off, e, _⟩
      · exact h
      · cases e
    subst hb
    have hc := hno rfl
    subst hc
    refine ⟨v, w, ?_, ?_⟩
    · exact run_append_owned_none w 0 29 29 5 i0 1 Try.underlying29 hi v bs.length (cellsOf bs) hown
    · rw [List.append_nil]
      exact Grow.refl hown
  | some ad =>
    obtain ⟨v', w', hrun, hown', hg, _, hat⟩ := run_append_own_at w 0 29 29 5 i0 (.int .u8 0) 1 1 Try.underlying29 hi hz0 hz1 hz2 rfl (by decide) v bs.length (cellsOf bs) hown ad b.length cap (cellsOf b) (by rw [cellsOf_length]; omega) hL.cells (cellsOf_one b) (by unfold maxLen; omega) (by omega) (Nat.zero_le _)
    refine ⟨v', w', hrun, ?_, (Touch.refl _ w).grown hg (fun i e _ => e), ?_⟩
    · rw [cellsOf_append, List.length_append]; exact hown'
    · intro k hk hv
      rcases hat with e | e
      · rw [← e]; exact hv
      · rw [hv] at e; simp at e; omega
end Go.Proofs.Ytfmpbkdmcgkeoaa

/- The first bytes of a slice, as its run. -/
namespace Go.Proofs.Ytfmpbkdmcgkeoaa
open Go.RowKit Go.Maps
set_option linter.unusedVariables false
theorem addr_add_zero (a : Addr) : a.add 0 = a := by cases a; simp [Addr.add]
theorem slice_to (bo : Option Addr) (n cap c : Nat) (h : c ≤ cap) (W : World) : (Instr.slice 29 (.slice bo n cap) none (some (.int .i64 (c : Int))) none).run Try.prog W = .ok (.slice bo c cap) W := by
  have h0 : (0 : Int) ≤ (c : Int) := by omega
  have h1 : (c : Int) ≤ (cap : Int) := by omega
  have hu := Try.underlying29
  obtain ⟨i0, hi, hz0, hz1, hz2⟩ := info_parts Try.infoByte
  simp [Instr.slice, run_underlying hu, Instr.sliceBounds, run_sliceBound, h1, sizeOf, typeInfo, hi, addr_add_zero]
theorem step_append_run {w w' : World} {ops : Array Oper} {o : Oper} {a : Act} {K : Act → World → Prop} {Q : Exit → Act → World → Prop} {E : Prop} (hw : Region.wanted o (yielded ops a.tmps) = true) (s x : Operand)
    (ho : o.op = .call { callee := .builtin .append, args := #[s, x], argTypes := #[29, 29] }) (v y v' : Value) (hs : a.eval s = v) (hx : a.eval x = y)
    (hrun : (Builtin.append_ #[29, 29] o.type #[v, y]).run Try.prog w = .ok v' w') (h : K (a.put o.dst v') w') :
    if Region.wanted o (yielded ops a.tmps) = true then Oper.wp Try.prog o a w K Q else E := by
  rw [if_pos hw]
  unfold Oper.wp
  simp [execOp, ho, resolve, invoke, builtin, hs, hx, hrun, Result.andThen]
  exact h
end Go.Proofs.Ytfmpbkdmcgkeoaa

/- Appends and slices of the document's files, as runs. -/
namespace Go.Proofs.Ytfmpbkdmcgkeoaa
open Go.RowKit Go.Maps
set_option linter.unusedVariables false

theorem rcells_append (a b : List RFl) : rcells (a ++ b) = rcells a ++ rcells b := by simp [rcells]
theorem rcells_one (l : List RFl) : ∀ u ∈ rcells l, u.oneCell' = true := by
  intro u hu
  obtain ⟨f, _, hf⟩ := List.mem_flatMap.1 hu
  simp only [RFl.cells, List.mem_cons, List.not_mem_nil, or_false] at hf
  rcases hf with rfl | rfl | rfl <;> rfl
/-- Files that lie where a slice of that address begins. -/
def LiesR (w : World) (ao : Option Addr) (l : List RFl) : Prop := l = [] ∨ ∃ ad, ao = some ad ∧ ∀ j u, (rcells l)[j]? = some u → w.cell? (ad.add j) = some u
theorem infoFile : (Try.prog.info? 69).map (fun i => (i.zero, i.size, i.bytes)) = some (some (.agg #[.string ⟨#[]⟩, .slice none 0 0, .int .i64 0]), 3, 48) := by kernel_rfl
theorem run_append_files (w : World) (v : Value) (a : List RFl) (hown : w.ownsRow 0 69 3 v a.length (rcells a)) (ao : Option Addr) (n cap : Nat) (b : List RFl) (hn : n = b.length) (hno : ao = none → cap = 0) (hL : LiesR w ao b) (hlen : a.length + b.length ≤ 1073741825) :
    ∃ v' w', (Builtin.append_ #[61, 61] 61 #[v, .slice ao n cap]).run Try.prog w = .ok v' w' ∧ w'.ownsRow 0 69 3 v' (a ++ b).length (rcells (a ++ b)) ∧ w.grownBy w' v.ownBlock ∧ (v'.ownBlock = v.ownBlock ∨ v'.ownBlock = some w.heap.size) := by
  subst hn
  obtain ⟨i0, hi, hz0, hz1, hz2⟩ := info_parts infoFile
  cases ao with
  | none =>
    have hb : b = [] := by
      rcases hL with h | ⟨ad, e, _⟩
      · exact h
      · cases e
    subst hb
    have hc := hno rfl
    subst hc
    refine ⟨v, w, run_append_owned_none w 0 61 61 69 i0 3 Try.underlying61 hi v a.length (rcells a) hown, ?_, World.grownBy.refl w _, .inl rfl⟩
    rw [List.append_nil]; exact hown
  | some ad =>
    have hcl : ∀ j u, (rcells b)[j]? = some u → w.cell? (ad.add j) = some u := by
      rcases hL with h | ⟨ad', e, h⟩
      · subst h; intro j u hu; simp [rcells] at hu
      · cases e; exact h
    obtain ⟨v', w', hrun, hown', hg, _, hat⟩ := run_append_own_at w 0 61 61 69 i0 _ 3 48 Try.underlying61 hi hz0 hz1 hz2 rfl (by decide) v a.length (rcells a) hown ad b.length cap (rcells b) (rcells_len b) hcl (rcells_one b) (by unfold maxLen; omega) (by omega) (Nat.zero_le _)
    refine ⟨v', w', hrun, ?_, hg, hat⟩
    rw [rcells_append, List.length_append]; exact hown'
end Go.Proofs.Ytfmpbkdmcgkeoaa
