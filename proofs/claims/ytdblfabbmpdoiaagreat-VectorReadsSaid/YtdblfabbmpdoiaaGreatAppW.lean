/- An append of bytes, as its run; what lies stays where nothing old is touched. -/
import Derived.Test.YtdblfabbmpdoiaaGreatWBytes
import Derived.Laws.AppendOwnNone
import Derived.Maps.AppendAt
import Derived.Laws.OwnMore
namespace Go.Proofs.YtdblfabbmpdoiaaGreat
open Go.RowKit Go.Maps
set_option linter.unusedVariables false

theorem runW_append_bytes (w : World) (v : Value) (bs : List UInt8) (hown : w.ownsRow 0 5 1 v bs.length (cellsOf bs)) (g : Nat) (ao : Option Addr) (n cap : Nat) (b : List UInt8) (hn : n = b.length) (hno : ao = none → cap = 0) (hL : Lies w g ao b) (hlen : bs.length + b.length ≤ 140737488355328) :
    ∃ v' w', (Builtin.append_ #[23, 23] 23 #[v, .slice ao n cap]).run Tryz.prog w = .ok v' w' ∧ Grow v v' (bs ++ b) w w' := by
  subst hn
  obtain ⟨i0, hi, hz0, hz1, hz2⟩ := info_parts Tryz.infoByte
  cases ao with
  | none =>
    have hb : b = [] := by
      rcases hL with h | ⟨off, e, _⟩
      · exact h
      · cases e
    subst hb
    have hc := hno rfl
    subst hc
    refine ⟨v, w, ?_, ?_⟩
    · exact run_append_owned_none w 0 23 23 5 i0 1 Tryz.underlying23 hi v bs.length (cellsOf bs) hown
    · rw [List.append_nil]
      exact Grow.refl hown
  | some ad =>
    obtain ⟨v', w', hrun, hown', hg, _, hat⟩ := run_append_own_at w 0 23 23 5 i0 (.int .u8 0) 1 1 Tryz.underlying23 hi hz0 hz1 hz2 rfl (by decide) v bs.length (cellsOf bs) hown ad b.length cap (cellsOf b) (by rw [cellsOf_length]; omega) hL.cells (cellsOf_one b) (by unfold maxLen; omega) (by omega) (Nat.zero_le _)
    refine ⟨v', w', hrun, ?_, (Touch.refl _ w).grown hg (fun i e _ => e), ?_⟩
    · rw [cellsOf_append, List.length_append]; exact hown'
    · intro k hk hv
      rcases hat with e | e
      · rw [← e]; exact hv
      · rw [hv] at e; simp at e; omega
theorem wpList_append_runB {w w' : World} {ops : Array Oper} {rest : List Oper} {o : Oper} {a : Act} {Q : Exit → Act → World → Prop} (hgd : o.guard = none) (s x : Operand)
    (ho : o.op = .call { callee := .builtin .append, args := #[s, x], argTypes := #[23, 23] }) (v y v' : Value) (hs : a.eval s = v) (hx : a.eval x = y)
    (hrun : (Builtin.append_ #[23, 23] o.type #[v, y]).run Tryz.prog w = .ok v' w') (h : wpList Tryz.prog ops Q rest (a.put o.dst v') w') : wpList Tryz.prog ops Q (o :: rest) a w := by
  refine wpList_plain hgd fun K' hK' => ?_
  unfold Oper.wp
  simp [execOp, ho, resolve, invoke, builtin, hs, hx, hrun, Result.andThen]
  exact hK' _ _ h
theorem Lies.touch {w w' : World} {g : Nat} {bs : List UInt8} {ao : Option Addr} (h : Lies w g ao bs) (t : Touch (fun _ => False) w w') : Lies w' g ao bs := h.keep fun e => t.block g (h.lt e) id
theorem own0 {w : World} {base : Nat} {t : TypeId} {s : Nat} {v : Value} {n : Nat} {xs : List Value} (h : w.ownsRow base t s v n xs) : w.ownsRow 0 t s v n xs := by
  refine ⟨h.1, ?_⟩
  rcases h.2 with h | ⟨g, cap, cur, rfl, hb, hr⟩
  · exact .inl h
  · exact .inr ⟨g, cap, cur, rfl, Nat.zero_le _, hr⟩
end Go.Proofs.YtdblfabbmpdoiaaGreat
