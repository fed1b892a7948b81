/- An append of bytes that lie somewhere to a slice of bytes that is owned. -/
import Derived.Test.YtfeojfcnphjbdaaBClone
import Derived.Laws.AppendOwnNone
namespace Go.Proofs.Ytfeojfcnphjbdaa
open Go.RowKit
set_option linter.unusedVariables false

theorem wpList_append_bytes (w : World) {ops : Array Oper} {rest : List Oper} {o : Oper} {a : Act} {Q : Exit → Act → World → Prop} (hgd : o.guard = none) (s x : Operand)
    (ho : o.op = .call { callee := .builtin .append, args := #[s, x], argTypes := #[29, 29] }) (v : Value) (bs : List UInt8) (hs : a.eval s = v) (hown : w.ownsRow 0 5 1 v bs.length (cellsOf bs))
    (g : Nat) (ao : Option Addr) (n cap : Nat) (b : List UInt8) (hx : a.eval x = .slice ao n cap) (hn : n = b.length) (hno : ao = none → cap = 0) (hL : Lies w g ao b) (hlen : bs.length + b.length ≤ 140737488355328)
    (h : ∀ v' w', Grow v v' (bs ++ b) w w' → wpList Try.prog ops Q rest (a.put o.dst v') w') : wpList Try.prog ops Q (o :: rest) a w := by
  subst hn
  obtain ⟨i0, hi, hz0, hz1, hz2⟩ := info_parts Try.infoByte
  cases ao with
  | none =>
    have hb : b = [] := by
      rcases hL with h | ⟨off, e, _⟩
      · exact h
      · cases e
    subst hb
    have hc := hno rfl
    subst hc
    refine wpList_append_own_none hgd s x 29 ho 0 5 i0 1 Try.underlying29 hi v bs.length (cellsOf bs) hs hown hx ?_
    refine h v w ?_
    rw [List.append_nil]
    exact Grow.refl hown
  | some ad =>
    refine wpList_append_own_at w hgd s x 29 ho 0 5 i0 (.int .u8 0) 1 1 Try.underlying29 hi hz0 hz1 hz2 rfl (by decide) v bs.length (cellsOf bs) hs hown ad b.length cap (cellsOf b) hx (by rw [cellsOf_length]; omega) hL.cells (cellsOf_one b) (by unfold maxLen; omega) (by omega) (Nat.zero_le _) ?_
    intro v' w' hown' hg _ hat
    refine h v' w' ⟨?_, (Touch.refl _ w).grown hg (fun i e _ => e), ?_⟩
    · rw [cellsOf_append, List.length_append]; exact hown'
    · intro k hk hv
      rcases hat with e | e
      · rw [← e]; exact hv
      · rw [hv] at e; simp at e; omega
end Go.Proofs.Ytfeojfcnphjbdaa
