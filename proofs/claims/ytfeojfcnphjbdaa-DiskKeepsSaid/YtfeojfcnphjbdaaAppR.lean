/- An append of bytes, as its run. -/
import Derived.Test.YtfeojfcnphjbdaaAppB
import Derived.Maps.AppendAt
import Derived.Laws.OwnMore
namespace Go.Proofs.Ytfeojfcnphjbdaa
open Go.RowKit Go.Maps
set_option linter.unusedVariables false

theorem run_append_bytes (w : World) (v : Value) (bs : List UInt8) (hown : w.ownsRow 0 5 1 v bs.length (cellsOf bs)) (g : Nat) (ao : Option Addr) (n cap : Nat) (b : List UInt8) (hn : n = b.length) (hno : ao = none → cap = 0) (hL : Lies w g ao b) (hlen : bs.length + b.length ≤ 140737488355328) :
    ∃ v' w', (Builtin.append_ #[29, 29] 29 #[v, .slice ao n cap]).run Try.prog w = .ok v' w' ∧ Grow v v' (bs ++ b) w w' := by
  subst hn
  obtain ⟨i0, hi, hz0, hz1, hz2⟩ := info_parts Try.infoByte
  cases ao with
  | none =>
    have hb : b = [] := by
      rcases hL with h | ⟨off, e, _⟩
      · exact h
      · cases e
    subst hb
    have hc := hno rfl
    subst hc
    refine ⟨v, w, ?_, ?_⟩
    · exact run_append_owned_none w 0 29 29 5 i0 1 Try.underlying29 hi v bs.length (cellsOf bs) hown
    · rw [List.append_nil]
      exact Grow.refl hown
  | some ad =>
    obtain ⟨v', w', hrun, hown', hg, _, hat⟩ := run_append_own_at w 0 29 29 5 i0 (.int .u8 0) 1 1 Try.underlying29 hi hz0 hz1 hz2 rfl (by decide) v bs.length (cellsOf bs) hown ad b.length cap (cellsOf b) (by rw [cellsOf_length]; omega) hL.cells (cellsOf_one b) (by unfold maxLen; omega) (by omega) (Nat.zero_le _)
    refine ⟨v', w', hrun, ?_, (Touch.refl _ w).grown hg (fun i e _ => e), ?_⟩
    · rw [cellsOf_append, List.length_append]; exact hown'
    · intro k hk hv
      rcases hat with e | e
      · rw [← e]; exact hv
      · rw [hv] at e; simp at e; omega
end Go.Proofs.Ytfeojfcnphjbdaa
