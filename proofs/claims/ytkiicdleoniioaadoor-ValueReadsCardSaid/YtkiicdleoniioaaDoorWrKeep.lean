/- A Writer behind calls that don't touch it. -/
import Derived.Test.YtkiicdleoniioaaDoorWriter
namespace Go.Proofs.YtkiicdleoniioaaDoor
open Go.RowKit
set_option linter.unusedVariables false

theorem wfoot_old {w : World} {p : Nat} {bs : List UInt8} (h : Wr w p bs) {k : Nat} (hf : wfoot w p k) : k < w.heap.size := by
  obtain ⟨v, hp, hown⟩ := h
  rcases hf with rfl | ⟨u, hu, hk⟩
  · exact lt_of_heap hp
  · rw [cell_of_block hp] at hu
    simp at hu; subst hu
    rcases hown.2 with ⟨rfl, _⟩ | ⟨g, cap, cur, rfl, _, hg, _⟩
    · simp [Value.ownBlock] at hk
    · simp only [Value.ownBlock, Option.some.injEq] at hk
      subst hk; exact lt_of_heap hg
/-- A Writer whose blocks were not touched. -/
theorem Wr.keep {S : Nat → Prop} {w w' : World} {p : Nat} {bs : List UInt8} (h : Wr w p bs) (hT : Touch S w w') (hS : ∀ k, wfoot w p k → ¬ S k) : Wr w' p bs := by
  obtain ⟨v, hp, hown⟩ := h
  have hlt := lt_of_heap hp
  refine ⟨v, (hT.block p hlt (hS p (.inl rfl))).trans hp, hown.1, ?_⟩
  rcases hown.2 with h | ⟨g, cap, cur, rfl, hB, hg, hr⟩
  · exact .inl h
  · refine .inr ⟨g, cap, cur, rfl, hB, ?_, hr⟩
    rw [hT.block g (lt_of_heap hg) (hS g (.inr ⟨_, by rw [cell_of_block hp]; rfl, rfl⟩))]
    exact hg
theorem wfoot_keep {S : Nat → Prop} {w w' : World} {p : Nat} {bs : List UInt8} (h : Wr w p bs) (hT : Touch S w w') (hS : ¬ S p) (k : Nat) : wfoot w' p k ↔ wfoot w p k := by
  obtain ⟨v, hp, hown⟩ := h
  unfold wfoot
  rw [hT.cell (lt_of_heap hp) hS 0]
/-- Behind a call that touched nothing old, then calls on the Writer. -/
theorem WrPost.after {w w1 w2 : World} {p : Nat} {bs cs : List UInt8} (h : Wr w p bs) (hT : Touch (fun _ => False) w w1) (k : WrPost p cs w1 w2) : WrPost p cs w w2 :=
  ⟨k.is, (hT.mono (T := wfoot w p) (fun _ _ h => False.elim h)).then k.touch (fun i hi hf => (wfoot_keep h hT id i).1 hf), fun i hi hf => (wfoot_keep h hT id i).1 (k.foot i (Nat.lt_of_lt_of_le hi hT.size) hf)⟩
/-- Behind calls on the Writer, a call that touched nothing old. -/
theorem WrPost.quiet {w w1 w2 : World} {p : Nat} {cs : List UInt8} (k : WrPost p cs w w1) (hT : Touch (fun _ => False) w1 w2) : WrPost p cs w w2 :=
  ⟨k.is.keep hT (fun _ _ => id), k.touch.then (hT.mono (T := wfoot w p) fun _ _ h => False.elim h) (fun _ _ h => h), fun i hi hf => k.foot i hi ((wfoot_keep k.is hT id i).1 hf)⟩
end Go.Proofs.YtkiicdleoniioaaDoor
