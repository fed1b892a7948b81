/- Values that are taken; a Writer made just now. -/
import Derived.Test.YtkiicdleoniioaaDoorPart14
import Derived.Test.YtkiicdleoniioaaDoorVWrite
import Derived.Test.YtkiicdleoniioaaDoorRef2c
import Derived.Test.YtkiicdleoniioaaDoorWrMore
import Derived.Test.YtkiicdleoniioaaDoorWriter
namespace Go.Proofs.YtkiicdleoniioaaDoor
open Go.RowKit
set_option linter.unusedVariables false
set_option linter.unusedSimpArgs false
set_option maxRecDepth 100000

theorem taken_of (v : V) (hf : v.fits) (h : refCheck v = 0) : v.taken := by
  obtain ⟨k, n, f, s⟩ := v
  have hv : vOk ⟨k, n, f, s⟩ = true := by
    unfold refCheck at h
    cases hv : vOk ⟨k, n, f, s⟩
    · rw [hv] at h; simp at h
    · rfl
  have hs : s.toList.isEmpty = true → s = ⟨#[]⟩ := by
    intro e
    rw [ByteArray.toList_eq] at e
    have : s.data.toList = [] := by simpa using e
    exact ByteArray.ext (Array.ext' this)
  unfold vOk at hv
  simp only at hv
  split at hv
  · rename_i hk
    simp only [Bool.and_eq_true, beq_iff_eq] at hv
    exact ⟨hf, by simp only; omega, fun _ _ => hv.1.1, fun e => by simp only at e; omega, fun _ => by simp only; omega, fun _ => hs hv.2⟩
  split at hv
  · rename_i hk hk1
    simp only [Bool.and_eq_true, beq_iff_eq, Bool.or_eq_true] at hv
    exact ⟨hf, by simp only; omega, fun e => absurd hk1 e, fun _ => hv.1.1, fun _ => by simp only; omega, fun _ => hs hv.2⟩
  split at hv
  · rename_i hk hk1 hk2
    simp only [Bool.and_eq_true, beq_iff_eq] at hv
    exact ⟨hf, by simp only; omega, fun _ e => absurd hk2 e, fun e => absurd e hk1, fun _ => by simp only; omega, fun _ => hs hv.2⟩
  split at hv
  · rename_i hk hk1 hk2 hk3
    simp only [Bool.and_eq_true, beq_iff_eq] at hv
    exact ⟨hf, by simp only; omega, fun _ _ => hv.1, fun e => absurd e hk1, fun e => absurd hk3 e, fun _ => hs hv.2⟩
  split at hv
  · rename_i hk hk1 hk2 hk3 hk4
    simp only [Bool.and_eq_true, beq_iff_eq] at hv
    exact ⟨hf, by simp only; omega, fun _ _ => hv.1.1.1, fun e => absurd e hk1, fun _ => by simp only; omega, fun e => absurd hk4 e⟩
  · cases hv
theorem V.taken.good {v : V} (h : v.taken) : v.good := ⟨h.fit, h.kind, h.bool⟩
theorem putGo_len (f n : Nat) : (putGo f n).length ≤ f + 1 := by
  induction f generalizing n with
  | zero => simp [putGo]
  | succ f ih =>
    simp only [putGo]; split
    · simp
    · simp only [List.length_cons]; have := ih (n / 128); omega
theorem writeOf_len (v : V) : (writeOf v).length ≤ 20 + v.s.size := by
  unfold writeOf
  simp only [List.length_cons]
  split
  · simp; omega
  split
  · have := putGo_len 9 (unzz v.n); unfold putU; omega
  split
  · rw [putF_length]; omega
  split
  · unfold putT putU
    rw [List.length_append]
    have := putGo_len 9 v.s.size
    have e : v.s.data.toList.length = v.s.size := rfl
    omega
  · simp; omega
end Go.Proofs.YtkiicdleoniioaaDoor

/- A Writer behind calls that don't touch it. -/
namespace Go.Proofs.YtkiicdleoniioaaDoor
open Go.RowKit
set_option linter.unusedVariables false

theorem wfoot_old {w : World} {p : Nat} {bs : List UInt8} (h : Wr w p bs) {k : Nat} (hf : wfoot w p k) : k < w.heap.size := by
  obtain ⟨v, hp, hown⟩ := h
  rcases hf with rfl | ⟨u, hu, hk⟩
  · exact lt_of_heap hp
  · rw [cell_of_block hp] at hu
    simp at hu; subst hu
    rcases hown.2 with ⟨rfl, _⟩ | ⟨g, cap, cur, rfl, _, hg, _⟩
    · simp [Value.ownBlock] at hk
    · simp only [Value.ownBlock, Option.some.injEq] at hk
      subst hk; exact lt_of_heap hg
/-- A Writer whose blocks were not touched. -/
theorem Wr.keep {S : Nat → Prop} {w w' : World} {p : Nat} {bs : List UInt8} (h : Wr w p bs) (hT : Touch S w w') (hS : ∀ k, wfoot w p k → ¬ S k) : Wr w' p bs := by
  obtain ⟨v, hp, hown⟩ := h
  have hlt := lt_of_heap hp
  refine ⟨v, (hT.block p hlt (hS p (.inl rfl))).trans hp, hown.1, ?_⟩
  rcases hown.2 with h | ⟨g, cap, cur, rfl, hB, hg, hr⟩
  · exact .inl h
  · refine .inr ⟨g, cap, cur, rfl, hB, ?_, hr⟩
    rw [hT.block g (lt_of_heap hg) (hS g (.inr ⟨_, by rw [cell_of_block hp]; rfl, rfl⟩))]
    exact hg
theorem wfoot_keep {S : Nat → Prop} {w w' : World} {p : Nat} {bs : List UInt8} (h : Wr w p bs) (hT : Touch S w w') (hS : ¬ S p) (k : Nat) : wfoot w' p k ↔ wfoot w p k := by
  obtain ⟨v, hp, hown⟩ := h
  unfold wfoot
  rw [hT.cell (lt_of_heap hp) hS 0]
/-- Behind a call that touched nothing old, then calls on the Writer. -/
theorem WrPost.after {w w1 w2 : World} {p : Nat} {bs cs : List UInt8} (h : Wr w p bs) (hT : Touch (fun _ => False) w w1) (k : WrPost p cs w1 w2) : WrPost p cs w w2 :=
  ⟨k.is, (hT.mono (T := wfoot w p) (fun _ _ h => False.elim h)).then k.touch (fun i hi hf => (wfoot_keep h hT id i).1 hf), fun i hi hf => (wfoot_keep h hT id i).1 (k.foot i (Nat.lt_of_lt_of_le hi hT.size) hf)⟩
/-- Behind calls on the Writer, a call that touched nothing old. -/
theorem WrPost.quiet {w w1 w2 : World} {p : Nat} {cs : List UInt8} (k : WrPost p cs w w1) (hT : Touch (fun _ => False) w1 w2) : WrPost p cs w w2 :=
  ⟨k.is.keep hT (fun _ _ => id), k.touch.then (hT.mono (T := wfoot w p) fun _ _ h => False.elim h) (fun _ _ h => h), fun i hi hf => k.foot i hi ((wfoot_keep k.is hT id i).1 hf)⟩
end Go.Proofs.YtkiicdleoniioaaDoor
