/- What a number's reading gives. -/
import Derived.Test.YtkiicdleoniioaaDoorRead
namespace Go.Proofs.YtkiicdleoniioaaDoor
open Go.RowKit
set_option linter.unusedVariables false

/-- A number of at most most: the error, the number, what is left. -/
def rdU (bs : List UInt8) (most : Nat) : Int × Nat × List UInt8 :=
  if (numGo bs 0 0).1 ≠ 0 then ((numGo bs 0 0).1, 0, bs) else if most < (numGo bs 0 0).2.1 then (12, 0, bs) else (0, (numGo bs 0 0).2.1, (numGo bs 0 0).2.2)

theorem numGo_err : ∀ (bs : List UInt8) (k n : Nat), (numGo bs k n).1 = 0 ∨ (numGo bs k n).1 = 10 ∨ (numGo bs k n).1 = 11
  | [], _, _ => by simp [numGo]
  | b :: r, k, n => by
    rw [numGo]
    split
    · simp
    · split
      · simp
      · exact numGo_err r _ _

/-- What number leaves, by rdU. -/
theorem NumPost.ways {p g : Nat} {bs : List UInt8} {er : Int} {most : Nat} {w w' : World} {e : Ending} (h : NumPost p g bs er most w e w') :
    Touch (· = p) w w' ∧ (((rdU bs most).1 = 0 ∧ e = .returned (.int .u64 (rdU bs most).2.1) ∧ Rd w' p g (rdU bs most).2.2 er) ∨ ((rdU bs most).1 ≠ 0 ∧ e = .panicked [thrown (rdU bs most).1] ∧ (rdU bs most).2 = (0, bs) ∧ ∃ cs, Rd w' p g cs er)) := by
  obtain ⟨hT, cs, hR, h⟩ := h
  refine ⟨hT, ?_⟩
  rcases h with ⟨h0, h1, he, hc⟩ | ⟨h0, h1, he⟩ | ⟨h0, he⟩
  · left
    have e1 : rdU bs most = (0, (numGo bs 0 0).2.1, (numGo bs 0 0).2.2) := by rw [rdU, if_neg (by simpa using h0), if_neg (by omega)]
    rw [e1]; exact ⟨rfl, he, hc ▸ hR⟩
  · right
    have e1 : rdU bs most = (12, 0, bs) := by rw [rdU, if_neg (by simpa using h0), if_pos h1]
    rw [e1]; exact ⟨by simp, he, rfl, cs, hR⟩
  · right
    have e1 : rdU bs most = ((numGo bs 0 0).1, 0, bs) := by rw [rdU, if_pos h0]
    rw [e1]; exact ⟨h0, he, rfl, cs, hR⟩
theorem Rd.alloc {w : World} {p g : Nat} {bs : List UInt8} {er : Int} (h : Rd w p g bs er) (o : Obj) : Rd (w.alloc o) p g bs er :=
  h.keep (S := fun _ => False) ((Touch.refl _ _).alloc o) id (fun _ => id)
end Go.Proofs.YtkiicdleoniioaaDoor
