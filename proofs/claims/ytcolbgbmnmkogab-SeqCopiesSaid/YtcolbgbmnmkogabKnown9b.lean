/- quirelaw9: known. -/
import Derived.Test.YtcolbgbmnmkogabKnown9
namespace Go.Proofs.Ytcolbgbmnmkogab
open Go.RowKit
set_option linter.unusedVariables false
set_option linter.unusedSimpArgs false
set_option maxRecDepth 100000

abbrev kA : Un := ⟨1, 1, 0, 0, 0, 0⟩
abbrev kB : Un := ⟨1, 2, 1, 1, 0, 0⟩
abbrev kC : Un := ⟨2, 1, 1, 1, 1, 2⟩
abbrev kD : Un := ⟨1, 3, 1, 1, 2, 1⟩
abbrev kE : Un := ⟨9, 1, 1, 2, 1, 1⟩
abbrev kF : Un := ⟨9, 1, 8, 8, 0, 0⟩
abbrev kG : Un := ⟨9, 1, 1, 2, 0, 0⟩
def k1 : SS := SS.new.run kA 1
def k2 : SS := k1.run kB 1
def k3 : SS := k2.run kC 1
def k4 : SS := k3.run kD 1
def k5 : SS := k4.run kG 3
theorem uok {a b c d e f : Int} (h : (decide (0 ≤ a) && decide (0 ≤ b) && decide (b < 18446744073709551616) && decide (0 ≤ c) && decide (0 ≤ d) && decide (d < 18446744073709551616) && decide (0 ≤ e) && decide (0 ≤ f) && decide (f < 18446744073709551616)) = true) : (⟨a, b, c, d, e, f⟩ : Un).ok := by
  simp only [Bool.and_eq_true, decide_eq_true_eq] at h
  obtain ⟨⟨⟨⟨⟨⟨⟨⟨h1, h2⟩, h3⟩, h4⟩, h5⟩, h6⟩, h7⟩, h8⟩, h9⟩ := h
  exact ⟨h1, ⟨h2, h3⟩, h4, ⟨h5, h6⟩, h7, ⟨h8, h9⟩⟩
theorem m1 : SS.new.may kA 1 = true := by decide
theorem m2 : k1.may kB 1 = true := by decide
theorem m3 : k2.may kC 1 = true := by decide
theorem m4 : k3.may kD 1 = true := by decide
theorem m5 : k4.may kA 1 = false := by decide
theorem m6 : k4.may kE 1 = false := by decide
theorem m7 : k4.may kF 1 = false := by decide
theorem m8 : k4.may kG 3 = true := by decide
theorem q1 : k4.at_ 1 = (kD, true) := by decide
theorem q2 : k4.find 2 1 = 2 := by decide
theorem q3 : k4.find 1 2 = 3 := by decide
theorem q4 : k4.total = 4 := by decide
theorem q5 : k5.find 9 3 = 6 := by decide
theorem r0 : Room SS.new 1 := ⟨by decide, by decide, by decide⟩
theorem r1 : Room k1 1 := ⟨by decide, by decide, by decide⟩
theorem r2 : Room k2 1 := ⟨by decide, by decide, by decide⟩
theorem r3 : Room k3 1 := ⟨by decide, by decide, by decide⟩
theorem r4 : Room k4 3 := ⟨by decide, by decide, by decide⟩
theorem r4' : Room k4 1 := ⟨by decide, by decide, by decide⟩
theorem n5 : k4.run kA 1 = k4 := by unfold SS.run; rw [m5]; rfl
theorem n6 : k4.run kE 1 = k4 := by unfold SS.run; rw [m6]; rfl
theorem n7 : k4.run kF 1 = k4 := by unfold SS.run; rw [m7]; rfl
end Go.Proofs.Ytcolbgbmnmkogab
