/- The chapter's example of turns, as forms. -/
import Derived.Test.YtccgiabihagjoaaIdM
namespace Go.Proofs.Ytccgiabihagjoaa
set_option linter.unusedVariables false
set_option linter.unusedSimpArgs false

def exIn : List Tn := [⟨1, 1, 5, 1⟩, ⟨1, 3, 9, 2⟩]
def exOut : List Tn := [⟨1, 1, 3, 1⟩, ⟨1, 3, 9, 2⟩]
def exHid : List Rg := [⟨1, 1, 3⟩]
theorem ex_canon : Canon exOut := ⟨rfl, rfl, rfl⟩
theorem ex_in (c k : Int) : turnOf exIn c k = if c = 1 ∧ 3 ≤ k ∧ k < 9 then 2 else if c = 1 ∧ 1 ≤ k ∧ k < 5 then 1 else 0 := by
  have o1 : (⟨1, 1, 5, 1⟩ : Tn).ok = true := rfl
  have o2 : (⟨1, 3, 9, 2⟩ : Tn).ok = true := rfl
  simp only [exIn, turnOf, o1, o2, Bool.true_and, Tn.has_iff]
  repeat' split
  all_goals omega
theorem ex_out (c k : Int) : val exOut c k = if c = 1 ∧ 3 ≤ k ∧ k < 9 then 2 else if c = 1 ∧ 1 ≤ k ∧ k < 5 then 1 else 0 := by
  simp only [exOut, val, Tn.has_iff]
  repeat' split
  all_goals omega
theorem ex_form : Form exOut (turnOf exIn) := ⟨ex_canon, fun c k => by rw [ex_out, ex_in]⟩
theorem ex_again : Form exOut (turnOf exOut) := ⟨ex_canon, fun c k => (ex_canon.turnOf c k).symm⟩
theorem ex_hid : Form (tns exHid) (fun c k => turnOf exOut c k % 2) := by
  refine ⟨rfl, fun c k => ?_⟩
  show (if (⟨1, 1, 3, 1⟩ : Tn).has c k = true then (1 : Int) else 0) = turnOf exOut c k % 2
  rw [ex_canon.turnOf, ex_out]
  simp only [Tn.has_iff]
  repeat' split
  all_goals omega
theorem ex_four : turnOf exOut 1 4 = 2 := rfl
theorem ex_nine : turnOf exOut 1 9 = 0 := rfl
end Go.Proofs.Ytccgiabihagjoaa
