/- A long text, step by step (no Go in it). -/
import Derived.Test.YtdonhdmealhgiabSqQ
namespace Go.Proofs.Ytdonhdmealhgiab
set_option linter.unusedVariables false
set_option linter.unusedSimpArgs false

/-- The client of the unit that came last: none, at first. -/
def lcOf (j : Nat) : Int := if j = 0 then 0 else 1
/-- The unit that comes next behind j units. -/
def nextU (back : Bool) (j : Nat) : Un := bif back then ⟨1, (j : Int) + 1, 0, 0, lcOf j, j⟩ else ⟨1, (j : Int) + 1, lcOf j, j, 0, 0⟩
def LS (back : Bool) (S : SS) (j : Nat) : Prop := if j = 0 then S = .new else bif back then BS S j else S = fS j
theorem nextU_f (j : Nat) : nextU false j = fU j := by
  unfold nextU fU lcOf
  rw [cond_false]
  by_cases h : j = 0
  · subst h; rfl
  · rw [if_neg h, if_neg (by omega)]
theorem nextU_b (j : Nat) : nextU true j = bU j := by
  unfold nextU bU lcOf
  rw [cond_true]
  by_cases h : j = 0
  · subst h; rfl
  · rw [if_neg h, if_neg (by omega)]
theorem nextU_ok (back : Bool) (j : Nat) (hj : j ≤ 1000000) : (nextU back j).ok := by
  have hl : lcOf j = 0 ∨ lcOf j = 1 := by unfold lcOf; split <;> simp
  cases back
  · exact ⟨by show (0 : Int) ≤ 1; omega, ⟨by show (0 : Int) ≤ j + 1; omega, by show (j : Int) + 1 < _; omega⟩, by show 0 ≤ lcOf j; omega, ⟨by show (0 : Int) ≤ j; omega, by show (j : Int) < _; omega⟩, by show (0 : Int) ≤ 0; omega, ⟨by show (0 : Int) ≤ 0; omega, by show (0 : Int) < _; omega⟩⟩
  · exact ⟨by show (0 : Int) ≤ 1; omega, ⟨by show (0 : Int) ≤ j + 1; omega, by show (j : Int) + 1 < _; omega⟩, by show (0 : Int) ≤ 0; omega, ⟨by show (0 : Int) ≤ 0; omega, by show (0 : Int) < _; omega⟩, by show 0 ≤ lcOf j; omega, ⟨by show (0 : Int) ≤ j; omega, by show (j : Int) < _; omega⟩⟩
theorem LS.room {back : Bool} {S : SS} {j : Nat} (h : LS back S j) (hj : j ≤ 1000000) : Room S 1 := by
  unfold LS at h
  by_cases h0 : j = 0
  · rw [if_pos h0] at h
    rw [h]; exact ⟨by decide, by decide, by decide⟩
  · rw [if_neg h0] at h
    cases back
    · have h' : S = fS j := h
      rw [h']
      refine ⟨?_, by show 2 + 2 * 1 ≤ _; omega, by show 2 + 1 ≤ _; omega⟩
      rw [f_total]
      show (j : Int) + 1 ≤ _
      omega
    · have h' : BS S j := h
      refine ⟨?_, by rw [h'.pl]; omega, by rw [h'.rl]; omega⟩
      rw [h'.total]
      show (j : Int) + 1 ≤ _
      omega
theorem LS.step {back : Bool} {S : SS} {j : Nat} (h : LS back S j) (hj : j + 2 ≤ 1000000) : S.may (nextU back j) 1 = true ∧ LS back (S.run (nextU back j) 1) (j + 1) := by
  unfold LS at h ⊢
  rw [if_neg (by omega)]
  by_cases h0 : j = 0
  · subst h0
    rw [if_pos rfl] at h
    subst h
    cases back
    · rw [nextU_f]; exact f_zero
    · rw [nextU_b]
      have e : bU ((0 : Nat) : Int) = fU 0 := rfl
      rw [e]
      refine ⟨f_zero.1, ?_⟩
      rw [f_zero.2]
      exact BS.one
  · rw [if_neg h0] at h
    cases back
    · have h' : S = fS j := h
      rw [h', nextU_f]
      have := f_step j (by omega) (by omega)
      exact ⟨this.1, by rw [this.2]; exact congrArg fS (by omega)⟩
    · rw [nextU_b]
      exact BS.step h (by omega) hj
theorem LS.find {back : Bool} {S : SS} {n k : Nat} (h : LS back S n) (h1 : 1 ≤ k) (h2 : k ≤ n) : S.find 1 k = bif back then (n : Int) - k else (k : Int) - 1 := by
  unfold LS at h
  rw [if_neg (by omega)] at h
  cases back
  · have h' : S = fS n := h
    rw [h']
    exact f_find n k (by omega) (by omega)
  · exact BS.find h h1 h2
theorem LS.total {back : Bool} {S : SS} {n : Nat} (h : LS back S n) (h1 : 1 ≤ n) : S.total = n := by
  unfold LS at h
  rw [if_neg (by omega)] at h
  cases back
  · have h' : S = fS n := h
    rw [h']
    exact f_total n
  · exact BS.total h
end Go.Proofs.Ytdonhdmealhgiab
