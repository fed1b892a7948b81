/- A long text, forwards and backwards, as a function (no Go in it). -/
import Derived.Test.YtdonhdmealhgiabSeqW6
namespace Go.Proofs.Ytdonhdmealhgiab
set_option linter.unusedVariables false
set_option linter.unusedSimpArgs false

/-- Forwards: the unit that comes next behind i units. -/
def fU (i : Int) : Un := if i = 0 then ⟨1, 1, 0, 0, 0, 0⟩ else ⟨1, i + 1, 1, i, 0, 0⟩
def fS (i : Int) : SS := ⟨[.zero, ⟨⟨1, 1, 0, 0, 0, 0⟩, .zero, .zero, 1⟩], [.zero, ⟨1, 0⟩], [1], [1], fun x => if x = 1 then i else 0⟩
theorem f_first (i : Int) : (fS i).first 1 = ⟨1, 1, 0, 0, 0, 0⟩ := rfl
theorem f_piece (i k : Int) (hk : 1 ≤ k) : (fS i).piece 1 k = 1 := by
  have : (fS i).holds 1 k 1 = true := holds_iff.2 (.inr ⟨rfl, by rw [f_first]; exact hk⟩)
  show (([1] : List Nat).takeWhile _).getLastD 0 = 1
  rw [List.takeWhile_cons, this]; rfl
theorem f_len (i : Int) : (fS i).len 1 = i := rfl
theorem f_find (i k : Int) (h1 : 1 ≤ k) (h2 : k ≤ i) : (fS i).find 1 k = k - 1 := by
  unfold SS.find
  rw [f_piece i k h1, f_first, f_len, if_neg (fun h => by
    rcases h with h | h
    · exact h rfl
    · have h' : i ≤ k - 1 := h
      omega)]
  show (0 : Int) + (k - 1) = k - 1
  omega
theorem f_total (i : Int) : (fS i).total = i := by
  show i + 0 = i
  omega
theorem f_step (i : Int) (hi : 1 ≤ i) (hm : i + 1 ≤ 9007199254740991) : (fS i).may (fU i) 1 = true ∧ (fS i).run (fU i) 1 = fS (i + 1) := by
  have hu : fU i = ⟨1, i + 1, 1, i, 0, 0⟩ := if_neg (by omega)
  have hb : (fS i).between (fU i) = (i, i, true) := by
    have hr : (fS i).rightOf (fU i) = i := by
      rw [hu]
      exact (if_pos ⟨rfl, rfl⟩).trans (f_total i)
    have hl : (fS i).find (fU i).lc (fU i).lk = i - 1 := by
      rw [hu]
      exact f_find i i hi (by omega)
    unfold SS.between
    rw [hr, hl, if_neg (fun h => by omega), show i - 1 + 1 = i from by omega]
  have hh : (fS i).hasAny 1 (i + 1) 1 = false := by
    unfold SS.hasAny
    rw [show i + 1 + (1 - 1) = i + 1 from by omega, f_piece i (i + 1) (by omega), f_first, f_len]
    simp only
    exact decide_eq_false (fun h => by omega)
  have hmay : (fS i).may (fU i) 1 = true := by
    refine may_iff.2 ⟨⟨?_, ?_⟩, by omega, ?_, ?_, ?_⟩
    · rw [hu]; rfl
    · rw [hu]; show numOk (i + 1) = true; unfold numOk; simp; omega
    · rw [hu]; show (1 : Int) - 1 ≤ 9007199254740991 - (i + 1); omega
    · rw [hu]; exact hh
    · rw [hb]
  refine ⟨hmay, ?_⟩
  have hpl : (fS i).placeFor (fU i) = i := by
    unfold SS.placeFor SS.placeOf
    rw [hb]
    simp only [Int.sub_self]
    show i + ((bis _ 0 0 0 : Nat) : Int) = i
    show i + ((0 : Nat) : Int) = i
    omega
  have hat : atF (fS i).len (fS i).ord (i - 1) = (1, i - 1) := by
    show (if i - 1 < 0 then (0, 0) else if i - 1 < (if 1 = 1 then i else 0) then (1, i - 1) else _) = _
    rw [if_neg (by omega), if_pos rfl, if_pos (by omega)]
  have hcA : (fS i).cutAt i = 1 := by unfold SS.cutAt; rw [hat]
  have hrA : (fS i).restAt i = 0 := by
    unfold SS.restAt
    rw [hcA, hat, f_len]
    show i - (i - 1) - 1 = 0
    omega
  have hcut : (fS i).cut i = fS i := by
    unfold SS.cut
    rw [if_neg (by rw [hrA]; omega)]
  have hrun : (fS i).run (fU i) 1 = (fS i).lay ((fS i).placeFor (fU i)) (fU i) ((fS i).parentOf (fU i)).1 1 := by
    unfold SS.run
    rw [if_pos hmay]; rfl
  rw [hrun, hpl]
  unfold SS.lay
  rw [hcut, hcA]
  have he : (fS i).unit ((fS i).endOf 1) = fU i := by
    have : (fS i).endOf 1 = ⟨1, 0 + i⟩ := rfl
    rw [this, hu]
    show (if (0 : Int) + i = 0 then _ else _) = _
    rw [if_neg (by omega)]
    show (⟨1, 1 + (0 + i), 1, 1 + (0 + i) - 1, 0, 0⟩ : Un) = _
    rw [show (1 : Int) + (0 + i) = i + 1 from by omega, show i + 1 - 1 = i from by omega]
  rw [if_pos he]
  unfold SS.grow fS
  simp only [SS.mk.injEq, true_and]
  funext x
  by_cases hx : x = 1
  · simp [hx]
  · simp [hx]
theorem f_zero : SS.new.may (fU 0) 1 = true ∧ (SS.new.run (fU 0) 1) = fS 1 := by
  refine ⟨by decide, ?_⟩
  have hrun : SS.new.run (fU 0) 1 = SS.new.lay (SS.new.placeFor (fU 0)) (fU 0) (SS.new.parentOf (fU 0)).1 1 := by
    unfold SS.run
    rw [if_pos (by decide)]; rfl
  rw [hrun, show SS.new.placeFor (fU 0) = 0 from by decide, show (SS.new.parentOf (fU 0)).1 = .zero from by decide]
  have e : SS.new.lay 0 (fU 0) .zero 1 = ⟨[.zero, ⟨⟨1, 1, 0, 0, 0, 0⟩, .zero, .zero, 1⟩], [.zero, ⟨1, 0⟩], [1], [1], fun x => SS.new.len x + (if x = 1 then 1 else 0)⟩ := rfl
  rw [e]
  unfold fS
  simp only [SS.mk.injEq, true_and]
  funext x
  show (0 : Int) + _ = _
  split <;> rfl
end Go.Proofs.Ytdonhdmealhgiab
