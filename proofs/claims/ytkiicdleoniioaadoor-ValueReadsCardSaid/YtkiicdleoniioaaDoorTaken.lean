/- Values that are taken; a Writer made just now. -/
import Derived.Test.YtkiicdleoniioaaDoorPart14
import Derived.Test.YtkiicdleoniioaaDoorVWrite
import Derived.Test.YtkiicdleoniioaaDoorRef2c
import Derived.Test.YtkiicdleoniioaaDoorWrMore
namespace Go.Proofs.YtkiicdleoniioaaDoor
open Go.RowKit
set_option linter.unusedVariables false
set_option linter.unusedSimpArgs false
set_option maxRecDepth 100000

theorem taken_of (v : V) (hf : v.fits) (h : refCheck v = 0) : v.taken := by
  obtain ⟨k, n, f, s⟩ := v
  have hv : vOk ⟨k, n, f, s⟩ = true := by
    unfold refCheck at h
    cases hv : vOk ⟨k, n, f, s⟩
    · rw [hv] at h; simp at h
    · rfl
  have hs : s.toList.isEmpty = true → s = ⟨#[]⟩ := by
    intro e
    rw [ByteArray.toList_eq] at e
    have : s.data.toList = [] := by simpa using e
    exact ByteArray.ext (Array.ext' this)
  unfold vOk at hv
  simp only at hv
  split at hv
  · rename_i hk
    simp only [Bool.and_eq_true, beq_iff_eq] at hv
    exact ⟨hf, by simp only; omega, fun _ _ => hv.1.1, fun e => by simp only at e; omega, fun _ => by simp only; omega, fun _ => hs hv.2⟩
  split at hv
  · rename_i hk hk1
    simp only [Bool.and_eq_true, beq_iff_eq, Bool.or_eq_true] at hv
    exact ⟨hf, by simp only; omega, fun e => absurd hk1 e, fun _ => hv.1.1, fun _ => by simp only; omega, fun _ => hs hv.2⟩
  split at hv
  · rename_i hk hk1 hk2
    simp only [Bool.and_eq_true, beq_iff_eq] at hv
    exact ⟨hf, by simp only; omega, fun _ e => absurd hk2 e, fun e => absurd e hk1, fun _ => by simp only; omega, fun _ => hs hv.2⟩
  split at hv
  · rename_i hk hk1 hk2 hk3
    simp only [Bool.and_eq_true, beq_iff_eq] at hv
    exact ⟨hf, by simp only; omega, fun _ _ => hv.1, fun e => absurd e hk1, fun e => absurd hk3 e, fun _ => hs hv.2⟩
  split at hv
  · rename_i hk hk1 hk2 hk3 hk4
    simp only [Bool.and_eq_true, beq_iff_eq] at hv
    exact ⟨hf, by simp only; omega, fun _ _ => hv.1.1.1, fun e => absurd e hk1, fun _ => by simp only; omega, fun e => absurd hk4 e⟩
  · cases hv
theorem V.taken.good {v : V} (h : v.taken) : v.good := ⟨h.fit, h.kind, h.bool⟩
theorem putGo_len (f n : Nat) : (putGo f n).length ≤ f + 1 := by
  induction f generalizing n with
  | zero => simp [putGo]
  | succ f ih =>
    simp only [putGo]; split
    · simp
    · simp only [List.length_cons]; have := ih (n / 128); omega
theorem writeOf_len (v : V) : (writeOf v).length ≤ 20 + v.s.size := by
  unfold writeOf
  simp only [List.length_cons]
  split
  · simp; omega
  split
  · have := putGo_len 9 (unzz v.n); unfold putU; omega
  split
  · rw [putF_length]; omega
  split
  · unfold putT putU
    rw [List.length_append]
    have := putGo_len 9 v.s.size
    have e : v.s.data.toList.length = v.s.size := rfl
    omega
  · simp; omega
end Go.Proofs.YtkiicdleoniioaaDoor
