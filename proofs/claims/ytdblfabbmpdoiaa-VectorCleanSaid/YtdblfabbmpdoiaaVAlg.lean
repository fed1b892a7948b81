/- Vectors as what they tell. -/
import Derived.Test.YtdblfabbmpdoiaaKnown7
namespace Go.Proofs.Ytdblfabbmpdoiaa
open Go.RowKit Go.Maps
set_option linter.unusedVariables false
set_option linter.unusedSimpArgs false

/-- A slice of clocks that tells F. -/
def VLst (W : World) (v : Value) (F : Int → Int) (N : Nat) : Prop := ∃ l, SlC W v l ∧ (∀ c, atC l c = F c) ∧ l.length ≤ N
/-- A slice in its form that tells F. -/
def VCst (W : World) (v : Value) (F : Int → Int) (N : Nat) : Prop := ∃ l, SlC W v l ∧ VForm l F ∧ l.length ≤ N
theorem VCst.lst {W : World} {v : Value} {F : Int → Int} {N : Nat} (h : VCst W v F N) : VLst W v F N := by
  obtain ⟨l, h1, h2, h3⟩ := h
  exact ⟨l, h1, h2.tells, h3⟩
theorem VCst.touch {W W' : World} {v : Value} {F : Int → Int} {N : Nat} (h : VCst W v F N) (t : Touch (fun _ => False) W W') : VCst W' v F N := by
  obtain ⟨l, h1, h2, h3⟩ := h
  exact ⟨l, h1.touch t, h2, h3⟩
theorem VLst.touch {W W' : World} {v : Value} {F : Int → Int} {N : Nat} (h : VLst W v F N) (t : Touch (fun _ => False) W W') : VLst W' v F N := by
  obtain ⟨l, h1, h2, h3⟩ := h
  exact ⟨l, h1.touch t, h2, h3⟩
theorem VCst.shape {W : World} {v : Value} {F : Int → Int} {N : Nat} (h : VCst W v F N) : ∃ ao n cap, v = .slice ao n cap := by
  obtain ⟨l, ⟨ao, cap, e, _⟩, _⟩ := h
  exact ⟨ao, _, cap, e⟩
section
variable {W : World} {va vb : Value} {F G : Int → Int} {N M : Nat}
theorem vjoin_set (ha : VLst W va F N) (hb : VLst W vb G M) (hN : N ≤ 1048576) (hM : M ≤ 1048576) : Calls Try.prog 18 #[va, vb] W fun e w' => ∃ v', e = .returned v' ∧ VCst w' v' (fun c => max (F c) (G c)) (2 * (N + M) + 1) ∧ Touch (fun _ => False) W w' := by
  obtain ⟨a, a1, a2, a3⟩ := ha
  obtain ⟨b, b1, b2, b3⟩ := hb
  refine (vjoin_any a b va vb W a1 b1 (by omega) (by omega)).mono ?_
  rintro e w' ⟨v', out, rfl, hN, hF, hl⟩
  exact ⟨v', rfl, ⟨out, hN.sl, hF.of fun c => by rw [a2, b2], by omega⟩, hN.touch⟩
theorem vmeet_set (ha : VLst W va F N) (hb : VLst W vb G M) (hN : N ≤ 1048576) (hM : M ≤ 1048576) : Calls Try.prog 19 #[va, vb] W fun e w' => ∃ v', e = .returned v' ∧ VCst w' v' (fun c => min (F c) (G c)) (2 * (N + M) + 1) ∧ Touch (fun _ => False) W w' := by
  obtain ⟨a, a1, a2, a3⟩ := ha
  obtain ⟨b, b1, b2, b3⟩ := hb
  refine (vmeet_any a b va vb W a1 b1 (by omega) (by omega)).mono ?_
  rintro e w' ⟨v', out, rfl, hN, hF, hl⟩
  exact ⟨v', rfl, ⟨out, hN.sl, hF.of fun c => by rw [a2, b2], by omega⟩, hN.touch⟩
theorem vclean_set (ha : VLst W va F N) (hN : N ≤ 1048576) : Calls Try.prog 8 #[va] W fun e w' => ∃ v', e = .returned v' ∧ VCst w' v' F N ∧ Touch (fun _ => False) W w' := by
  obtain ⟨a, a1, a2, a3⟩ := ha
  refine (vclean_any a va W a1 (by omega)).mono ?_
  rintro e w' ⟨v', out, rfl, hN, hF, hl⟩
  exact ⟨v', rfl, ⟨out, hN.sl, hF.of a2, by omega⟩, hN.touch⟩
theorem vsame_set (ha : VCst W va F N) (hb : VCst W vb G M) (h : ∀ c, F c = G c) (hN : N ≤ 1048576) : Calls Try.prog 9 #[va, vb] W fun e w' => e = .returned (.bool true) ∧ Touch (fun _ => False) W w' := by
  obtain ⟨a, a1, a2, a3⟩ := ha
  obtain ⟨b, b1, b2, b3⟩ := hb
  obtain rfl : a = b := a2.eq b2 h
  exact clocksEq_any a va vb W a1 b1 (by omega)
end
end Go.Proofs.Ytdblfabbmpdoiaa
