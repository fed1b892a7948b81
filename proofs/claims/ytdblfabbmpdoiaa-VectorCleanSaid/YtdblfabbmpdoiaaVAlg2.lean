/- Vectors as what they tell: what one lacks, what lies within; the document's answers. -/
import Derived.Test.YtdblfabbmpdoiaaVAlg
import Derived.Test.YtdblfabbmpdoiaaRvE
namespace Go.Proofs.Ytdblfabbmpdoiaa
open Go.RowKit Go.Maps
set_option linter.unusedVariables false
set_option linter.unusedSimpArgs false

/-- A slice in its form that tells F, however long. -/
def VRef (W : World) (v : Value) (F : Int → Int) : Prop := ∃ l, SlC W v l ∧ VForm l F
def RRef (W : World) (v : Value) (F : Int → Int → Int) : Prop := ∃ l, SlR W v l ∧ Form (tns l) F
theorem VRef.shape {W : World} {v : Value} {F : Int → Int} (h : VRef W v F) : ∃ ao n cap, v = .slice ao n cap := by
  obtain ⟨l, ⟨ao, cap, e, _⟩, _⟩ := h
  exact ⟨ao, _, cap, e⟩
theorem RRef.shape {W : World} {v : Value} {F : Int → Int → Int} (h : RRef W v F) : ∃ ao n cap, v = .slice ao n cap := by
  obtain ⟨l, ⟨ao, cap, e, _⟩, _⟩ := h
  exact ⟨ao, _, cap, e⟩
theorem VRef.touch {W W' : World} {v : Value} {F : Int → Int} (h : VRef W v F) (t : Touch (fun _ => False) W W') : VRef W' v F := by
  obtain ⟨l, h1, h2⟩ := h
  exact ⟨l, h1.touch t, h2⟩
theorem RRef.touch {W W' : World} {v : Value} {F : Int → Int → Int} (h : RRef W v F) (t : Touch (fun _ => False) W W') : RRef W' v F := by
  obtain ⟨l, h1, h2⟩ := h
  exact ⟨l, h1.touch t, h2⟩
section
variable {W : World} {va vb : Value} {F G : Int → Int} {N M : Nat}
theorem lack_len {ao : Option Addr} {n cap N : Nat} (h : Cst W (.slice ao n cap) (lack F G) N) (hF : ∀ c, 0 ≤ F c) : n = 0 ↔ ∀ c, G c ≤ F c := by
  obtain ⟨l, ⟨ao', cap', e, _⟩, h2, _⟩ := h
  simp only [Value.slice.injEq] at e
  rw [e.2.1, List.length_eq_zero_iff]
  exact lack_none h2 hF
theorem vwithin_set (ha : VLst W va F N) (hb : VLst W vb G M) (hN : N ≤ 1048576) (hM : M ≤ 1048576) (wb : Bool) (h : wb = true ↔ ∀ c, F c ≤ G c) : Calls Try.prog 24 #[va, vb] W fun e w' => e = .returned (.bool wb) ∧ Touch (fun _ => False) W w' := by
  obtain ⟨a, a1, a2, a3⟩ := ha
  obtain ⟨b, b1, b2, b3⟩ := hb
  have e : inC a b = wb := by
    rw [Bool.eq_iff_iff, inC_iff, h]
    exact forall_congr' fun c => by rw [a2, b2]
  rw [← e]
  exact vwithin_any a b va vb W a1 b1 (by omega) (by omega)
theorem rvwithin_set (ha : VLst W va F N) (hb : VLst W vb G M) (hN : N ≤ 1048576) (hM : M ≤ 1048576) (wb : Bool) (h : wb = true ↔ ∀ c, F c ≤ G c) : Calls Try.prog 25 #[va, vb] W fun e w' => e = .returned (.bool wb) ∧ Touch (fun _ => False) W w' := by
  obtain ⟨a, a1, a2, a3⟩ := ha
  obtain ⟨b, b1, b2, b3⟩ := hb
  have e : inC a b = wb := by
    rw [Bool.eq_iff_iff, inC_iff, h]
    exact forall_congr' fun c => by rw [a2, b2]
  rw [← e]
  exact rvwithin_any a b va vb W a1 b1 (by omega) (by omega)
theorem vmissing_set (ha : VLst W va F N) (hb : VLst W vb G M) (hN : N ≤ 1048576) (hM : M ≤ 1048576) : Calls Try.prog 20 #[va, vb] W fun e w' => ∃ v', e = .returned v' ∧ Cst w' v' (lack F G) (2 * (N + M) + 1) ∧ Touch (fun _ => False) W w' := by
  obtain ⟨a, a1, a2, a3⟩ := ha
  obtain ⟨b, b1, b2, b3⟩ := hb
  refine (vmissing_any a b va vb W a1 b1 (by omega) (by omega)).mono ?_
  rintro e w' ⟨v', out, rfl, hN, hF, hl⟩
  exact ⟨v', rfl, ⟨out, hN.sl, hF.of fun c k => by unfold lack; rw [a2, b2], by omega⟩, hN.touch⟩
theorem rvmissing_set (ha : VLst W va F N) (hb : VLst W vb G M) (hN : N ≤ 60) (hM : M ≤ 60) : Calls Try.prog 23 #[va, vb] W fun e w' => ∃ v', e = .returned v' ∧ RRef w' v' (lack F G) ∧ Touch (fun _ => False) W w' := by
  obtain ⟨a, a1, a2, a3⟩ := ha
  obtain ⟨b, b1, b2, b3⟩ := hb
  refine (rvmissing_any a b va vb W a1 b1 (by omega) (by omega)).mono ?_
  rintro e w' ⟨v', out, rfl, hS, hT, hF⟩
  exact ⟨v', rfl, ⟨out, hS, hF.of fun c k => by unfold lack; rw [a2, b2]⟩, hT⟩
theorem rvjoin_set (ha : VLst W va F N) (hb : VLst W vb G M) (hN : N ≤ 1048576) (hM : M ≤ 1048576) : Calls Try.prog 21 #[va, vb] W fun e w' => ∃ v', e = .returned v' ∧ VRef w' v' (fun c => max (F c) (G c)) ∧ Touch (fun _ => False) W w' := by
  obtain ⟨a, a1, a2, a3⟩ := ha
  obtain ⟨b, b1, b2, b3⟩ := hb
  refine (rvjoin_any a b va vb W a1 b1 (by omega) (by omega)).mono ?_
  rintro e w' ⟨v', out, rfl, hN, hF, hl⟩
  exact ⟨v', rfl, ⟨out, hN.sl, hF.of fun c => by rw [a2, b2]⟩, hN.touch⟩
theorem rvmeet_set (ha : VLst W va F N) (hb : VLst W vb G M) (hN : N ≤ 1048576) (hM : M ≤ 1048576) : Calls Try.prog 22 #[va, vb] W fun e w' => ∃ v', e = .returned v' ∧ VRef w' v' (fun c => min (F c) (G c)) ∧ Touch (fun _ => False) W w' := by
  obtain ⟨a, a1, a2, a3⟩ := ha
  obtain ⟨b, b1, b2, b3⟩ := hb
  refine (rvmeet_any a b va vb W a1 b1 (by omega) (by omega)).mono ?_
  rintro e w' ⟨v', out, rfl, hN, hF⟩
  exact ⟨v', rfl, ⟨out, hN.sl, hF.of fun c => by rw [a2, b2]⟩, hN.touch⟩
theorem vsame_ref (ha : VCst W va F N) (hb : VRef W vb G) (h : ∀ c, F c = G c) (hN : N ≤ 1048576) : Calls Try.prog 9 #[va, vb] W fun e w' => e = .returned (.bool true) ∧ Touch (fun _ => False) W w' := by
  obtain ⟨a, a1, a2, a3⟩ := ha
  obtain ⟨b, b1, b2⟩ := hb
  obtain rfl : a = b := a2.eq b2 h
  exact clocksEq_any a va vb W a1 b1 (by omega)
theorem rsame_ref {H K : Int → Int → Int} (ha : Cst W va H N) (hb : RRef W vb K) (h : ∀ c k, H c k = K c k) (hN : N ≤ 1048576) : Calls Try.prog 15 #[va, vb] W fun e w' => e = .returned (.bool true) ∧ Touch (fun _ => False) W w' := by
  obtain ⟨a, a1, a2, a3⟩ := ha
  obtain ⟨b, b1, b2⟩ := hb
  obtain rfl : a = b := tns_inj (a2.eq b2 h)
  exact rangesEq_any a va vb W a1 b1 (by omega)
end
end Go.Proofs.Ytdblfabbmpdoiaa
