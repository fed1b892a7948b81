/- quireref2.Read on any bytes: the same outcome as value.Read's. -/
import Derived.Test.YtkiicdleoniioaaDoorVrR
namespace Go.Proofs.YtkiicdleoniioaaDoor
open Go.RowKit
set_option linter.unusedVariables false
set_option linter.unusedSimpArgs false
set_option maxRecDepth 100000

theorem errVal_eq {bs rest : List UInt8} {er : Int} {v : V} (h : partsOf bs = (er, v, rest)) : errVal bs = if er ≠ 0 then er else if refCheck v = 0 ∧ refBits v.f = v.f then 0 else 11 := by
  unfold errVal; rw [h]
theorem errs_of {bs rest : List UInt8} {er C : Int} {v : V} (h : partsOf bs = (er, v, rest)) (hf : refBits v.f = v.f) (hC : refCheck v = C) :
    (er ≠ 0 → errVal bs = er) ∧ (er = 0 → C ≠ 0 → errVal bs = 11) ∧ (er = 0 → C = 0 → errVal bs = 0) := by
  rw [errVal_eq h, hC]
  refine ⟨fun h => by rw [if_pos h], fun h h2 => ?_, fun h h2 => ?_⟩
  · rw [if_neg (by simpa using h), if_neg (by intro h3; exact h2 h3.1)]
  · rw [if_neg (by simpa using h), if_pos ⟨h2, hf⟩]
theorem refBits0 : refBits 0 = 0 := by decide

theorem refRead_any (s g : Nat) (bs : List UInt8) (w : World) (h : RR w s g bs 0) (hgl : g < w.heap.size) :
    Calls Tryd.prog 7 #[.pointer (some ⟨s, 0, none⟩)] w (RVPost s g (partsOf bs).2.2 (errVal bs) (partsOf bs).2.1 w) := by
  obtain ⟨k, hk, ek, eo⟩ := rdByte_form bs 0
  generalize hE1 : (rdByte bs 0).1 = e1 at eo
  generalize hC1 : (rdByte bs 0).2.2 = cs1 at eo
  have np : ∀ n : Nat, natV (.int .u8 (n : Int)) = n := fun n => by simp [natV]
  have np64 : ∀ n : Nat, natV (.int .u64 (n : Int)) = n := fun n => by simp [natV]
  by_cases h1 : k = 1
  · subst h1
    obtain ⟨n, hn, en, eo2⟩ := rdByte_form cs1 e1
    generalize (rdByte cs1 e1).1 = e2 at eo2
    generalize (rdByte cs1 e1).2.2 = cs2 at eo2
    have hP : partsOf bs = (e2, ⟨1, n, 0, ⟨#[]⟩⟩, cs2) := by unfold partsOf; rw [eo]; simp only [np, if_true]; rw [eo2]; simp only [np]
    obtain ⟨he1, he2, he3⟩ := errs_of hP refBits0 rfl
    rw [hP]
    exact rv_bool s g bs cs1 e1 cs2 e2 n hn _ _ w h hgl eo2 eo rfl he1 he2 he3
  by_cases h2 : k = 2
  · subst h2
    obtain ⟨n, hn0, hn1, en, eo2⟩ := rdInt_form cs1 e1
    generalize (rdInt cs1 e1).1 = e2 at eo2
    generalize (rdInt cs1 e1).2.2 = cs2 at eo2
    have hP : partsOf bs = (e2, ⟨2, n, 0, ⟨#[]⟩⟩, cs2) := by unfold partsOf; rw [eo]; simp only [np, show ((2 : Nat) = 1) = False from by simp, if_true, if_false]; rw [eo2]; simp only [intV]
    obtain ⟨he1, he2, he3⟩ := errs_of hP refBits0 rfl
    rw [hP]
    exact rv_int s g bs cs1 e1 cs2 e2 n _ _ w h hgl eo2 eo rfl he1 he2 he3
  by_cases h3 : k = 3
  · subst h3
    obtain ⟨G, hn, en, eo2⟩ := rdFixed_form cs1 e1
    generalize (rdFixed cs1 e1).1 = e2 at eo2
    generalize (rdFixed cs1 e1).2.2 = cs2 at eo2
    have hP : partsOf bs = (e2, ⟨3, 0, G, ⟨#[]⟩⟩, cs2) := by unfold partsOf; rw [eo]; simp only [np, show ((3 : Nat) = 1) = False from by simp, show ((3 : Nat) = 2) = False from by simp, if_true, if_false]; rw [eo2]; simp only [np64]
    have hCk : refCheck ⟨3, 0, G, ⟨#[]⟩⟩ = 0 := by unfold refCheck vOk; simp
    rw [hP]
    cases hG : isNaN G
    · have hb : refBits G = G := by simp [refBits, hG]
      obtain ⟨he1, he2, he3⟩ := errs_of hP hb hCk
      exact rv_num s g bs cs1 e1 cs2 e2 G hG _ _ w h hgl eo2 eo hCk he1 he2 he3
    · by_cases hg : G = nanBits
      · have hb : refBits G = G := by simp [refBits, hG, hg]
        obtain ⟨he1, he2, he3⟩ := errs_of hP hb hCk
        exact rv_nan s g bs cs1 e1 cs2 e2 G hG hg _ _ w h hgl eo2 eo hCk he1 he2 he3
      · have hb : refBits G ≠ G := by simp [refBits, hG]; exact fun h => hg h.symm
        refine rv_odd s g bs cs1 e1 cs2 e2 G hG hg _ _ w h hgl eo2 eo hCk ?_
        rw [errVal_eq hP]
        by_cases h0 : e2 = 0
        · rw [if_neg (by simpa using h0), if_neg (by intro h3; exact hb h3.2), if_pos h0]
        · rw [if_pos h0, if_neg h0]
  by_cases h4 : k = 4
  · subst h4
    obtain ⟨t, ht, en, eo2⟩ := rdText_form cs1 e1
    generalize (rdText cs1 e1 4096).1 = e2 at eo2
    generalize (rdText cs1 e1 4096).2.2 = cs2 at eo2
    have hP : partsOf bs = (e2, ⟨4, 0, 0, t⟩, cs2) := by unfold partsOf; rw [eo]; simp only [np, show ((4 : Nat) = 1) = False from by simp, show ((4 : Nat) = 2) = False from by simp, show ((4 : Nat) = 3) = False from by simp, if_true, if_false]; rw [eo2]; simp only [strV]
    obtain ⟨he1, he2, he3⟩ := errs_of hP refBits0 rfl
    rw [hP]
    exact rv_text s g bs cs1 e1 cs2 e2 t ht _ _ w h hgl eo2 eo rfl he1 he2 he3
  have hP : partsOf bs = (e1, ⟨k, 0, 0, ⟨#[]⟩⟩, cs1) := by unfold partsOf; rw [eo]; simp only [np]; rw [if_neg h1, if_neg h2, if_neg h3, if_neg h4]
  rw [hP]
  by_cases h0 : k = 0
  · subst h0
    obtain ⟨he1, he2, he3⟩ := errs_of hP refBits0 rfl
    exact rv_null s g bs cs1 e1 _ _ w h hgl eo rfl he1 he2 he3
  by_cases h5 : k = 5
  · subst h5
    obtain ⟨he1, he2, he3⟩ := errs_of hP refBits0 rfl
    exact rv_map s g bs cs1 e1 _ _ w h hgl eo rfl he1 he2 he3
  have hCk : refCheck ⟨k, 0, 0, ⟨#[]⟩⟩ = 20 := by
    have hv : vOk ⟨k, 0, 0, ⟨#[]⟩⟩ = false := by
      unfold vOk
      simp only
      rw [if_neg (by omega), if_neg (by omega), if_neg (by omega), if_neg (by omega), if_neg (by omega)]
    unfold refCheck
    rw [hv]
    rfl
  have ne : ∀ m : Nat, k ≠ m → ((k : Int) == (m : Int)) = false := fun m hm => by rw [beq_eq_false_iff_ne]; omega
  refine rv_other s g bs cs1 e1 k hk (ne 0 h0) (ne 1 h1) (ne 2 h2) (ne 3 h3) (ne 4 h4) (ne 5 h5) _ _ w h hgl eo hCk ?_
  rw [errVal_eq hP, hCk]
  by_cases h0 : e1 = 0
  · rw [if_neg (by simpa using h0), if_neg (by intro h3; exact absurd h3.1 (by decide)), if_pos h0]
  · rw [if_pos h0, if_neg h0]
end Go.Proofs.YtkiicdleoniioaaDoor
