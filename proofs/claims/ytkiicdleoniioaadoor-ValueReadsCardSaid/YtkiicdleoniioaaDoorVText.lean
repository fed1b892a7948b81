/- The contract of value.Text at floats and texts. -/
import Derived.Test.YtkiicdleoniioaaDoorVText0
import Derived.Test.YtkiicdleoniioaaDoorVBase
import Derived.Laws.Concat
namespace Go.Proofs.YtkiicdleoniioaaDoor
open Go.RowKit
set_option linter.unusedVariables false
set_option maxRecDepth 100000

theorem isNaN_lt : nanBits < 18446744073709551616 := by decide
theorem refBits_lt (f : Nat) (h : f < 18446744073709551616) : refBits f < 18446744073709551616 := by
  unfold refBits; split
  · exact isNaN_lt
  · exact h
def hexText (f : Nat) : ByteArray := ⟨#[102]⟩ ++ ⟨(hexGo (refBits f) 16).toArray⟩

set_option maxHeartbeats 400000 in
theorem v_text_float (v : V) (hk : v.k = 3) (hf : v.f < 18446744073709551616) (w : World) : Calls Tryd.prog 19 #[v.val] w fun e w' => e = .returned (.string (hexText v.f)) ∧ Touch (fun _ => False) w w' := by
  obtain ⟨k, n, f, s⟩ := v
  simp only at hk hf
  subst hk
  have HR : Hid (hexText f = ⟨#[102]⟩ ++ ⟨(hexGo (refBits f) 16).toArray⟩) := rfl
  have HX : Hid (∀ w, Calls Tryd.prog 47 #[.int .u64 (refBits f)] w fun e w' => e = .returned (.string ⟨(hexGo (refBits f) 16).toArray⟩) ∧ Touch (fun _ => False) w w') := v_hex _ (refBits_lt f hf)
  have HN : Hid (∀ w, Calls Tryd.prog 36 #[.float .f64 f] w fun e w' => e = .returned (.float .f64 (refBits f)) ∧ w' = w) := v_oneNaN f
  simp only [V.val] at *
  generalize hexText f = R at *
  have hZ : (ByteArray.mk (hexGo (refBits f) 16).toArray).size = 16 := by
    show (hexGo (refBits f) 16).toArray.size = 16
    rw [List.size_toArray, hexGo_length]
  generalize ByteArray.mk (hexGo (refBits f) 16).toArray = t at *
  generalize refBits f = g at *
  have h1 := f64bits_run
  go_enter Tryd.func19, Tryd.ntmps19
  go_wp2_with fail
  refine (HN.out _).mono ?_
  rintro e w1 ⟨rfl, rfl⟩
  go_wp2_with fail
  refine (HX.out _).mono ?_
  rintro e w2 ⟨rfl, hT⟩
  have HT : Hid (Touch (fun _ => False) w w2) := Touch.trans ((Touch.refl _ _).alloc _) hT
  clear hT
  go_wp2_with fail
  go_ret
  exact ⟨congrArg (fun x => Ending.returned (.string x)) HR.out.symm, HT.out⟩

set_option maxHeartbeats 400000 in
theorem v_text_text (v : V) (hk : v.k = 4) (hs : v.s.size ≤ 1000000000000) (w : World) : Calls Tryd.prog 19 #[v.val] w fun e w' => e = .returned (.string (refQuote v.s)) ∧ Touch (fun _ => False) w w' := by
  obtain ⟨k, n, f, s⟩ := v
  simp only at hk hs
  subst hk
  have HX : Hid (∀ w, Calls Tryd.prog 48 #[.string s] w fun e w' => e = .returned (.string (refQuote s)) ∧ Touch (fun _ => False) w w') := v_quoted s hs
  simp only [V.val] at *
  generalize refQuote s = R at *
  go_enter Tryd.func19, Tryd.ntmps19
  go_wp2_with fail
  refine (HX.out _).mono ?_
  rintro e w2 ⟨rfl, hT⟩
  have HT : Hid (Touch (fun _ => False) w w2) := Touch.trans ((Touch.refl _ _).alloc _) hT
  clear hT
  go_wp2_with fail
  go_ret
  exact ⟨rfl, HT.out⟩
end Go.Proofs.YtkiicdleoniioaaDoor
