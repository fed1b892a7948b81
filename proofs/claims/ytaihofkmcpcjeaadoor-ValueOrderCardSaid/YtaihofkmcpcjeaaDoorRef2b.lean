/- The contracts of quireref2: order, ints, Cmp. -/
import Derived.Test.YtaihofkmcpcjeaaDoorVals
namespace Go.Proofs.YtaihofkmcpcjeaaDoor
open Go.RowKit
set_option linter.unusedVariables false

theorem i64_low63 (f : Nat) (h0 : ¬ f < 9223372036854775808) (h1 : f < 18446744073709551616) : wrap64 (-1 - bits .and .i64 (wrap64 (f : Int)) 9223372036854775807) = 9223372036854775807 - (f : Int) := by
  have e : wrap64 (f : Int) = (f : Int) - 18446744073709551616 := by rw [wrap64]; omega
  have e2 : bits .and .i64 ((f : Int) - 18446744073709551616) 9223372036854775807 = (f : Int) - 9223372036854775808 := by
    show IntKind.i64.wrap ((BitVec.ofInt 64 ((f : Int) - 18446744073709551616) &&& BitVec.ofInt 64 9223372036854775807).toNat : Int) = _
    have h2 : (BitVec.ofInt 64 ((f : Int) - 18446744073709551616)).toNat = f := by
      rw [BitVec.toNat_ofInt]; omega
    have h3 : (BitVec.ofInt 64 9223372036854775807).toNat = 9223372036854775807 := by decide
    rw [BitVec.toNat_and, h2, h3, show (9223372036854775807 : Nat) = 2 ^ 63 - 1 from by decide, Nat.and_two_pow_sub_one_eq_mod, IntKind.wrap_i64]
    omega
  rw [e, e2, wrap64]; omega

set_option maxHeartbeats 400000 in
theorem ref_order (f : Nat) (hf : f < 18446744073709551616) (w : World) : Calls Tryd.prog 48 #[.float .f64 f] w fun e w' => e = .returned (.int .i64 (refOrder f)) ∧ w' = w := by
  have h1 := f64bits_run
  have h2 := self_neq f
  cases h : isNaN f
  · rw [h] at h2
    by_cases hs : f < 9223372036854775808
    · have HE : Hid (refOrder f = f) := by simp [Hid, refOrder, h, hs]
      have h3 : wrap64 (f : Int) = f := by rw [wrap64]; omega
      go_enter Tryd.func48, Tryd.ntmps48
      go_wp2
      go_ret
      exact ⟨congrArg (fun x : Int => Ending.returned (.int .i64 x)) HE.out.symm, rfl⟩
    · have HE : Hid (refOrder f = wrap64 (-1 - bits .and .i64 (wrap64 (f : Int)) 9223372036854775807)) := by
        rw [Hid, i64_low63 f hs hf]; simp [refOrder, h, hs]
      have h3 : wrap64 (f : Int) < 0 := by rw [wrap64]; omega
      go_enter Tryd.func48, Tryd.ntmps48
      go_wp2
      go_ret
      exact ⟨congrArg (fun x : Int => Ending.returned (.int .i64 x)) HE.out.symm, rfl⟩
  · rw [h] at h2
    have HE : Hid (refOrder f = 9223372036854775807) := by simp [Hid, refOrder, h]
    go_enter Tryd.func48, Tryd.ntmps48
    go_wp2
    go_ret
    exact ⟨congrArg (fun x : Int => Ending.returned (.int .i64 x)) HE.out.symm, rfl⟩

set_option maxHeartbeats 400000 in
theorem ref_ints (a b : Int) (w : World) : Calls Tryd.prog 47 #[.int .i64 a, .int .i64 b] w fun e w' => e = .returned (.int .i64 (refInts a b)) ∧ w' = w := by
  by_cases h1 : a < b
  · have HE : Hid (refInts a b = -1) := by simp [Hid, refInts, h1]
    go_enter Tryd.func47, Tryd.ntmps47
    go_wp2
    go_ret
    exact ⟨congrArg (fun x : Int => Ending.returned (.int .i64 x)) HE.out.symm, rfl⟩
  · by_cases h2 : b < a
    · have HE : Hid (refInts a b = 1) := by simp [Hid, refInts, h1, h2]
      go_enter Tryd.func47, Tryd.ntmps47
      go_wp2
      go_ret
      exact ⟨congrArg (fun x : Int => Ending.returned (.int .i64 x)) HE.out.symm, rfl⟩
    · have HE : Hid (refInts a b = 0) := by simp [Hid, refInts, h1, h2]
      go_enter Tryd.func47, Tryd.ntmps47
      go_wp2
      go_ret
      exact ⟨congrArg (fun x : Int => Ending.returned (.int .i64 x)) HE.out.symm, rfl⟩

set_option maxRecDepth 100000 in
set_option maxHeartbeats 1000000 in
theorem ref_cmp (a b : V) (hfa : a.f < 18446744073709551616) (hfb : b.f < 18446744073709551616) (w : World) : Calls Tryd.prog 17 #[a.val, b.val] w fun e w' => e = .returned (.int .i64 (refCmp a b)) ∧ Touch (fun _ => False) w w' := by
  obtain ⟨k, n, f, s⟩ := a
  obtain ⟨k2, n2, f2, s2⟩ := b
  simp only [V.val] at *
  have HC : Hid (refCmp ⟨k, n, f, s⟩ ⟨k2, n2, f2, s2⟩ = if refInts k k2 ≠ 0 then refInts k k2 else if refInts n n2 ≠ 0 then refInts n n2 else if refInts (refOrder f) (refOrder f2) ≠ 0 then refInts (refOrder f) (refOrder f2) else refText s s2) := rfl
  generalize refCmp ⟨k, n, f, s⟩ ⟨k2, n2, f2, s2⟩ = C at *
  have HT : Hid (Touch (fun _ => False) w ((w.alloc (.cells #[.int .i64 k, .int .i64 n, .float .f64 f, .string s] 24)).alloc (.cells #[.int .i64 k2, .int .i64 n2, .float .f64 f2, .string s2] 24))) := ((Touch.refl _ _).alloc _).alloc _
  go_enter Tryd.func17, Tryd.ntmps17
  go_wp2_with fail
  refine (ref_ints k k2 _).mono ?_
  rintro e w1 ⟨rfl, rfl⟩
  generalize refInts k k2 = c1 at *
  by_cases h1 : c1 = 0
  · have t1 : (c1 == 0) = true := by rw [h1]; rfl
    have H1 : Hid (c1 = 0) := h1
    clear h1
    go_wp2_with fail
    refine (ref_ints n n2 _).mono ?_
    rintro e w2 ⟨rfl, rfl⟩
    generalize refInts n n2 = c2 at *
    by_cases h2 : c2 = 0
    · have t2 : (c2 == 0) = true := by rw [h2]; rfl
      have H2 : Hid (c2 = 0) := h2
      clear h2
      have HO : Hid (∀ w, Calls Tryd.prog 48 #[.float .f64 f] w fun e w' => e = .returned (.int .i64 (refOrder f)) ∧ w' = w) := ref_order f hfa
      have HO2 : Hid (∀ w, Calls Tryd.prog 48 #[.float .f64 f2] w fun e w' => e = .returned (.int .i64 (refOrder f2)) ∧ w' = w) := ref_order f2 hfb
      go_wp2_with fail
      go_quiet (first | (go_at_call_of 48 (Value.float FloatKind.f64 f); exact Calls.quiet_of_same (HO.out _)) | (go_at_call_of 48 (Value.float FloatKind.f64 f2); exact Calls.quiet_of_same (HO2.out _)) | (go_at_call 47; exact Calls.quiet_of_same (ref_ints _ _ _)))
      have HT3 : Hid (Touch (fun _ => False) w ((((w.alloc (.cells #[.int .i64 k, .int .i64 n, .float .f64 f, .string s] 24)).alloc (.cells #[.int .i64 k2, .int .i64 n2, .float .f64 f2, .string s2] 24))).drewN nq)) := HT.out.drewN _
      generalize refInts (refOrder f) (refOrder f2) = c3 at *
      by_cases h3 : c3 = 0
      · have t3 : (c3 != 0) = false := by rw [h3]; rfl
        have HE : Hid (C = refText s s2) := by rw [Hid, HC.out, if_neg (by simpa using H1.out), if_neg (by simpa using H2.out), if_neg (by simpa using h3)]
        clear h3 HO HO2
        cases h4 : Op.bytesLess s.toList s2.toList
        · cases h5 : (s.toList == s2.toList)
          · have HF : Hid (C = 1) := by rw [Hid, HE.out, refText, h4, h5]; rfl
            go_wp2_with fail
            go_ret
            exact ⟨congrArg (fun x : Int => Ending.returned (.int .i64 x)) HF.out.symm, HT3.out⟩
          · have HF : Hid (C = 0) := by rw [Hid, HE.out, refText, h4, h5]; rfl
            go_wp2_with fail
            go_ret
            exact ⟨congrArg (fun x : Int => Ending.returned (.int .i64 x)) HF.out.symm, HT3.out⟩
        · have HF : Hid (C = -1) := by rw [Hid, HE.out, refText, h4]; rfl
          go_wp2_with fail
          go_ret
          exact ⟨congrArg (fun x : Int => Ending.returned (.int .i64 x)) HF.out.symm, HT3.out⟩
      · have t3 : (c3 != 0) = true := by rw [bne_iff_ne]; exact h3
        have HE : Hid (C = c3) := by rw [Hid, HC.out, if_neg (by simpa using H1.out), if_neg (by simpa using H2.out), if_pos h3]
        go_wp2_with fail
        go_ret
        exact ⟨congrArg (fun x : Int => Ending.returned (.int .i64 x)) HE.out.symm, HT3.out⟩
    · have t2 : (c2 == 0) = false := by rw [beq_eq_false_iff_ne]; exact h2
      have t3 : (c2 != 0) = true := by rw [bne_iff_ne]; exact h2
      have HE : Hid (C = c2) := by rw [Hid, HC.out, if_neg (by simpa using H1.out), if_pos h2]
      go_wp2_with fail
      go_ret
      exact ⟨congrArg (fun x : Int => Ending.returned (.int .i64 x)) HE.out.symm, HT.out⟩
  · have t1 : (c1 == 0) = false := by rw [beq_eq_false_iff_ne]; exact h1
    have t2 : (c1 != 0) = true := by rw [bne_iff_ne]; exact h1
    have HE : Hid (C = c1) := by rw [Hid, HC.out, if_pos h1]
    go_wp2_with fail
    go_ret
    exact ⟨congrArg (fun x : Int => Ending.returned (.int .i64 x)) HE.out.symm, HT.out⟩
end Go.Proofs.YtaihofkmcpcjeaaDoor
