/- The contract of quirelaw2.known: the chapter's examples. -/
import Derived.Test.YtaihofkmcpcjeaaDoorVText
import Derived.Test.YtaihofkmcpcjeaaDoorPart4
import Derived.Test.YtaihofkmcpcjeaaDoorVCheck0
import Derived.Test.YtaihofkmcpcjeaaDoorVCmp
import Derived.Test.YtaihofkmcpcjeaaDoorVAdd2
namespace Go.Proofs.YtaihofkmcpcjeaaDoor
open Go.RowKit
set_option linter.unusedVariables false
set_option maxRecDepth 100000

set_option maxHeartbeats 400000 in
theorem l_float (f : Nat) (w : World) : Calls Tryd.prog 20 #[.float .f64 f] w fun e w' => e = .returned (.agg #[.int .i64 3, .int .i64 0, .float .f64 f, .string ⟨#[]⟩]) ∧ w' = w.alloc (.cells #[.int .i64 3, .int .i64 0, .float .f64 f, .string ⟨#[]⟩] 24) := by
  have h2 := run_store_f64 Tryd.prog
  go_enter Tryd.func20, Tryd.ntmps20
  go_wp2_with fail
  refine bodyPost_ret (v := .agg #[.int .i64 3, .int .i64 0, .float .f64 f, .string ⟨#[]⟩]) (by simp [results, Tryd.results20, go_sem]) rfl ⟨rfl, rfl⟩

theorem field2_run (k n : Int) (f : Nat) (s : ByteArray) (w : World) : (Instr.field 24 (.agg #[.int .i64 k, .int .i64 n, .float .f64 f, .string s]) 2).run Tryd.prog w = .ok (.float .f64 f) w := by kernel_rfl


theorem k_add1 (w : World) : Calls Tryd.prog 35 #[.agg #[.int .i64 3, .int .i64 0, .float .f64 9218868437227405312, .string ⟨#[]⟩], .agg #[.int .i64 3, .int .i64 0, .float .f64 18442240474082181120, .string ⟨#[]⟩]] w fun e w' => e = .returned (.agg #[.int .i64 3, .int .i64 0, .float .f64 9221120237041090560, .string ⟨#[]⟩]) ∧ Touch (fun _ => False) w w' := by
  have h := v_add (fl 9218868437227405312) (fl 18442240474082181120) w
  have e : refAdd (fl 9218868437227405312) (fl 18442240474082181120) = fl 9221120237041090560 := by
    have : sumBits 9218868437227405312 18442240474082181120 = 9221120237041090560 := by decide +kernel
    show (⟨3, 0, sumBits 9218868437227405312 18442240474082181120, ⟨#[]⟩⟩ : V) = _
    rw [this]
  rw [e] at h
  exact h
theorem k_add2 (w : World) : Calls Tryd.prog 35 #[.agg #[.int .i64 2, .int .i64 2, .float .f64 0, .string ⟨#[]⟩], .agg #[.int .i64 3, .int .i64 0, .float .f64 4602678819172646912, .string ⟨#[]⟩]] w fun e w' => e = .returned (.agg #[.int .i64 3, .int .i64 0, .float .f64 4612811918334230528, .string ⟨#[]⟩]) ∧ Touch (fun _ => False) w w' := by
  have h := v_add ⟨2, 2, 0, ⟨#[]⟩⟩ (fl 4602678819172646912) w
  have e : refAdd ⟨2, 2, 0, ⟨#[]⟩⟩ (fl 4602678819172646912) = fl 4612811918334230528 := by
    have : sumBits (floatOfInt .f64 2) 4602678819172646912 = 4612811918334230528 := by decide +kernel
    show (⟨3, 0, sumBits (floatOfInt .f64 2) 4602678819172646912, ⟨#[]⟩⟩ : V) = _
    rw [this]
  rw [e] at h
  exact h
theorem k_cmp (w : World) : Calls Tryd.prog 16 #[.agg #[.int .i64 3, .int .i64 0, .float .f64 9223372036854775808, .string ⟨#[]⟩], .agg #[.int .i64 3, .int .i64 0, .float .f64 0, .string ⟨#[]⟩]] w fun e w' => e = .returned (.int .i64 (-1)) ∧ Touch (fun _ => False) w w' := by
  have h := v_cmp (fl 9223372036854775808) (fl 0) (by show 9223372036854775808 < 18446744073709551616; decide) (by show 0 < 18446744073709551616; decide) w
  have e : refCmp (fl 9223372036854775808) (fl 0) = -1 := by decide +kernel
  rw [e] at h
  exact h
theorem k_same (w : World) : Calls Tryd.prog 18 #[.agg #[.int .i64 3, .int .i64 0, .float .f64 9221120237041090561, .string ⟨#[]⟩], .agg #[.int .i64 3, .int .i64 0, .float .f64 18444492273895866369, .string ⟨#[]⟩]] w fun e w' => e = .returned (.bool true) ∧ Touch (fun _ => False) w w' := by
  have h := v_same (fl 9221120237041090561) (fl 18444492273895866369) (by show 9221120237041090561 < 18446744073709551616; decide) (by show 18444492273895866369 < 18446744073709551616; decide) w
  have e : refCmp (fl 9221120237041090561) (fl 18444492273895866369) = 0 := by decide +kernel
  rw [e] at h
  exact h
theorem k_text1 (w : World) : Calls Tryd.prog 32 #[.agg #[.int .i64 3, .int .i64 0, .float .f64 4607182418800017408, .string ⟨#[]⟩]] w fun e w' => e = .returned (.string ⟨#[102, 51, 102, 102, 48, 48, 48, 48, 48, 48, 48, 48, 48, 48, 48, 48, 48]⟩) ∧ Touch (fun _ => False) w w' := by
  have h := v_text_float (fl 4607182418800017408) rfl (by show 4607182418800017408 < 18446744073709551616; decide) w
  have e : hexText 4607182418800017408 = ⟨#[102, 51, 102, 102, 48, 48, 48, 48, 48, 48, 48, 48, 48, 48, 48, 48, 48]⟩ := by decide +kernel
  rw [show hexText (fl 4607182418800017408).f = _ from e] at h
  exact h
theorem k_text2 (w : World) : Calls Tryd.prog 32 #[.agg #[.int .i64 4, .int .i64 0, .float .f64 0, .string ⟨#[97, 34, 98]⟩]] w fun e w' => e = .returned (.string ⟨#[34, 97, 92, 34, 98, 34]⟩) ∧ Touch (fun _ => False) w w' := by
  have h := v_text_text ⟨4, 0, 0, ⟨#[97, 34, 98]⟩⟩ rfl (by show 3 ≤ 1000000000000; decide) w
  have e : refQuote ⟨#[97, 34, 98]⟩ = ⟨#[34, 97, 92, 34, 98, 34]⟩ := by decide +kernel
  rw [show refQuote (V.s ⟨4, 0, 0, ⟨#[97, 34, 98]⟩⟩) = _ from e] at h
  exact h
theorem k_check1 (w : World) : Calls Tryd.prog 12 #[.agg #[.int .i64 9, .int .i64 0, .float .f64 0, .string ⟨#[]⟩]] w fun e w' => e = .returned (.int .i64 20) ∧ Touch (fun _ => False) w w' :=
  v_check_other 9 0 0 ⟨#[]⟩ (by decide) (by decide) (by decide) (by decide) (by decide) (by decide) w
theorem k_check2 (w : World) : Calls Tryd.prog 12 #[.agg #[.int .i64 0, .int .i64 0, .float .f64 9223372036854775808, .string ⟨#[]⟩]] w fun e w' => e = .returned (.int .i64 20) ∧ Touch (fun _ => False) w w' :=
  v_check_null 0 9223372036854775808 ⟨#[]⟩ w

set_option maxHeartbeats 400000 in
theorem k_inf (w : World) : Calls Tryd.prog 34 #[.int .i64 1] w fun e w' => e = .returned (.float .f64 9218868437227405312) ∧ w' = w := by
  have hf1 : ∀ w, (callFunc 19 #[.int .u64 9218868437227405312]).run Tryd.prog w = .ok (.value (.float .f64 9218868437227405312)) w := fun w => f64frombits_run 9218868437227405312 w
  go_enter Tryd.func34, Tryd.ntmps34
  go_wp2
  go_ret
  exact ⟨rfl, rfl⟩
set_option maxHeartbeats 400000 in
theorem k_nan (w : World) : Calls Tryd.prog 36 #[] w fun e w' => e = .returned (.float .f64 9221120237041090561) ∧ w' = w := by
  have hf1 : ∀ w, (callFunc 19 #[.int .u64 9221120237041090561]).run Tryd.prog w = .ok (.value (.float .f64 9221120237041090561)) w := fun w => f64frombits_run 9221120237041090561 w
  go_enter Tryd.func36, Tryd.ntmps36
  go_wp2
  go_ret
  exact ⟨rfl, rfl⟩

set_option maxHeartbeats 1000000 in
theorem known2 (w : World) : Calls Tryd.prog 9 #[] w fun e w' => e = .returned (.bool true) ∧ Touch (fun _ => False) w w' := by
  have hf0 : ∀ w, (callFunc 19 #[.int .u64 9223372036854775808]).run Tryd.prog w = .ok (.value (.float .f64 9223372036854775808)) w := fun w => f64frombits_run 9223372036854775808 w
  have hb := f64bits_run
  have hfd := field2_run
  have hs := run_store_f64 Tryd.prog
  have hn1 : ∀ w, (Op.unary .neg (.float .f64 9218868437227405312)).run Tryd.prog w = .ok (.float .f64 18442240474082181120) w := fun w => by kernel_rfl
  have hn2 : ∀ w, (Op.unary .neg (.float .f64 9221120237041090561)).run Tryd.prog w = .ok (.float .f64 18444492273895866369) w := fun w => by kernel_rfl
  have ho1 : (FloatKind.f64.format.order 9221120237041090560 9221120237041090560 != some Ordering.eq) = true := by decide +kernel
  have ho2 : (FloatKind.f64.format.order 4612811918334230528 4612811918334230528 == some Ordering.eq) = true := by decide +kernel
  go_enter Tryd.func9, Tryd.ntmps9
  go_wp2_with fail
  refine (k_inf _).mono ?_
  rintro e w1 ⟨rfl, hw⟩
  rw [hw]
  clear hw
  go_wp2_with fail
  refine (l_float _ _).mono ?_
  rintro e w1 ⟨rfl, rfl⟩
  go_wp2_with fail
  refine (l_float _ _).mono ?_
  rintro e w1 ⟨rfl, rfl⟩
  go_wp2_with fail
  refine (k_add1 _).mono ?_
  rintro e w2 ⟨rfl, hT⟩
  have HT2 : Hid (Touch (fun _ => False) w w2) := by
    refine Touch.trans ?_ hT
    repeat (with_reducible first | exact Touch.refl _ _ | refine Touch.alloc ?_ _ | refine Touch.drewN ?_ _)
  clear hT
  go_wp2_with fail
  refine (l_float _ _).mono ?_
  rintro e w1 ⟨rfl, rfl⟩
  go_wp2_with fail
  refine (l_float _ _).mono ?_
  rintro e w1 ⟨rfl, rfl⟩
  go_wp2_with fail
  refine (k_cmp _).mono ?_
  rintro e w3 ⟨rfl, hT⟩
  have HT3 : Hid (Touch (fun _ => False) w w3) := by
    refine Touch.trans ?_ hT
    repeat (with_reducible first | exact Touch.refl _ _ | exact HT2.out | refine Touch.alloc ?_ _ | refine Touch.drewN ?_ _)
  have HN3 : Hid (Touch (fun _ => False) (w2.alloc (.cells #[.int .i64 3, .int .i64 0, .float .f64 9221120237041090560, .string ⟨#[]⟩] 24)) w3) := by
    refine Touch.trans ?_ hT
    repeat (with_reducible first | exact Touch.refl _ _ | refine Touch.alloc ?_ _ | refine Touch.drewN ?_ _)
  clear hT HT2
  go_wp2_with fail
  refine (l_float _ _).mono ?_
  rintro e w1 ⟨rfl, rfl⟩
  go_wp2_with fail
  refine (k_text1 _).mono ?_
  rintro e w4 ⟨rfl, hT⟩
  have HT4 : Hid (Touch (fun _ => False) w w4) := by
    refine Touch.trans ?_ hT
    repeat (with_reducible first | exact Touch.refl _ _ | exact HT3.out | refine Touch.alloc ?_ _ | refine Touch.drewN ?_ _)
  have HN4 : Hid (Touch (fun _ => False) (w2.alloc (.cells #[.int .i64 3, .int .i64 0, .float .f64 9221120237041090560, .string ⟨#[]⟩] 24)) w4) := by
    refine Touch.trans ?_ hT
    repeat (with_reducible first | exact Touch.refl _ _ | exact HN3.out | refine Touch.alloc ?_ _ | refine Touch.drewN ?_ _)
  clear hT HT3 HN3
  have cn : w4.cell? ⟨w2.heap.size, 2, none⟩ = some (.float .f64 9221120237041090560) := (HN4.out.cell (by simp) id 2).trans (by rw [cell_of_block (heap_alloc_new _ _)]; rfl)
  go_wp2_with fail
  refine (k_text2 _).mono ?_
  rintro e w5 ⟨rfl, hT⟩
  have HT5 : Hid (Touch (fun _ => False) w w5) := by
    refine Touch.trans ?_ hT
    repeat (with_reducible first | exact Touch.refl _ _ | exact HT4.out | refine Touch.alloc ?_ _ | refine Touch.drewN ?_ _)
  clear hT HT4
  go_wp2_with fail
  refine (k_check1 _).mono ?_
  rintro e w6 ⟨rfl, hT⟩
  have HT6 : Hid (Touch (fun _ => False) w w6) := by
    refine Touch.trans ?_ hT
    repeat (with_reducible first | exact Touch.refl _ _ | exact HT5.out | refine Touch.alloc ?_ _ | refine Touch.drewN ?_ _)
  clear hT HT5
  go_wp2_with fail
  refine (k_check2 _).mono ?_
  rintro e w7 ⟨rfl, hT⟩
  have HT7 : Hid (Touch (fun _ => False) w w7) := by
    refine Touch.trans ?_ hT
    repeat (with_reducible first | exact Touch.refl _ _ | exact HT6.out | refine Touch.alloc ?_ _ | refine Touch.drewN ?_ _)
  clear hT HT6
  go_wp2_with fail
  refine (k_nan _).mono ?_
  rintro e w1 ⟨rfl, hw⟩
  rw [hw]
  clear hw
  go_wp2_with fail
  refine (l_float _ _).mono ?_
  rintro e w1 ⟨rfl, rfl⟩
  go_wp2_with fail
  refine (k_nan _).mono ?_
  rintro e w1 ⟨rfl, hw⟩
  rw [hw]
  clear hw
  go_wp2_with fail
  refine (l_float _ _).mono ?_
  rintro e w1 ⟨rfl, rfl⟩
  go_wp2_with fail
  refine (k_same _).mono ?_
  rintro e w8 ⟨rfl, hT⟩
  have HT8 : Hid (Touch (fun _ => False) w w8) := by
    refine Touch.trans ?_ hT
    repeat (with_reducible first | exact Touch.refl _ _ | exact HT7.out | refine Touch.alloc ?_ _ | refine Touch.drewN ?_ _)
  clear hT HT7
  go_wp2_with fail
  refine (l_float _ _).mono ?_
  rintro e w1 ⟨rfl, rfl⟩
  go_wp2_with fail
  refine (k_add2 _).mono ?_
  rintro e w9 ⟨rfl, hT⟩
  have HT9 : Hid (Touch (fun _ => False) w w9) := by
    refine Touch.trans ?_ hT
    repeat (with_reducible first | exact Touch.refl _ _ | exact HT8.out | refine Touch.alloc ?_ _ | refine Touch.drewN ?_ _)
  clear hT HT8
  go_wp2_with fail
  go_ret
  exact ⟨rfl, HT9.out⟩
end Go.Proofs.YtaihofkmcpcjeaaDoor
