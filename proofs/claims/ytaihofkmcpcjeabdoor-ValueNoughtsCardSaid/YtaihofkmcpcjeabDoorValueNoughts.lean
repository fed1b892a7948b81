/- The contract of quirelaw2.ValueNoughts. -/
import Derived.Test.YtaihofkmcpcjeabDoorKnown2
import Derived.Test.YtaihofkmcpcjeabDoorFLaws
import Derived.Test.YtaihofkmcpcjeabDoorFlCmp
import Derived.Test.YtaihofkmcpcjeabDoorBoxes
namespace Go.Proofs.YtaihofkmcpcjeabDoor
open Go.RowKit
set_option linter.unusedVariables false
set_option maxRecDepth 100000

set_option maxHeartbeats 400000 in
theorem m_abs (f : Nat) (h : f < 18446744073709551616) (w : World) : Calls Tryd.prog 46 #[.float .f64 f] w fun e w' => e = .returned (.float .f64 (rung f)) ∧ w' = w := by
  have hb := f64bits_run
  have e : bits .andNot .u64 (f : Int) 9223372036854775808 = ((rung f : Nat) : Int) := by
    rw [show (9223372036854775808 : Int) = ((9223372036854775808 : Nat) : Int) from rfl, u64_andNot_nat _ _ h (by decide)]
    show ((f &&& 9223372036854775807 : Nat) : Int) = _
    rw [show (9223372036854775807 : Nat) = 2 ^ 63 - 1 from by decide, Nat.and_two_pow_sub_one_eq_mod, two63']; rfl
  have hf : ∀ w, (callFunc 12 #[.int .u64 ((rung f : Nat) : Int)]).run Tryd.prog w = .ok (.value (.float .f64 (rung f))) w := fun w => f64frombits_run _ w
  generalize rung f = R at *
  go_enter Tryd.func46, Tryd.ntmps46
  go_wp2
  go_ret
  exact ⟨rfl, rfl⟩
theorem inf_test (f : Nat) (h : isNaN f = false) : (FloatKind.f64.format.order (rung f) 9218868437227405311 == some Ordering.gt) = decide (rung f = fI) := by
  have hr : ¬ fI < rung f := of_decide_eq_false h
  have hI : fI = 9218868437227405312 := rfl
  have hlt : rung f < 9223372036854775808 := Nat.mod_lt _ (by decide)
  have e0 : rung (rung f) = rung f := Nat.mod_eq_of_lt hlt
  have e1 : fneg (rung f) = false := by
    unfold fneg fS
    rw [Nat.div_eq_of_lt hlt]; rfl
  have := order_double (rung f) 9218868437227405311
  rw [show isNaN (rung f) = false from by unfold isNaN; rw [e0]; exact h, show isNaN 9218868437227405311 = false from by decide, show fkey 9218868437227405311 = 9218868437227405311 from by decide] at this
  have e2 : fkey (rung f) = (rung f : Int) := by unfold fkey; rw [e1, e0]; rfl
  rw [e2] at this
  rw [show FloatKind.f64.format.order (rung f) 9218868437227405311 = some (compare (rung f : Int) 9218868437227405311) from this]
  by_cases hc : rung f = fI
  · rw [decide_eq_true hc, Int.compare_eq_gt.2 (by omega)]; rfl
  · rw [decide_eq_false hc]
    rcases Int.lt_trichotomy (rung f : Int) 9218868437227405311 with x | x | x
    · rw [Int.compare_eq_lt.2 x]; rfl
    · rw [Int.compare_eq_eq.2 x]; rfl
    · omega
set_option maxHeartbeats 400000 in
theorem m_isInf (f : Nat) (h : f < 18446744073709551616) (hn : isNaN f = false) (w : World) : Calls Tryd.prog 21 #[.float .f64 f, .int .i64 0] w fun e w' => e = .returned (.bool (decide (rung f = fI))) ∧ w' = w := by
  have HA : Hid (∀ w, Calls Tryd.prog 46 #[.float .f64 f] w fun e w' => e = .returned (.float .f64 (rung f)) ∧ w' = w) := m_abs f h
  have ht := inf_test f hn
  generalize decide (rung f = fI) = D at *
  generalize rung f = R at *
  go_enter Tryd.func21, Tryd.ntmps21
  go_wp2_with fail
  refine (HA.out _).mono ?_
  rintro e w1 ⟨rfl, rfl⟩
  go_wp2_with fail
  go_ret
  exact ⟨rfl, rfl⟩

theorem n_back (f : Nat) (hf : f < 18446744073709551616) : rung f < fI → ∀ w, Calls Tryd.prog 8 #[.agg #[.int .i64 3, .int .i64 0, .float .f64 f, .string ⟨#[]⟩], .agg #[.int .i64 3, .int .i64 0, .float .f64 (f ^^^ 2 ^ 63), .string ⟨#[]⟩]] w fun e w' => e = .returned (.agg #[.int .i64 3, .int .i64 0, .float .f64 0, .string ⟨#[]⟩]) ∧ Touch (fun _ => False) w w' := by
  intro hr w
  have h := v_add (fl f) (fl (f ^^^ 2 ^ 63)) w
  have e : refAdd (fl f) (fl (f ^^^ 2 ^ 63)) = fl 0 := by
    have : sumBits f (f ^^^ 2 ^ 63) = 0 := by unfold sumBits; rw [add_neg f hf hr]; decide
    show (⟨3, 0, sumBits f (f ^^^ 2 ^ 63), ⟨#[]⟩⟩ : V) = _
    rw [this]
  rw [e] at h
  exact h

theorem n_int (n : Int) (G : Nat) (hGe : floatOfInt .f64 n = G) (g1 : G < 18446744073709551616) (g2 : rung G < fI) : ∀ w, Calls Tryd.prog 8 #[.agg #[.int .i64 2, .int .i64 n, .float .f64 0, .string ⟨#[]⟩], .agg #[.int .i64 3, .int .i64 0, .float .f64 9223372036854775808, .string ⟨#[]⟩]] w fun e w' => e = .returned (.agg #[.int .i64 3, .int .i64 0, .float .f64 G, .string ⟨#[]⟩]) ∧ Touch (fun _ => False) w w' := by
  intro w
  have h := v_add ⟨2, n, 0, ⟨#[]⟩⟩ (fl 9223372036854775808) w
  have e : refAdd ⟨2, n, 0, ⟨#[]⟩⟩ (fl 9223372036854775808) = fl G := by
    have : sumBits G 9223372036854775808 = G := by
      unfold sumBits; rw [add_nought _ g1 g2]
      show refBits _ = _
      unfold refBits; rw [num_of_rung g2]; rfl
    have i1 : isNum ⟨2, n, 0, ⟨#[]⟩⟩ = true := rfl
    have i2 : isNum (fl 9223372036854775808) = true := rfl
    have v1 : vFloat ⟨2, n, 0, ⟨#[]⟩⟩ = G := (if_pos rfl).trans hGe
    have v2 : vFloat (fl 9223372036854775808) = 9223372036854775808 := rfl
    unfold refAdd
    rw [i1, i2, v1, v2, this, if_pos (by rfl), if_neg (show ¬ (((2 : Int) == 2 && (3 : Int) == 2) = true) by decide)]
    rfl
  rw [e] at h
  exact h

theorem n_eq (n : Int) (h0 : -9223372036854775808 ≤ n) (h1 : n < 9223372036854775808) : (FloatKind.f64.format.order (floatOfInt .f64 n) (floatOfInt .f64 n) == some Ordering.eq) = true := by
  have hG := ofInt_fin n h0 h1
  have := order_double (floatOfInt .f64 n) (floatOfInt .f64 n)
  rw [num_of_rung hG.2] at this
  rw [show FloatKind.f64.format.order (floatOfInt .f64 n) (floatOfInt .f64 n) = some (compare (fkey (floatOfInt .f64 n)) (fkey (floatOfInt .f64 n))) from this, Int.compare_eq_eq.2 rfl]; rfl

theorem n_cmp1 (f : Nat) (hf : f < 18446744073709551616) : ∀ w, Calls Tryd.prog 19 #[.agg #[.int .i64 3, .int .i64 0, .float .f64 9223372036854775808, .string ⟨#[]⟩], .agg #[.int .i64 3, .int .i64 0, .float .f64 f, .string ⟨#[]⟩]] w fun e w' => e = .returned (.int .i64 (refInts (-1) (refOrder f))) ∧ Touch (fun _ => False) w w' := by
  intro w
  have h := v_cmp (fl 9223372036854775808) (fl f) (by show 9223372036854775808 < 18446744073709551616; decide) hf w
  rw [refCmp_fl, show refOrder 9223372036854775808 = -1 from by decide] at h
  exact h

theorem n_cmp2 (f : Nat) (hf : f < 18446744073709551616) : ∀ w, Calls Tryd.prog 19 #[.agg #[.int .i64 3, .int .i64 0, .float .f64 f, .string ⟨#[]⟩], .agg #[.int .i64 3, .int .i64 0, .float .f64 0, .string ⟨#[]⟩]] w fun e w' => e = .returned (.int .i64 (refInts (refOrder f) 0)) ∧ Touch (fun _ => False) w w' := by
  intro w
  have h := v_cmp (fl f) (fl 0) hf (by show 0 < 18446744073709551616; decide) w
  rw [refCmp_fl, show refOrder 0 = 0 from by decide] at h
  exact h

theorem n_not (f : Nat) : refInts (-1) (refOrder f) < 0 → ¬ refInts (refOrder f) 0 < 0 := by
  unfold refInts; intro h
  split at h
  · rename_i h2; rw [if_neg (by omega)]; split <;> omega
  · split at h <;> omega

theorem n_same  : ∀ w, Calls Tryd.prog 16 #[.agg #[.int .i64 3, .int .i64 0, .float .f64 9223372036854775808, .string ⟨#[]⟩], .agg #[.int .i64 3, .int .i64 0, .float .f64 0, .string ⟨#[]⟩]] w fun e w' => e = .returned (.bool false) ∧ Touch (fun _ => False) w w' := by
  intro w
  have h := v_same (fl 9223372036854775808) (fl 0) (by show 9223372036854775808 < 18446744073709551616; decide) (by show 0 < 18446744073709551616; decide) w
  rw [show refCmp (fl 9223372036854775808) (fl 0) = -1 from by decide +kernel] at h
  exact h

theorem n_texts : ((hexText 9223372036854775808).toList != (hexText 0).toList) = true := by decide +kernel
theorem n_neg (f : Nat) : ∀ w, (Op.unary .neg (.float .f64 f)).run Tryd.prog w = .ok (.float .f64 (f ^^^ 2 ^ 63)) w := fun w => by kernel_rfl

set_option maxHeartbeats 4000000 in
theorem valueNoughts_any (f : Nat) (hf : f < 18446744073709551616) (n : Int) (h0 : -9223372036854775808 ≤ n) (h1 : n < 9223372036854775808) (w : World) : Calls Tryd.prog 5 #[.int .u64 f, .int .i64 n] w fun e w' => e = .returned (.bool true) ∧ Touch (fun _ => False) w w' := by
  have hnot : ∀ (x : Bool) (w : World), (Op.unary .not (.bool x)).run Tryd.prog w = .ok (.bool (!x)) w := fun _ _ => rfl
  have hfb := f64frombits_run
  have hfb0 : ∀ w, (callFunc 12 #[.int .u64 9223372036854775808]).run Tryd.prog w = .ok (.value (.float .f64 9223372036854775808)) w := fun w => f64frombits_run 9223372036854775808 w
  have hb := f64bits_run
  have hs := run_store_f64 Tryd.prog
  have hng := n_neg f
  have nA := self_neq f
  have HI : Hid (isNaN f = false → ∀ w, Calls Tryd.prog 21 #[.float .f64 f, .int .i64 0] w fun e w' => e = .returned (.bool (decide (rung f = fI))) ∧ w' = w) := fun h => m_isInf f hf h
  have HB : Hid (rung f < fI → ∀ w, Calls Tryd.prog 8 #[.agg #[.int .i64 3, .int .i64 0, .float .f64 f, .string ⟨#[]⟩], .agg #[.int .i64 3, .int .i64 0, .float .f64 (f ^^^ 2 ^ 63), .string ⟨#[]⟩]] w fun e w' => e = .returned (.agg #[.int .i64 3, .int .i64 0, .float .f64 0, .string ⟨#[]⟩]) ∧ Touch (fun _ => False) w w') := n_back f hf
  have hG := ofInt_fin n h0 h1
  have hE := n_eq n h0 h1
  obtain ⟨G, hGe⟩ : ∃ G, floatOfInt .f64 n = G := ⟨_, rfl⟩
  rw [hGe] at hG hE
  have HZ : Hid (∀ w, Calls Tryd.prog 8 #[.agg #[.int .i64 2, .int .i64 n, .float .f64 0, .string ⟨#[]⟩], .agg #[.int .i64 3, .int .i64 0, .float .f64 9223372036854775808, .string ⟨#[]⟩]] w fun e w' => e = .returned (.agg #[.int .i64 3, .int .i64 0, .float .f64 G, .string ⟨#[]⟩]) ∧ Touch (fun _ => False) w w') := n_int n G hGe hG.1 hG.2
  have HC1 : Hid (∀ w, Calls Tryd.prog 19 #[.agg #[.int .i64 3, .int .i64 0, .float .f64 9223372036854775808, .string ⟨#[]⟩], .agg #[.int .i64 3, .int .i64 0, .float .f64 f, .string ⟨#[]⟩]] w fun e w' => e = .returned (.int .i64 (refInts (-1) (refOrder f))) ∧ Touch (fun _ => False) w w') := n_cmp1 f hf
  have HC2 : Hid (∀ w, Calls Tryd.prog 19 #[.agg #[.int .i64 3, .int .i64 0, .float .f64 f, .string ⟨#[]⟩], .agg #[.int .i64 3, .int .i64 0, .float .f64 0, .string ⟨#[]⟩]] w fun e w' => e = .returned (.int .i64 (refInts (refOrder f) 0)) ∧ Touch (fun _ => False) w w') := n_cmp2 f hf
  have HD : Hid (refInts (-1) (refOrder f) < 0 → ¬ refInts (refOrder f) 0 < 0) := n_not f
  generalize refInts (-1) (refOrder f) = C1 at *
  generalize refInts (refOrder f) 0 = C2 at *
  have HS : Hid (∀ w, Calls Tryd.prog 16 #[.agg #[.int .i64 3, .int .i64 0, .float .f64 9223372036854775808, .string ⟨#[]⟩], .agg #[.int .i64 3, .int .i64 0, .float .f64 0, .string ⟨#[]⟩]] w fun e w' => e = .returned (.bool false) ∧ Touch (fun _ => False) w w') := n_same 
  have HT1 : Hid (∀ w, Calls Tryd.prog 18 #[.agg #[.int .i64 3, .int .i64 0, .float .f64 9223372036854775808, .string ⟨#[]⟩]] w fun e w' => e = .returned (.string (hexText 9223372036854775808)) ∧ Touch (fun _ => False) w w') := v_text_float (fl 9223372036854775808) rfl (by show 9223372036854775808 < 18446744073709551616; decide)
  have HT2 : Hid (∀ w, Calls Tryd.prog 18 #[.agg #[.int .i64 3, .int .i64 0, .float .f64 0, .string ⟨#[]⟩]] w fun e w' => e = .returned (.string (hexText 0)) ∧ Touch (fun _ => False) w w') := v_text_float (fl 0) rfl (by show 0 < 18446744073709551616; decide)
  have htx := n_texts
  have hty : ((hexText 9223372036854775808).toList == (hexText 0).toList) = false := by simpa using htx
  generalize hexText 9223372036854775808 = X1 at *
  generalize hexText 0 = X2 at *
  generalize f ^^^ 2 ^ 63 = NF at *
  clear hG h0 h1
  have HX1 : Hid (∀ w, Calls Tryd.prog 18 #[.agg #[.int .i64 3, .int .i64 0, .float .f64 9223372036854775808, .string ⟨#[]⟩]] w fun e w' => e = .returned (.string X1) ∧ Touch (fun _ => False) w w') := HT1.out
  have HX2 : Hid (∀ w, Calls Tryd.prog 18 #[.agg #[.int .i64 3, .int .i64 0, .float .f64 0, .string ⟨#[]⟩]] w fun e w' => e = .returned (.string X2) ∧ Touch (fun _ => False) w w') := HT2.out
  clear HT1 HT2
  go_enter Tryd.func5, Tryd.ntmps5
  go_wp2_with fail
  refine (known2 _).mono ?_
  rintro e w1 ⟨rfl, hT⟩
  have HT : Hid (Touch (fun _ => False) w w1) := hT
  clear hT
  cases hN : isNaN f
  case true =>
    rw [hN] at nA
    clear HI HB HZ HC1 HC2 HD HS HX1 HX2
    go_wp2_with fail
    go_ret
    exact ⟨rfl, HT.out⟩
  rw [hN] at nA
  go_wp2_with fail
  refine (HI.out hN _).mono ?_
  rintro e w2 ⟨rfl, hw⟩
  rw [hw]
  clear hw
  by_cases hr : rung f = fI
  · rw [decide_eq_true hr]
    clear HI HB HZ HC1 HC2 HD HS HX1 HX2 hr
    go_wp2_with fail
    go_ret
    exact ⟨rfl, HT.out⟩
  rw [decide_eq_false hr]
  have hr2 : rung f < fI := by
    have : ¬ fI < rung f := of_decide_eq_false hN
    omega
  have HB2 := HB.out hr2
  have HBk : Hid (∀ w, Calls Tryd.prog 8 #[.agg #[.int .i64 3, .int .i64 0, .float .f64 f, .string ⟨#[]⟩], .agg #[.int .i64 3, .int .i64 0, .float .f64 NF, .string ⟨#[]⟩]] w fun e w' => e = .returned (.agg #[.int .i64 3, .int .i64 0, .float .f64 0, .string ⟨#[]⟩]) ∧ Touch (fun _ => False) w w') := HB2
  clear HI HB HB2 hr hr2 hN
  go_wp2_with fail
  refine (l_float _ _).mono ?_
  rintro e w9 ⟨rfl, rfl⟩
  go_wp2_with fail
  refine (l_float _ _).mono ?_
  rintro e w9 ⟨rfl, rfl⟩
  go_wp2_with fail
  refine (HBk.out _).mono ?_
  rintro e w3 ⟨rfl, hT⟩
  have HT3 : Hid (Touch (fun _ => False) w w3) := Touch.trans ((HT.out.alloc _).alloc _) hT
  clear hT HT HBk
  have hbx := boxes1_keep (w0 := w) (A := w3.heap.size) (w := w3.alloc (.cells #[.int .i64 3, .int .i64 0, .float .f64 0, .string ⟨#[]⟩] 24)) (w' := w3.alloc (.cells #[.int .i64 3, .int .i64 0, .float .f64 0, .string ⟨#[]⟩] 24)) ⟨new1 _ _ _ 0, new1 _ _ _ 1, new1 _ _ _ 2, new1 _ _ _ 3, HT3.out.alloc _⟩ (Touch.refl _ _)
  obtain ⟨c1, c2, c3, c4, HT1⟩ := hbx
  clear HT3
  go_wp2_with fail
  refine (l_float _ _).mono ?_
  rintro e w9 ⟨rfl, rfl⟩
  go_wp2_with fail
  refine (l_float _ _).mono ?_
  rintro e w9 ⟨rfl, rfl⟩
  go_wp2_with fail
  refine (HC1.out _).mono ?_
  rintro e w4 ⟨rfl, hT⟩
  have hbox := boxes1_keep ⟨c1, c2, c3, c4, HT1⟩ (Touch.trans (by repeat (with_reducible first | exact Touch.refl _ _ | refine Touch.alloc ?_ _ | refine Touch.drewN ?_ _)) hT)
  clear hT c1 c2 c3 c4 HT1
  obtain ⟨c1, c2, c3, c4, HT1⟩ := hbox
  by_cases hc : C1 < 0
  · have hd0 : ¬ C2 < 0 := by have := HD.out hc; omega
    have hd := decide_eq_false hd0
    have hc2 := decide_eq_true hc
    clear HD
    go_wp2_with fail
    refine (l_float _ _).mono ?_
    rintro e w9 ⟨rfl, rfl⟩
    go_wp2_with fail
    refine (l_float _ _).mono ?_
    rintro e w9 ⟨rfl, rfl⟩
    go_wp2_with fail
    refine (HC2.out _).mono ?_
    rintro e w5 ⟨rfl, hT⟩
    have hbox := boxes1_keep ⟨c1, c2, c3, c4, HT1⟩ (Touch.trans (by repeat (with_reducible first | exact Touch.refl _ _ | refine Touch.alloc ?_ _ | refine Touch.drewN ?_ _)) hT)
    clear hT c1 c2 c3 c4 HT1
    obtain ⟨c1, c2, c3, c4, HT1⟩ := hbox
    go_wp2_with fail
    refine (l_float _ _).mono ?_
    rintro e w9 ⟨rfl, rfl⟩
    go_wp2_with fail
    refine (HZ.out _).mono ?_
    rintro e w6 ⟨rfl, hT⟩
    have hbox := boxes1_keep ⟨c1, c2, c3, c4, HT1⟩ (Touch.trans (by repeat (with_reducible first | exact Touch.refl _ _ | refine Touch.alloc ?_ _ | refine Touch.drewN ?_ _)) hT)
    clear hT c1 c2 c3 c4 HT1 HZ
    obtain ⟨c1, c2, c3, c4, HT1⟩ := hbox
    have hbx := boxes2_keep (w0 := w) (A := w3.heap.size) (B := w6.heap.size) (w := w6.alloc (.cells #[.int .i64 3, .int .i64 0, .float .f64 G, .string ⟨#[]⟩] 24)) (w' := w6.alloc (.cells #[.int .i64 3, .int .i64 0, .float .f64 G, .string ⟨#[]⟩] 24)) ⟨old1 _ c1, old1 _ c2, old1 _ c3, old1 _ c4, new1 _ _ _ 0, new1 _ _ _ 1, new1 _ _ _ 2, new1 _ _ _ 3, HT1.out.alloc _⟩ (Touch.refl _ _)
    clear c1 c2 c3 c4 HT1
    obtain ⟨c1, c2, c3, c4, c5, c6, c7, c8, HT1⟩ := hbx
    go_wp2_with fail
    refine (l_float _ _).mono ?_
    rintro e w9 ⟨rfl, rfl⟩
    go_wp2_with fail
    refine (l_float _ _).mono ?_
    rintro e w9 ⟨rfl, rfl⟩
    go_wp2_with fail
    refine (HS.out _).mono ?_
    rintro e w7 ⟨rfl, hT⟩
    have hbox := boxes2_keep ⟨c1, c2, c3, c4, c5, c6, c7, c8, HT1⟩ (Touch.trans (by repeat (with_reducible first | exact Touch.refl _ _ | refine Touch.alloc ?_ _ | refine Touch.drewN ?_ _)) hT)
    clear hT c1 c2 c3 c4 c5 c6 c7 c8 HT1
    obtain ⟨c1, c2, c3, c4, c5, c6, c7, c8, HT1⟩ := hbox
    go_wp2_with fail
    refine (l_float _ _).mono ?_
    rintro e w9 ⟨rfl, rfl⟩
    go_wp2_with fail
    refine (HX1.out _).mono ?_
    rintro e w8 ⟨rfl, hT⟩
    have hbox := boxes2_keep ⟨c1, c2, c3, c4, c5, c6, c7, c8, HT1⟩ (Touch.trans (by repeat (with_reducible first | exact Touch.refl _ _ | refine Touch.alloc ?_ _ | refine Touch.drewN ?_ _)) hT)
    clear hT c1 c2 c3 c4 c5 c6 c7 c8 HT1
    obtain ⟨c1, c2, c3, c4, c5, c6, c7, c8, HT1⟩ := hbox
    go_wp2_with fail
    refine (l_float _ _).mono ?_
    rintro e w9 ⟨rfl, rfl⟩
    go_wp2_with fail
    refine (HX2.out _).mono ?_
    rintro e w10 ⟨rfl, hT⟩
    have hbox := boxes2_keep ⟨c1, c2, c3, c4, c5, c6, c7, c8, HT1⟩ (Touch.trans (by repeat (with_reducible first | exact Touch.refl _ _ | refine Touch.alloc ?_ _ | refine Touch.drewN ?_ _)) hT)
    clear hT c1 c2 c3 c4 c5 c6 c7 c8 HT1
    obtain ⟨c1, c2, c3, c4, c5, c6, c7, c8, HT1⟩ := hbox
    go_wp2_with fail
    go_ret
    exact ⟨rfl, HT1.out⟩
  · have hc2 := decide_eq_false hc
    clear HD HC2
    go_wp2_with fail
    refine (l_float _ _).mono ?_
    rintro e w9 ⟨rfl, rfl⟩
    go_wp2_with fail
    refine (HZ.out _).mono ?_
    rintro e w6 ⟨rfl, hT⟩
    have hbox := boxes1_keep ⟨c1, c2, c3, c4, HT1⟩ (Touch.trans (by repeat (with_reducible first | exact Touch.refl _ _ | refine Touch.alloc ?_ _ | refine Touch.drewN ?_ _)) hT)
    clear hT c1 c2 c3 c4 HT1 HZ
    obtain ⟨c1, c2, c3, c4, HT1⟩ := hbox
    have hbx := boxes2_keep (w0 := w) (A := w3.heap.size) (B := w6.heap.size) (w := w6.alloc (.cells #[.int .i64 3, .int .i64 0, .float .f64 G, .string ⟨#[]⟩] 24)) (w' := w6.alloc (.cells #[.int .i64 3, .int .i64 0, .float .f64 G, .string ⟨#[]⟩] 24)) ⟨old1 _ c1, old1 _ c2, old1 _ c3, old1 _ c4, new1 _ _ _ 0, new1 _ _ _ 1, new1 _ _ _ 2, new1 _ _ _ 3, HT1.out.alloc _⟩ (Touch.refl _ _)
    clear c1 c2 c3 c4 HT1
    obtain ⟨c1, c2, c3, c4, c5, c6, c7, c8, HT1⟩ := hbx
    go_wp2_with fail
    refine (l_float _ _).mono ?_
    rintro e w9 ⟨rfl, rfl⟩
    go_wp2_with fail
    refine (l_float _ _).mono ?_
    rintro e w9 ⟨rfl, rfl⟩
    go_wp2_with fail
    refine (HS.out _).mono ?_
    rintro e w7 ⟨rfl, hT⟩
    have hbox := boxes2_keep ⟨c1, c2, c3, c4, c5, c6, c7, c8, HT1⟩ (Touch.trans (by repeat (with_reducible first | exact Touch.refl _ _ | refine Touch.alloc ?_ _ | refine Touch.drewN ?_ _)) hT)
    clear hT c1 c2 c3 c4 c5 c6 c7 c8 HT1
    obtain ⟨c1, c2, c3, c4, c5, c6, c7, c8, HT1⟩ := hbox
    go_wp2_with fail
    refine (l_float _ _).mono ?_
    rintro e w9 ⟨rfl, rfl⟩
    go_wp2_with fail
    refine (HX1.out _).mono ?_
    rintro e w8 ⟨rfl, hT⟩
    have hbox := boxes2_keep ⟨c1, c2, c3, c4, c5, c6, c7, c8, HT1⟩ (Touch.trans (by repeat (with_reducible first | exact Touch.refl _ _ | refine Touch.alloc ?_ _ | refine Touch.drewN ?_ _)) hT)
    clear hT c1 c2 c3 c4 c5 c6 c7 c8 HT1
    obtain ⟨c1, c2, c3, c4, c5, c6, c7, c8, HT1⟩ := hbox
    go_wp2_with fail
    refine (l_float _ _).mono ?_
    rintro e w9 ⟨rfl, rfl⟩
    go_wp2_with fail
    refine (HX2.out _).mono ?_
    rintro e w10 ⟨rfl, hT⟩
    have hbox := boxes2_keep ⟨c1, c2, c3, c4, c5, c6, c7, c8, HT1⟩ (Touch.trans (by repeat (with_reducible first | exact Touch.refl _ _ | refine Touch.alloc ?_ _ | refine Touch.drewN ?_ _)) hT)
    clear hT c1 c2 c3 c4 c5 c6 c7 c8 HT1
    obtain ⟨c1, c2, c3, c4, c5, c6, c7, c8, HT1⟩ := hbox
    go_wp2_with fail
    go_ret
    exact ⟨rfl, HT1.out⟩
end Go.Proofs.YtaihofkmcpcjeabDoor
