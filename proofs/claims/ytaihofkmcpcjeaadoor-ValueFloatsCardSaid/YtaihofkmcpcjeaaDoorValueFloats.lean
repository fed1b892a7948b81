/- The contract of quirelaw2.ValueFloats. -/
import Derived.Test.YtaihofkmcpcjeaaDoorKnown2
namespace Go.Proofs.YtaihofkmcpcjeaaDoor
open Go.RowKit
set_option linter.unusedVariables false
set_option maxRecDepth 100000

theorem refText_same (s : ByteArray) : refText s s = 0 := by
  have h : Op.bytesLess s.toList s.toList = false := by
    generalize s.toList = l
    induction l with
    | nil => rfl
    | cons x r ih => simp [Op.bytesLess, ih]
  unfold refText
  rw [h]
  simp
theorem refInts_same (a : Int) : refInts a a = 0 := by
  unfold refInts; rw [if_neg (by omega), if_neg (by omega)]
theorem refCmp_fl (a b : Nat) : refCmp (fl a) (fl b) = refInts (refOrder a) (refOrder b) := by
  unfold refCmp
  simp only [refInts_same, refText_same, ne_eq, not_true, if_false]
  split
  · rfl
  · rename_i h; simpa using Eq.symm (by simpa using h)

theorem refOrder_num (f : Nat) (h : isNaN f = false) (hf : f < 18446744073709551616) : refOrder f = (if f < 9223372036854775808 then fkey f else fkey f - 1) ∧ (f < 9223372036854775808 → fkey f = f) ∧ (¬ f < 9223372036854775808 → fkey f = 9223372036854775808 - (f : Int)) ∧ refOrder f < 9223372036854775807 := by
  have hr : ¬ fI < rung f := of_decide_eq_false h
  have hI : fI = 9218868437227405312 := rfl
  rw [hI] at hr
  unfold refOrder fkey fneg rung fS at *
  rw [h]
  by_cases hs : f < 9223372036854775808
  · have e1 : f % 9223372036854775808 = f := by omega
    have e2 : f / 9223372036854775808 = 0 := by omega
    rw [e1, e2] at *
    simp [hs]
    omega
  · have e1 : f % 9223372036854775808 = f - 9223372036854775808 := by omega
    have e2 : f / 9223372036854775808 = 1 := by omega
    rw [e1, e2] at *
    simp [hs]
    omega
theorem refOrder_nan (f : Nat) (h : isNaN f = true) : refOrder f = 9223372036854775807 := by
  unfold refOrder; rw [h]; rfl

set_option maxHeartbeats 1000000 in
theorem valueFloats_any (a : Nat) (ha : a < 18446744073709551616) (b : Nat) (hb : b < 18446744073709551616) (w : World) : Calls Tryd.prog 5 #[.int .u64 a, .int .u64 b] w fun e w' => e = .returned (.bool true) ∧ Touch (fun _ => False) w w' := by
  have HK : Hid (∀ w, Calls Tryd.prog 16 #[.agg #[.int .i64 3, .int .i64 0, .float .f64 a, .string ⟨#[]⟩], .agg #[.int .i64 3, .int .i64 0, .float .f64 b, .string ⟨#[]⟩]] w fun e w' => e = .returned (.int .i64 (refInts (refOrder a) (refOrder b))) ∧ Touch (fun _ => False) w w') := by
    intro w
    have h := v_cmp (fl a) (fl b) ha hb w
    rw [refCmp_fl] at h
    exact h
  have hnot : ∀ (x : Bool) (w : World), (Op.unary .not (.bool x)).run Tryd.prog w = .ok (.bool (!x)) w := fun _ _ => rfl
  have hfb := f64frombits_run
  generalize hc : refInts (refOrder a) (refOrder b) = C at HK
  have HC : Hid (refInts (refOrder a) (refOrder b) = C) := hc
  have HA : Hid (a < 18446744073709551616) := ha
  have HB : Hid (b < 18446744073709551616) := hb
  clear hc ha hb
  go_enter Tryd.func5, Tryd.ntmps5
  go_wp2_with fail
  refine (known2 _).mono ?_
  rintro e w1 ⟨rfl, hT⟩
  have HT1 : Hid (Touch (fun _ => False) w w1) := hT
  clear hT
  go_wp2_with fail
  refine (l_float _ _).mono ?_
  rintro e w2 ⟨rfl, rfl⟩
  go_wp2_with fail
  refine (l_float _ _).mono ?_
  rintro e w2 ⟨rfl, rfl⟩
  go_wp2_with fail
  refine (HK.out _).mono ?_
  rintro e w2 ⟨rfl, hT⟩
  have HT : Hid (Touch (fun _ => False) w w2) := Touch.trans ((HT1.out.alloc _).alloc _) hT
  clear hT HT1 HK
  have nA := self_neq a
  have nB := self_neq b
  cases hA : isNaN a <;> cases hB : isNaN b <;> rw [hA] at nA <;> rw [hB] at nB
  case true.true =>
    have e : C = 0 := by rw [← HC.out, refOrder_nan a hA, refOrder_nan b hB]; rfl
    subst e
    go_wp2_with fail
    go_ret
    exact ⟨rfl, HT.out⟩
  case true.false =>
    have e : C = 1 := by
      have h := (refOrder_num b hB HB.out).2.2.2
      rw [← HC.out, refOrder_nan a hA, refInts, if_neg (by omega), if_pos (by omega)]
    subst e
    go_wp2_with fail
    go_ret
    exact ⟨rfl, HT.out⟩
  case false.true =>
    have e : C = -1 := by
      have h := (refOrder_num a hA HA.out).2.2.2
      rw [← HC.out, refOrder_nan b hB, refInts, if_pos (by omega)]
    subst e
    go_wp2_with fail
    go_ret
    exact ⟨rfl, HT.out⟩
  case false.false =>
    have hab : FloatKind.f64.format.order a b = some (compare (fkey a) (fkey b)) := by
      have := order_double a b
      rw [hA, hB] at this; exact this
    have ha0 : FloatKind.f64.format.order a 0 = some (compare (fkey a) 0) := by
      have := order_double a 0
      rw [hA, show isNaN 0 = false from by decide, show fkey 0 = 0 from by decide] at this; exact this
    obtain ⟨oa, pa, qa, _⟩ := refOrder_num a hA HA.out
    obtain ⟨ob, pb, qb, _⟩ := refOrder_num b hB HB.out
    have hC := HC.out
    rw [oa, ob] at hC
    clear oa ob HC hA hB
    have ha := HA.out
    have hb := HB.out
    rcases Int.lt_trichotomy (fkey a) (fkey b) with h | h | h
    · have t1 : (FloatKind.f64.format.order a b == some Ordering.lt) = true := by rw [hab, Int.compare_eq_lt.2 h]; rfl
      have e : C = -1 := by
        rw [← hC, refInts, if_pos]
        split <;> split <;> omega
      subst e
      clear hC hab ha0 pa qa pb qb h
      go_wp2_with fail
      go_ret
      exact ⟨rfl, HT.out⟩
    · have t1 : (FloatKind.f64.format.order a b == some Ordering.lt) = false := by rw [hab, Int.compare_eq_eq.2 h]; rfl
      have t2 : (FloatKind.f64.format.order a b == some Ordering.gt) = false := by rw [hab, Int.compare_eq_eq.2 h]; rfl
      by_cases hz : fkey a = 0
      · have t3 : (FloatKind.f64.format.order a 0 == some Ordering.eq) = true := by rw [ha0, Int.compare_eq_eq.2 hz]; rfl
        by_cases hs : a = b
        · have t4 : ((a : Int) != (b : Int)) = false := by rw [hs]; simp
          have e : C = 0 := by rw [← hC, hs]; exact refInts_same _
          subst e
          clear hC hab ha0 pa qa pb qb h hz hs
          go_wp2_with fail
          go_ret
          exact ⟨rfl, HT.out⟩
        · have t4 : ((a : Int) != (b : Int)) = true := by rw [bne_iff_ne]; omega
          by_cases hs2 : a < 9223372036854775808
          · have ea : a = 0 := by have := pa hs2; omega
            have eb : b = 9223372036854775808 := by
              by_cases hs3 : b < 9223372036854775808
              · have := pb hs3; omega
              · have := qb hs3; omega
            have e : C = 1 := by rw [← hC, ea, eb]; decide
            subst e
            have t5 : ((a : Int) / 9223372036854775808 == 1) = false := by rw [ea]; rfl
            clear hC hab ha0 pa qa pb qb h hz hs hs2 ea eb
            go_wp2_with fail
            go_ret
            exact ⟨rfl, HT.out⟩
          · have ea : a = 9223372036854775808 := by have := qa hs2; omega
            have eb : b = 0 := by
              by_cases hs3 : b < 9223372036854775808
              · have := pb hs3; omega
              · have := qb hs3; omega
            have e : C = -1 := by rw [← hC, ea, eb]; decide
            subst e
            have t5 : ((a : Int) / 9223372036854775808 == 1) = true := by rw [ea]; rfl
            clear hC hab ha0 pa qa pb qb h hz hs hs2 ea eb
            go_wp2_with fail
            go_ret
            exact ⟨rfl, HT.out⟩
      · have t3 : (FloatKind.f64.format.order a 0 == some Ordering.eq) = false := by
          rw [ha0]
          rcases Int.lt_or_gt_of_ne hz with hz | hz
          · rw [Int.compare_eq_lt.2 hz]; rfl
          · rw [Int.compare_eq_gt.2 hz]; rfl
        have hs : a = b := by
          by_cases h1 : a < 9223372036854775808 <;> by_cases h2 : b < 9223372036854775808
          · have := pa h1; have := pb h2; omega
          · have := pa h1; have := qb h2; omega
          · have := qa h1; have := pb h2; omega
          · have := qa h1; have := qb h2; omega
        have e : C = 0 := by rw [← hC, hs]; exact refInts_same _
        subst e
        clear hC hab ha0 pa qa pb qb h hz hs
        go_wp2_with fail
        go_ret
        exact ⟨rfl, HT.out⟩
    · have t1 : (FloatKind.f64.format.order a b == some Ordering.lt) = false := by rw [hab, Int.compare_eq_gt.2 h]; rfl
      have t2 : (FloatKind.f64.format.order a b == some Ordering.gt) = true := by rw [hab, Int.compare_eq_gt.2 h]; rfl
      have e : C = 1 := by
        rw [← hC, refInts, if_neg, if_pos]
        · split <;> split <;> omega
        · split <;> split <;> omega
      subst e
      clear hC hab ha0 pa qa pb qb h
      go_wp2_with fail
      go_ret
      exact ⟨rfl, HT.out⟩
end Go.Proofs.YtaihofkmcpcjeaaDoor
