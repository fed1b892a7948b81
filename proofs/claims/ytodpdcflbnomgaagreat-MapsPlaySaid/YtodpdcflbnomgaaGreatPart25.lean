/- The contracts of quireref2: order, ints, Cmp. -/
import Derived.Test.YtodpdcflbnomgaaGreatPart6
import Derived.Test.YtodpdcflbnomgaaGreatPart8
import Derived.Test.YtodpdcflbnomgaaGreatPart9
import Derived.Deep.RegionHeld3
import Derived.Deep.MidRow
import Derived.Great.Ranges
import Derived.Test.YtodpdcflbnomgaaGreatKnown12b
import Derived.Test.YtodpdcflbnomgaaGreatPart22
import Derived.Test.YtodpdcflbnomgaaGreatPart24
namespace Go.Proofs.YtodpdcflbnomgaaGreat
open Go.RowKit
set_option linter.unusedVariables false

theorem i64_low63 (f : Nat) (h0 : ¬ f < 9223372036854775808) (h1 : f < 18446744073709551616) : wrap64 (-1 - bits .and .i64 (wrap64 (f : Int)) 9223372036854775807) = 9223372036854775807 - (f : Int) := by
  have e : wrap64 (f : Int) = (f : Int) - 18446744073709551616 := by rw [wrap64]; omega
  have e2 : bits .and .i64 ((f : Int) - 18446744073709551616) 9223372036854775807 = (f : Int) - 9223372036854775808 := by
    show IntKind.i64.wrap ((BitVec.ofInt 64 ((f : Int) - 18446744073709551616) &&& BitVec.ofInt 64 9223372036854775807).toNat : Int) = _
    have h2 : (BitVec.ofInt 64 ((f : Int) - 18446744073709551616)).toNat = f := by
      rw [BitVec.toNat_ofInt]; omega
    have h3 : (BitVec.ofInt 64 9223372036854775807).toNat = 9223372036854775807 := by decide
    rw [BitVec.toNat_and, h2, h3, show (9223372036854775807 : Nat) = 2 ^ 63 - 1 from by decide, Nat.and_two_pow_sub_one_eq_mod, IntKind.wrap_i64]
    omega
  rw [e, e2, wrap64]; omega

set_option maxHeartbeats 400000 in
theorem ref_order (f : Nat) (hf : f < 18446744073709551616) (w : World) : Calls Tryz.prog 51 #[.float .f64 f] w fun e w' => e = .returned (.int .i64 (refOrder f)) ∧ w' = w := by
  have h1 := f64bits_run
  have h2 := self_neq f
  cases h : isNaN f
  · rw [h] at h2
    by_cases hs : f < 9223372036854775808
    · have HE : Hid (refOrder f = f) := by simp [Hid, refOrder, h, hs]
      have h3 : wrap64 (f : Int) = f := by rw [wrap64]; omega
      go_enter Tryz.func51, Tryz.ntmps51
      go_wp2
      go_ret
      exact ⟨congrArg (fun x : Int => Ending.returned (.int .i64 x)) HE.out.symm, rfl⟩
    · have HE : Hid (refOrder f = wrap64 (-1 - bits .and .i64 (wrap64 (f : Int)) 9223372036854775807)) := by
        rw [Hid, i64_low63 f hs hf]; simp [refOrder, h, hs]
      have h3 : wrap64 (f : Int) < 0 := by rw [wrap64]; omega
      go_enter Tryz.func51, Tryz.ntmps51
      go_wp2
      go_ret
      exact ⟨congrArg (fun x : Int => Ending.returned (.int .i64 x)) HE.out.symm, rfl⟩
  · rw [h] at h2
    have HE : Hid (refOrder f = 9223372036854775807) := by simp [Hid, refOrder, h]
    go_enter Tryz.func51, Tryz.ntmps51
    go_wp2
    go_ret
    exact ⟨congrArg (fun x : Int => Ending.returned (.int .i64 x)) HE.out.symm, rfl⟩

set_option maxHeartbeats 400000 in
theorem ref_ints (a b : Int) (w : World) : Calls Tryz.prog 50 #[.int .i64 a, .int .i64 b] w fun e w' => e = .returned (.int .i64 (refInts a b)) ∧ w' = w := by
  by_cases h1 : a < b
  · have HE : Hid (refInts a b = -1) := by simp [Hid, refInts, h1]
    go_enter Tryz.func50, Tryz.ntmps50
    go_wp2
    go_ret
    exact ⟨congrArg (fun x : Int => Ending.returned (.int .i64 x)) HE.out.symm, rfl⟩
  · by_cases h2 : b < a
    · have HE : Hid (refInts a b = 1) := by simp [Hid, refInts, h1, h2]
      go_enter Tryz.func50, Tryz.ntmps50
      go_wp2
      go_ret
      exact ⟨congrArg (fun x : Int => Ending.returned (.int .i64 x)) HE.out.symm, rfl⟩
    · have HE : Hid (refInts a b = 0) := by simp [Hid, refInts, h1, h2]
      go_enter Tryz.func50, Tryz.ntmps50
      go_wp2
      go_ret
      exact ⟨congrArg (fun x : Int => Ending.returned (.int .i64 x)) HE.out.symm, rfl⟩

set_option maxRecDepth 100000 in
set_option maxHeartbeats 1000000 in
theorem ref_cmp (a b : V) (hfa : a.f < 18446744073709551616) (hfb : b.f < 18446744073709551616) (w : World) : Calls Tryz.prog 28 #[a.val, b.val] w fun e w' => e = .returned (.int .i64 (refCmp a b)) ∧ Touch (fun _ => False) w w' := by
  obtain ⟨k, n, f, s⟩ := a
  obtain ⟨k2, n2, f2, s2⟩ := b
  simp only [V.val] at *
  have HC : Hid (refCmp ⟨k, n, f, s⟩ ⟨k2, n2, f2, s2⟩ = if refInts k k2 ≠ 0 then refInts k k2 else if refInts n n2 ≠ 0 then refInts n n2 else if refInts (refOrder f) (refOrder f2) ≠ 0 then refInts (refOrder f) (refOrder f2) else refText s s2) := rfl
  generalize refCmp ⟨k, n, f, s⟩ ⟨k2, n2, f2, s2⟩ = C at *
  have HT : Hid (Touch (fun _ => False) w ((w.alloc (.cells #[.int .i64 k, .int .i64 n, .float .f64 f, .string s] 37)).alloc (.cells #[.int .i64 k2, .int .i64 n2, .float .f64 f2, .string s2] 37))) := ((Touch.refl _ _).alloc _).alloc _
  go_enter Tryz.func28, Tryz.ntmps28
  go_wp2_with fail
  refine (ref_ints k k2 _).mono ?_
  rintro e w1 ⟨rfl, rfl⟩
  generalize refInts k k2 = c1 at *
  by_cases h1 : c1 = 0
  · have t1 : (c1 == 0) = true := by rw [h1]; rfl
    have H1 : Hid (c1 = 0) := h1
    clear h1
    go_wp2_with fail
    refine (ref_ints n n2 _).mono ?_
    rintro e w2 ⟨rfl, rfl⟩
    generalize refInts n n2 = c2 at *
    by_cases h2 : c2 = 0
    · have t2 : (c2 == 0) = true := by rw [h2]; rfl
      have H2 : Hid (c2 = 0) := h2
      clear h2
      have HO : Hid (∀ w, Calls Tryz.prog 51 #[.float .f64 f] w fun e w' => e = .returned (.int .i64 (refOrder f)) ∧ w' = w) := ref_order f hfa
      have HO2 : Hid (∀ w, Calls Tryz.prog 51 #[.float .f64 f2] w fun e w' => e = .returned (.int .i64 (refOrder f2)) ∧ w' = w) := ref_order f2 hfb
      go_wp2_with fail
      go_quiet (first | (go_at_call_of 51 (Value.float FloatKind.f64 f); exact Calls.quiet_of_same (HO.out _)) | (go_at_call_of 51 (Value.float FloatKind.f64 f2); exact Calls.quiet_of_same (HO2.out _)) | (go_at_call 50; exact Calls.quiet_of_same (ref_ints _ _ _)))
      have HT3 : Hid (Touch (fun _ => False) w ((((w.alloc (.cells #[.int .i64 k, .int .i64 n, .float .f64 f, .string s] 37)).alloc (.cells #[.int .i64 k2, .int .i64 n2, .float .f64 f2, .string s2] 37))).drewN nq)) := HT.out.drewN _
      generalize refInts (refOrder f) (refOrder f2) = c3 at *
      by_cases h3 : c3 = 0
      · have t3 : (c3 != 0) = false := by rw [h3]; rfl
        have HE : Hid (C = refText s s2) := by rw [Hid, HC.out, if_neg (by simpa using H1.out), if_neg (by simpa using H2.out), if_neg (by simpa using h3)]
        clear h3 HO HO2
        cases h4 : Op.bytesLess s.toList s2.toList
        · cases h5 : (s.toList == s2.toList)
          · have HF : Hid (C = 1) := by rw [Hid, HE.out, refText, h4, h5]; rfl
            go_wp2_with fail
            go_ret
            exact ⟨congrArg (fun x : Int => Ending.returned (.int .i64 x)) HF.out.symm, HT3.out⟩
          · have HF : Hid (C = 0) := by rw [Hid, HE.out, refText, h4, h5]; rfl
            go_wp2_with fail
            go_ret
            exact ⟨congrArg (fun x : Int => Ending.returned (.int .i64 x)) HF.out.symm, HT3.out⟩
        · have HF : Hid (C = -1) := by rw [Hid, HE.out, refText, h4]; rfl
          go_wp2_with fail
          go_ret
          exact ⟨congrArg (fun x : Int => Ending.returned (.int .i64 x)) HF.out.symm, HT3.out⟩
      · have t3 : (c3 != 0) = true := by rw [bne_iff_ne]; exact h3
        have HE : Hid (C = c3) := by rw [Hid, HC.out, if_neg (by simpa using H1.out), if_neg (by simpa using H2.out), if_pos h3]
        go_wp2_with fail
        go_ret
        exact ⟨congrArg (fun x : Int => Ending.returned (.int .i64 x)) HE.out.symm, HT3.out⟩
    · have t2 : (c2 == 0) = false := by rw [beq_eq_false_iff_ne]; exact h2
      have t3 : (c2 != 0) = true := by rw [bne_iff_ne]; exact h2
      have HE : Hid (C = c2) := by rw [Hid, HC.out, if_neg (by simpa using H1.out), if_pos h2]
      go_wp2_with fail
      go_ret
      exact ⟨congrArg (fun x : Int => Ending.returned (.int .i64 x)) HE.out.symm, HT.out⟩
  · have t1 : (c1 == 0) = false := by rw [beq_eq_false_iff_ne]; exact h1
    have t2 : (c1 != 0) = true := by rw [bne_iff_ne]; exact h1
    have HE : Hid (C = c1) := by rw [Hid, HC.out, if_pos h1]
    go_wp2_with fail
    go_ret
    exact ⟨congrArg (fun x : Int => Ending.returned (.int .i64 x)) HE.out.symm, HT.out⟩
end Go.Proofs.YtodpdcflbnomgaaGreat

/- Same; the document's Same. -/
namespace Go.Proofs.YtodpdcflbnomgaaGreat
open Go.RowKit
set_option linter.unusedVariables false
set_option linter.unusedSimpArgs false
set_option maxRecDepth 100000

/-- All fields are alike. -/
def sameO (a b : O) : Bool := (((a.c == b.c) && (a.k == b.k)) && ((a.kind == b.kind) && ((a.st == b.st) && (((a.lc == b.lc) && (a.lk == b.lk)) && (((a.rc == b.rc) && (a.rk == b.rk)) && ((decide (a.tx.toList = b.tx.toList)) && ((refCmp a.v b.v == 0) && ((decide (a.ky.toList = b.ky.toList)) && (((a.pc == b.pc) && (a.pk == b.pk)) && (((a.fc == b.fc) && ((a.fk == b.fk) && (a.fa == b.fa))) && ((a.tc == b.tc) && ((a.tk == b.tk) && (a.ta == b.ta)))))))))))))
set_option maxHeartbeats 8000000 in
theorem ref_same (a b : O) (hfa : a.vf < 18446744073709551616) (hfb : b.vf < 18446744073709551616) (w : World) : Calls Tryz.prog 11 #[a.val, b.val] w fun e w' => e = .returned (.bool (sameO a b)) ∧ Touch (fun _ => False) w w' := by
  have HC : Hid (∀ w, Calls Tryz.prog 28 #[a.v.val, b.v.val] w fun e w' => e = .returned (.int .i64 (refCmp a.v b.v)) ∧ Touch (fun _ => False) w w') := fun w => ref_cmp a.v b.v hfa hfb w
  obtain ⟨t1, e1⟩ : ∃ t1, (a.c == b.c) = t1 := ⟨_, rfl⟩
  obtain ⟨t2, e2⟩ : ∃ t2, (a.k == b.k) = t2 := ⟨_, rfl⟩
  obtain ⟨t3, e3⟩ : ∃ t3, (a.kind == b.kind) = t3 := ⟨_, rfl⟩
  obtain ⟨t4, e4⟩ : ∃ t4, (a.st == b.st) = t4 := ⟨_, rfl⟩
  obtain ⟨t5, e5⟩ : ∃ t5, (a.lc == b.lc) = t5 := ⟨_, rfl⟩
  obtain ⟨t6, e6⟩ : ∃ t6, (a.lk == b.lk) = t6 := ⟨_, rfl⟩
  obtain ⟨t7, e7⟩ : ∃ t7, (a.rc == b.rc) = t7 := ⟨_, rfl⟩
  obtain ⟨t8, e8⟩ : ∃ t8, (a.rk == b.rk) = t8 := ⟨_, rfl⟩
  obtain ⟨t9, e9⟩ : ∃ t9, (decide (a.tx.toList = b.tx.toList)) = t9 := ⟨_, rfl⟩
  obtain ⟨t10, e10⟩ : ∃ t10, (refCmp a.v b.v == 0) = t10 := ⟨_, rfl⟩
  obtain ⟨t11, e11⟩ : ∃ t11, (decide (a.ky.toList = b.ky.toList)) = t11 := ⟨_, rfl⟩
  obtain ⟨t12, e12⟩ : ∃ t12, (a.pc == b.pc) = t12 := ⟨_, rfl⟩
  obtain ⟨t13, e13⟩ : ∃ t13, (a.pk == b.pk) = t13 := ⟨_, rfl⟩
  obtain ⟨t14, e14⟩ : ∃ t14, (a.fc == b.fc) = t14 := ⟨_, rfl⟩
  obtain ⟨t15, e15⟩ : ∃ t15, (a.fk == b.fk) = t15 := ⟨_, rfl⟩
  obtain ⟨t16, e16⟩ : ∃ t16, (a.fa == b.fa) = t16 := ⟨_, rfl⟩
  obtain ⟨t17, e17⟩ : ∃ t17, (a.tc == b.tc) = t17 := ⟨_, rfl⟩
  obtain ⟨t18, e18⟩ : ∃ t18, (a.tk == b.tk) = t18 := ⟨_, rfl⟩
  obtain ⟨t19, e19⟩ : ∃ t19, (a.ta == b.ta) = t19 := ⟨_, rfl⟩
  have HG : Hid (sameO a b = ((t1 && t2) && (t3 && (t4 && ((t5 && t6) && ((t7 && t8) && (t9 && (t10 && (t11 && ((t12 && t13) && ((t14 && (t15 && t16)) && (t17 && (t18 && t19))))))))))))) := by unfold sameO Hid; rw [e1, e2, e3, e4, e5, e6, e7, e8, e9, e10, e11, e12, e13, e14, e15, e16, e17, e18, e19]
  generalize refCmp a.v b.v = C at *
  clear hfa hfb
  go_enter Tryz.func11, Tryz.ntmps11
  go_upto_region 0 with fail
  refine wp_region_lit ?_
  refine Go.Great.wpList_boxTo rfl 41 (.tmp 0) rfl (some 2) rfl w.heap.size rfl a.vals rfl ?_
  refine Go.Great.wpList_boxTo rfl 41 (.tmp 1) rfl (some 3) rfl (w.heap.size + 1) (by simp) b.vals rfl ?_
  simp only [Act.put, List.setIfInBounds_toArray]
  obtain ⟨W0, hW0⟩ : ∃ W0, Hid (W0 = (w.alloc (opO a)).alloc (opO b)) := ⟨_, Eq.refl _⟩
  have HT0 : Hid (Touch (fun _ => False) w W0) := by rw [hW0.out]; exact ((Touch.refl _ _).alloc _).alloc _
  have HA : Hid (OpAt w.heap.size a W0 ∧ OpAt (w.heap.size + 1) b W0) := by rw [hW0.out]; exact heap_two w _ _
  rw [← hW0.out]
  clear hW0
  have q0 := HA.out.1.q0
  have qb0 := HA.out.2.q0
  have q1 := HA.out.1.q1
  have qb1 := HA.out.2.q1
  have q2 := HA.out.1.q2
  have qb2 := HA.out.2.q2
  have q3 := HA.out.1.q3
  have qb3 := HA.out.2.q3
  have q4 := HA.out.1.q4
  have qb4 := HA.out.2.q4
  have q5 := HA.out.1.q5
  have qb5 := HA.out.2.q5
  have q6 := HA.out.1.q6
  have qb6 := HA.out.2.q6
  have q7 := HA.out.1.q7
  have qb7 := HA.out.2.q7
  have q8 := HA.out.1.q8
  have qb8 := HA.out.2.q8
  have q9 := HA.out.1.q9
  have qb9 := HA.out.2.q9
  have q10 := HA.out.1.q10
  have qb10 := HA.out.2.q10
  have q11 := HA.out.1.q11
  have qb11 := HA.out.2.q11
  have q12 := HA.out.1.q12
  have qb12 := HA.out.2.q12
  go_wp2_with fail
  all_goals first | (go_ret; exact ⟨by rw [HG.out]; first | (simp [*]; done) | (rw [← e9]; simp [*]; done), HT0.out⟩) | skip
  clear q0 qb0 q1 qb1 q2 qb2 q3 qb3 q4 qb4 q5 qb5 q6 qb6 q7 qb7 q8 qb8 q9 qb9 q10 qb10 q11 qb11 q12 qb12
  refine (HC.out _).mono ?_
  rintro e w1 ⟨rfl, t⟩
  have HT1 : Hid (Touch (fun _ => False) w w1) := HT0.out.trans t
  have HA1 : Hid (OpAt w.heap.size a w1 ∧ OpAt (w.heap.size + 1) b w1) := ⟨HA.out.1.keep t, HA.out.2.keep t⟩
  clear t HA HT0
  have q13 := HA1.out.1.q13
  have qb13 := HA1.out.2.q13
  have q14 := HA1.out.1.q14
  have qb14 := HA1.out.2.q14
  have q15 := HA1.out.1.q15
  have qb15 := HA1.out.2.q15
  have q16 := HA1.out.1.q16
  have qb16 := HA1.out.2.q16
  have q17 := HA1.out.1.q17
  have qb17 := HA1.out.2.q17
  have q18 := HA1.out.1.q18
  have qb18 := HA1.out.2.q18
  have q19 := HA1.out.1.q19
  have qb19 := HA1.out.2.q19
  have q20 := HA1.out.1.q20
  have qb20 := HA1.out.2.q20
  have q21 := HA1.out.1.q21
  have qb21 := HA1.out.2.q21
  go_wp2_with fail
  all_goals (go_ret; exact ⟨by rw [HG.out]; first | (simp [*]; done) | (rw [← e9, ← e11]; simp [*]; done), HT1.out⟩)
end Go.Proofs.YtodpdcflbnomgaaGreat

/- Package maps: helps for the laws. -/
namespace Go.Proofs.YtodpdcflbnomgaaGreat
open Go.RowKit Go.Maps
set_option linter.unusedVariables false
set_option linter.unusedSimpArgs false
set_option maxRecDepth 100000

theorem refOrder_bitsM (f : Nat) : refOrder (refBits f) = refOrder f := by
  unfold refBits
  by_cases h : isNaN f = true
  · rw [if_pos h]
    unfold refOrder
    rw [if_pos h, if_pos (by decide)]
  · rw [if_neg h]
theorem refCmp_cleanM (v : V) : refCmp ⟨v.k, v.n, refBits v.f, v.s⟩ v = 0 := by
  have h := refCmp_self v
  rw [refCmp_cases] at h ⊢
  simp only at h ⊢
  rw [refOrder_bitsM]
  exact h
theorem sameO_clean (o : O) : sameO (cleanO o) o = true := by
  have h : refCmp (cleanO o).v o.v = 0 := refCmp_cleanM o.v
  unfold sameO
  rw [h]
  simp [cleanO]
section
variable {w0 w : World} {K : Nat → Prop} {g : Nat} {s : MS} {L : List O}
theorem Lv.weaken {K' : Nat → Prop} (h : Lv w0 K w g s L) (hk : ∀ k, K' k → K k) : Lv w0 K' w g s L := by
  obtain ⟨F, h⟩ := h
  exact ⟨F, h.at_, fun k hf => ⟨(h.own k hf).1, fun e => (h.own k hf).2 (hk k e)⟩, fun k e => h.old k (hk k e), h.touch, h.has, h.ord, h.chain, h.apart, h.cnt, h.len⟩
/-- A store into a block that is kept, and was made since. -/
theorem Lv.stored {w' : World} {X : Nat} (h : Lv w0 K w g s L) (t : Touch (fun k => k = X) w w') (hX : K X) (h0 : w0.heap.size ≤ X) : Lv w0 K w' g s L := by
  obtain ⟨F, h⟩ := h
  exact ⟨F, h.at_.touch t fun k hf e => (h.own k hf).2 (e ▸ hX), h.own, fun k hk => Nat.lt_of_lt_of_le (h.old k hk) t.size, h.touch.then t fun k hk e => by omega, h.has, h.ord, h.chain, h.apart, h.cnt, h.len⟩
end
end Go.Proofs.YtodpdcflbnomgaaGreat

/- A view's text, as bytes: entries alone. -/
namespace Go.Proofs.YtodpdcflbnomgaaGreat
open Go.RowKit
set_option linter.unusedVariables false
set_option linter.unusedSimpArgs false
set_option maxRecDepth 100000

theorem bytes_ext {a b : ByteArray} (h : a.data.toList = b.data.toList) : a = b := by
  apply ByteArray.ext; exact Array.toList_inj.1 h
def strOf (l : List UInt8) : ByteArray := ⟨l.toArray⟩
theorem strOf_list (l : List UInt8) : (strOf l).data.toList = l := by simp [strOf]
theorem strOf_size (l : List UInt8) : (strOf l).size = l.length := by show l.toArray.size = _; simp
theorem append_data (a b : ByteArray) : (a ++ b).data.toList = a.data.toList ++ b.data.toList := by simp [ByteArray.data_append]
theorem strOf_app (a b : List UInt8) : strOf a ++ strOf b = strOf (a ++ b) := by
  apply bytes_ext
  rw [strOf_list, append_data, strOf_list, strOf_list]
/-- A text's text. -/
def qL (s : ByteArray) : List UInt8 := 34 :: quoteGo s.data.toList ++ [34]
def insetT (d : Nat) : List UInt8 := List.replicate (2 * d) 32
def entT (d : Nat) (k : ByteArray) (v : V) : List UInt8 := insetT d ++ [109, 32] ++ qL k ++ 61 :: textL v
theorem insetT_len (d : Nat) : (insetT d).length = 2 * d := by unfold insetT; simp
theorem inset_succ (d : Nat) : insetT (d + 1) = insetT d ++ [32, 32] := by
  unfold insetT
  rw [Nat.mul_add]
  exact (List.replicate_append_replicate (n := 2 * d) (m := 2) (a := (32 : UInt8))).symm
mutual
  def etT : Nat → Et → List UInt8
    | d, .mk k v l => entT d k v ++ [10] ++ etsT (d + 1) l
  def etsT : Nat → List Et → List UInt8
    | _, [] => []
    | d, e :: l => etT d e ++ etsT d l
end
theorem etsT_flat (d : Nat) : ∀ l : List Et, etsT d l = l.flatMap (etT d)
  | [] => by unfold etsT; rfl
  | e :: l => by unfold etsT; rw [etsT_flat d l, List.flatMap_cons]
theorem etT_eq (d : Nat) (e : Et) : etT d e = entT d e.ky e.v ++ [10] ++ etsT (d + 1) e.kids := by
  cases e; unfold etT; rfl
theorem etsT_take {d : Nat} {l : List Et} {i : Nat} (h : i < l.length) : etsT d (l.take (i + 1)) = etsT d (l.take i) ++ etT d l[i] := by
  rw [etsT_flat, etsT_flat, List.take_succ_eq_append_getElem h, List.flatMap_append, List.flatMap_cons, List.flatMap_nil, List.append_nil]
theorem etsT_take_le (d : Nat) (l : List Et) (i : Nat) : (etsT d (l.take i)).length ≤ (etsT d l).length := by
  have e : l = l.take i ++ l.drop i := (List.take_append_drop i l).symm
  conv => rhs; rw [e]
  rw [etsT_flat, etsT_flat, List.flatMap_append, List.length_append]; omega
/-- They can be told, and end above that depth. -/
def OkEs : Nat → List Et → Prop
  | 0, l => l = []
  | h + 1, l => ∀ e ∈ l, V.fits e.v ∧ e.v.s.size ≤ 1048576 ∧ e.ky.size ≤ 1048576 ∧ OkEs h e.kids
/-- An entry that lies, field by field. -/
theorem EtAt.at {w : World} {S : Nat → Prop} {h : Nat} {ao : Option Addr} {n cap : Nat} {l : List Et} (g : EtAt w S (h + 1) (.slice ao n cap) l) {i : Nat} (hi : i < l.length) : ∃ b o ks, ao = some ⟨b, o, none⟩ ∧ EtAt w S h (Sw.val ks) l[i].kids ∧ ∀ W, Touch (fun _ => False) w W → (W.cell? ⟨b, o + i * 6, none⟩ = some (.string l[i].ky) ∧ W.cell? ⟨b, o + i * 6 + 1, none⟩ = some (.int .i64 l[i].v.k) ∧ W.cell? ⟨b, o + i * 6 + 2, none⟩ = some (.int .i64 l[i].v.n) ∧ W.cell? ⟨b, o + i * 6 + 3, none⟩ = some (.float .f64 l[i].v.f) ∧ W.cell? ⟨b, o + i * 6 + 4, none⟩ = some (.string l[i].v.s) ∧ W.cell? ⟨b, o + i * 6 + 5, none⟩ = some ks.val) := by
  obtain ⟨raws, ⟨ao', cap', e1, h1, h2, h3, h4⟩, hl, hr⟩ := g
  simp only [Value.slice.injEq] at e1
  obtain ⟨rfl, -, -⟩ := e1
  have hi' : i < raws.length := by rw [hl]; exact hi
  rcases h4 with h4 | ⟨b, o, e2, hS, hc⟩
  · subst h4; simp at hi'
  · obtain ⟨q1, q2, q3⟩ := hr i hi' hi
    refine ⟨b, o, raws[i].ks, e2, q3, fun W t => ?_⟩
    have hW : ∀ j u, (cellsQ raws)[j]? = some u → W.cell? ⟨b, o + j, none⟩ = some u := fun j u hu => by
      have := hc j u hu
      rw [World.cell?_of_block (t.block _ (World.block_lt_of_cell? _ _ this) id)]; exact this
    obtain ⟨a0, a1, a2, a3, a4, a5⟩ := cellsQ_get raws i hi'
    rw [← q1, ← q2]
    exact ⟨hW _ _ a0, hW _ _ a1, hW _ _ a2, hW _ _ a3, hW _ _ a4, hW _ _ a5⟩
end Go.Proofs.YtodpdcflbnomgaaGreat
