/- Views: Diff. -/
import Derived.Test.YtijkekkjiboomaaGreatDoorVwH
import Derived.Test.YtijkekkjiboomaaGreatDoorPart1
namespace Go.Proofs.YtijkekkjiboomaaGreatDoor
open Go.RowKit Go.Maps
set_option linter.unusedVariables false
set_option linter.unusedSimpArgs false
set_option maxRecDepth 100000

theorem encAll_rev (rs : List Nat) : (encAll rs.reverse).length = (encAll rs).length := by
  induction rs with
  | nil => rfl
  | cons r rs ih => simp only [List.reverse_cons, encAll_append, encAll_cons, List.length_append, ih, encAll_nil, List.append_nil, List.length_nil]; omega
theorem bwR_size {r : Rn} (h : r.Ok) : (bwR r).tx.size = r.tx.size := by
  have hb : (bwR r).tx.size = (encAll r.rs.reverse).length := by
    show (strOf (encAll r.rs.reverse)).size = _
    have := congrArg List.length (strOf_list (encAll r.rs.reverse))
    simpa using this
  rw [hb, encAll_rev]
  have hsl : r.tx.data.toList.length = r.tx.size := by simp
  cases he : r.em with
  | true => unfold Rn.rs; rw [h.e he]; rfl
  | false =>
    obtain ⟨rs, hr⟩ := Option.isSome_iff_exists.1 (h.t he).2
    unfold Rn.rs
    rw [rsOf_some hr, (enc_runesOf rs _ hr).2, hsl]
theorem bwP_tot {L : List Rn} (h : ∀ r ∈ L, r.Ok) : tot (bwP L) = tot L := by
  unfold bwP
  induction L with
  | nil => rfl
  | cons r L ih =>
    rw [List.reverse_cons, List.map_append, tot_append, ih fun x hx => h x (List.mem_cons_of_mem _ hx), List.map_cons, List.map_nil, tot_cons, tot_cons, tot_nil, bwR_size (h r (by simp))]
    show tot L + (r.tx.size + r.ml.length + 1 + 0) = _
    omega
set_option maxHeartbeats 16000000 in
theorem diff_any {w : World} {va vb : Value} {A B : List Rn} (ha : SlRn w va A) (hb : SlRn w vb B) (oa : OkL A) (ob : OkL B) (ta : tot A ≤ 1048576) (tb : tot B ≤ 1048576) (hT : TabsU w) :
    Calls Tryz.prog 25 #[va, vb] w fun e w' => ∃ v', e = .returned (.tuple #[.int .i64 (dfA A B : Int), .int .i64 ((lenL (dfX A B) : Int) - (dfE A B : Int)), v']) ∧ SlRn w' v' (dfL A B) ∧ Touch (fun _ => False) w w' := by
  have ca := cleanP_cn oa
  have cb := cleanP_cn ob
  have cx : Cn (dfX A B) ((nrmU A).drop (dfA A B)) := cut_all ca _
  have cy : Cn (dfY A B) ((nrmU B).drop (dfA A B)) := cut_all cb _
  have tca : tot (cleanP A) ≤ 1048576 := Nat.le_trans (cleanP_tot A) ta
  have tcb : tot (cleanP B) ≤ 1048576 := Nat.le_trans (cleanP_tot B) tb
  have tx : tot (dfX A B) ≤ 1048576 := Nat.le_trans (cutP_tot _ _ _) tca
  have ty : tot (dfY A B) ≤ 1048576 := Nat.le_trans (cutP_tot _ _ _) tcb
  have okx : ∀ r ∈ dfX A B, r.Ok := fun r hr => (cx.okL r hr).1
  have oky : ∀ r ∈ dfY A B, r.Ok := fun r hr => (cy.okL r hr).1
  have bx := bwP_cn cx
  have bY := bwP_cn cy
  have tbx : tot (bwP (dfX A B)) ≤ 1048576 := by rw [bwP_tot okx]; exact tx
  have tby : tot (bwP (dfY A B)) ≤ 1048576 := by rw [bwP_tot oky]; exact ty
  have big : ∀ {L : List Rn}, tot L ≤ 1048576 → lenL L ≤ 1099511627776 := fun {L} h => by
    have h1 := lenL_le (tot_small h)
    have h2 := tot_len L
    have : 1048576 * L.length ≤ 1048576 * 1048576 := Nat.mul_le_mul_left _ (by omega)
    omega
  have hls : ∀ {W : World} {v : Value} {L : List Rn}, Touch (fun _ => False) w W → SlRn W v L → tot L ≤ 1048576 → Calls Tryz.prog 41 #[v] W fun e w' => e = .returned (.int .i64 (lenL L : Int)) ∧ Touch (fun _ => False) W w' := fun {W v L} t hv h => vlens_any hv (tot_small h) (Nat.le_trans (tot_len L) h) (hT.keep t)
  have HLs : Hid _ := @hls
  have e1 : dfA A B ≤ 1099511627776 := by
    have h1 := (alA_is ca cb).lx
    have h2 := big tca
    rw [ca.len] at h2
    exact Nat.le_trans h1 h2
  have e2 : dfE A B ≤ 1099511627776 := by
    have h1 := (alA_is bx bY).lx
    have h2 := big tbx
    rw [bx.len] at h2
    exact Nat.le_trans h1 h2
  have l1 := big tca
  have l2 := big tcb
  have l3 := big tx
  have l4 := big ty
  have C1 : Hid (∀ W, Touch (fun _ => False) w W → Calls Tryz.prog 18 #[va] W fun e w' => ∃ v', e = .returned v' ∧ SlRn w' v' (cleanP A) ∧ Touch (fun _ => False) W w') := fun W t => clean_any (ha.touch t) oa ta (hT.keep t)
  have C2 : Hid (∀ W, Touch (fun _ => False) w W → Calls Tryz.prog 18 #[vb] W fun e w' => ∃ v', e = .returned v' ∧ SlRn w' v' (cleanP B) ∧ Touch (fun _ => False) W w') := fun W t => clean_any (hb.touch t) ob tb (hT.keep t)
  have C3 : Hid (∀ W x y, Touch (fun _ => False) w W → SlRn W x (cleanP A) → SlRn W y (cleanP B) → Calls Tryz.prog 51 #[x, y] W fun e w' => e = .returned (.int .i64 (dfA A B : Int)) ∧ Touch (fun _ => False) W w') := fun W x y t h1 h2 => alkAhead_any h1 h2 ca.okL cb.okL tca tcb (hT.keep t)
  have C4 : Hid (∀ W x, Touch (fun _ => False) w W → SlRn W x (cleanP A) → Calls Tryz.prog 21 #[x, .int .i64 (dfA A B : Int), .int .i64 (lenL (cleanP A) : Int)] W fun e w' => ∃ v', e = .returned v' ∧ SlRn w' v' (dfX A B) ∧ Touch (fun _ => False) W w') := fun W x t h1 => cut_any h1 ca.okL tca (hT.keep t) _ _ (by omega) (by omega)
  have C5 : Hid (∀ W x, Touch (fun _ => False) w W → SlRn W x (cleanP B) → Calls Tryz.prog 21 #[x, .int .i64 (dfA A B : Int), .int .i64 (lenL (cleanP B) : Int)] W fun e w' => ∃ v', e = .returned v' ∧ SlRn w' v' (dfY A B) ∧ Touch (fun _ => False) W w') := fun W x t h1 => cut_any h1 cb.okL tcb (hT.keep t) _ _ (by omega) (by omega)
  have C6 : Hid (∀ W x, SlRn W x (dfX A B) → Calls Tryz.prog 52 #[x] W fun e w' => ∃ v', e = .returned v' ∧ SlRn w' v' (bwP (dfX A B)) ∧ Touch (fun _ => False) W w') := fun W x h1 => bw_any h1 okx tx
  have C7 : Hid (∀ W x, SlRn W x (dfY A B) → Calls Tryz.prog 52 #[x] W fun e w' => ∃ v', e = .returned v' ∧ SlRn w' v' (bwP (dfY A B)) ∧ Touch (fun _ => False) W w') := fun W x h1 => bw_any h1 oky ty
  have C8 : Hid (∀ W x y, Touch (fun _ => False) w W → SlRn W x (bwP (dfX A B)) → SlRn W y (bwP (dfY A B)) → Calls Tryz.prog 51 #[x, y] W fun e w' => e = .returned (.int .i64 (dfE A B : Int)) ∧ Touch (fun _ => False) W w') := fun W x y t h1 h2 => alkAhead_any h1 h2 bx.okL bY.okL tbx tby (hT.keep t)
  have C9 : Hid (∀ W x, Touch (fun _ => False) w W → SlRn W x (dfY A B) → Calls Tryz.prog 21 #[x, .int .i64 0, .int .i64 ((lenL (dfY A B) : Int) - (dfE A B : Int))] W fun e w' => ∃ v', e = .returned v' ∧ SlRn w' v' (dfL A B) ∧ Touch (fun _ => False) W w') := fun W x t h1 => cut_any h1 cy.okL ty (hT.keep t) _ _ (by omega) (by omega)
  have L1 : Hid (∀ W x, Touch (fun _ => False) w W → SlRn W x (cleanP A) → Calls Tryz.prog 41 #[x] W fun e w' => e = .returned (.int .i64 (lenL (cleanP A) : Int)) ∧ Touch (fun _ => False) W w') := fun W x t h => hls t h tca
  have L2 : Hid (∀ W x, Touch (fun _ => False) w W → SlRn W x (cleanP B) → Calls Tryz.prog 41 #[x] W fun e w' => e = .returned (.int .i64 (lenL (cleanP B) : Int)) ∧ Touch (fun _ => False) W w') := fun W x t h => hls t h tcb
  have L3 : Hid (∀ W x, Touch (fun _ => False) w W → SlRn W x (dfX A B) → Calls Tryz.prog 41 #[x] W fun e w' => e = .returned (.int .i64 (lenL (dfX A B) : Int)) ∧ Touch (fun _ => False) W w') := fun W x t h => hls t h tx
  have L4 : Hid (∀ W x, Touch (fun _ => False) w W → SlRn W x (dfY A B) → Calls Tryz.prog 41 #[x] W fun e w' => e = .returned (.int .i64 (lenL (dfY A B) : Int)) ∧ Touch (fun _ => False) W w') := fun W x t h => hls t h ty
  clear ha hb oa ob ta tb hT ca cb cx cy tca tcb tx ty okx oky bx bY tbx tby big hls HLs l1 l2
  generalize dfA A B = at' at *
  generalize dfL A B = D at *
  generalize dfE A B = en at *
  generalize dfX A B = X at *
  generalize dfY A B = Y at *
  generalize cleanP A = P at *
  generalize cleanP B = Q at *
  generalize bwP X = X' at *
  generalize bwP Y = Y' at *
  generalize lenL X = lx at *
  generalize lenL Y = ly at *
  generalize lenL P = lp at *
  generalize lenL Q = lq at *
  have n1 : IntKind.i64.wrap ((lx : Int) - (en : Int)) = (lx : Int) - (en : Int) := by rw [IntKind.wrap_i64]; omega
  have n2 : IntKind.i64.wrap ((ly : Int) - (en : Int)) = (ly : Int) - (en : Int) := by rw [IntKind.wrap_i64]; omega
  go_enter Tryz.func25, Tryz.ntmps25
  go_wp2_with fail
  refine (C1.out _ (Touch.refl _ _)).mono ?_
  rintro e W1 ⟨x1, rfl, s1, t1⟩
  have S1 : Hid (SlRn W1 x1 P ∧ Touch (fun _ => False) w W1) := ⟨s1, t1⟩
  clear s1 t1 C1
  go_wp2_with fail
  refine (C2.out _ S1.out.2).mono ?_
  rintro e W2 ⟨x2, rfl, s2, t2⟩
  have S2 : Hid (SlRn W2 x1 P ∧ SlRn W2 x2 Q ∧ Touch (fun _ => False) w W2) := ⟨S1.out.1.touch t2, s2, S1.out.2.trans t2⟩
  clear s2 t2 C2 S1
  go_wp2_with fail
  refine (C3.out _ _ _ S2.out.2.2 S2.out.1 S2.out.2.1).mono ?_
  rintro e W3 ⟨rfl, t3⟩
  have S3 : Hid (SlRn W3 x1 P ∧ SlRn W3 x2 Q ∧ Touch (fun _ => False) w W3) := ⟨S2.out.1.touch t3, S2.out.2.1.touch t3, S2.out.2.2.trans t3⟩
  clear t3 C3 S2
  go_wp2_with fail
  refine (L1.out _ _ S3.out.2.2 S3.out.1).mono ?_
  rintro e W4 ⟨rfl, t4⟩
  have S4 : Hid (SlRn W4 x1 P ∧ SlRn W4 x2 Q ∧ Touch (fun _ => False) w W4) := ⟨S3.out.1.touch t4, S3.out.2.1.touch t4, S3.out.2.2.trans t4⟩
  clear t4 L1 S3
  go_wp2_with fail
  refine (C4.out _ _ S4.out.2.2 S4.out.1).mono ?_
  rintro e W5 ⟨x3, rfl, s5, t5⟩
  have S5 : Hid (SlRn W5 x3 X ∧ SlRn W5 x2 Q ∧ Touch (fun _ => False) w W5) := ⟨s5, S4.out.2.1.touch t5, S4.out.2.2.trans t5⟩
  clear s5 t5 C4 S4
  go_wp2_with fail
  refine (L2.out _ _ S5.out.2.2 S5.out.2.1).mono ?_
  rintro e W6 ⟨rfl, t6⟩
  have S6 : Hid (SlRn W6 x3 X ∧ SlRn W6 x2 Q ∧ Touch (fun _ => False) w W6) := ⟨S5.out.1.touch t6, S5.out.2.1.touch t6, S5.out.2.2.trans t6⟩
  clear t6 L2 S5
  go_wp2_with fail
  refine (C5.out _ _ S6.out.2.2 S6.out.2.1).mono ?_
  rintro e W7 ⟨x4, rfl, s7, t7⟩
  have S7 : Hid (SlRn W7 x3 X ∧ SlRn W7 x4 Y ∧ Touch (fun _ => False) w W7) := ⟨S6.out.1.touch t7, s7, S6.out.2.2.trans t7⟩
  clear s7 t7 C5 S6
  go_wp2_with fail
  refine (C6.out _ _ S7.out.1).mono ?_
  rintro e W8 ⟨x5, rfl, s8, t8⟩
  have S8 : Hid (SlRn W8 x3 X ∧ SlRn W8 x4 Y ∧ SlRn W8 x5 X' ∧ Touch (fun _ => False) w W8) := ⟨S7.out.1.touch t8, S7.out.2.1.touch t8, s8, S7.out.2.2.trans t8⟩
  clear s8 t8 C6 S7
  go_wp2_with fail
  refine (C7.out _ _ S8.out.2.1).mono ?_
  rintro e W9 ⟨x6, rfl, s9, t9⟩
  have S9 : Hid (SlRn W9 x3 X ∧ SlRn W9 x4 Y ∧ SlRn W9 x5 X' ∧ SlRn W9 x6 Y' ∧ Touch (fun _ => False) w W9) := ⟨S8.out.1.touch t9, S8.out.2.1.touch t9, S8.out.2.2.1.touch t9, s9, S8.out.2.2.2.trans t9⟩
  clear s9 t9 C7 S8
  go_wp2_with fail
  refine (C8.out _ _ _ S9.out.2.2.2.2 S9.out.2.2.1 S9.out.2.2.2.1).mono ?_
  rintro e W10 ⟨rfl, t10⟩
  have S10 : Hid (SlRn W10 x3 X ∧ SlRn W10 x4 Y ∧ Touch (fun _ => False) w W10) := ⟨S9.out.1.touch t10, S9.out.2.1.touch t10, S9.out.2.2.2.2.trans t10⟩
  clear t10 C8 S9
  go_wp2_with fail
  refine (L3.out _ _ S10.out.2.2 S10.out.1).mono ?_
  rintro e W11 ⟨rfl, t11⟩
  have S11 : Hid (SlRn W11 x4 Y ∧ Touch (fun _ => False) w W11) := ⟨S10.out.2.1.touch t11, S10.out.2.2.trans t11⟩
  clear t11 L3 S10
  go_wp2_with fail
  refine (L4.out _ _ S11.out.2 S11.out.1).mono ?_
  rintro e W12 ⟨rfl, t12⟩
  have S12 : Hid (SlRn W12 x4 Y ∧ Touch (fun _ => False) w W12) := ⟨S11.out.1.touch t12, S11.out.2.trans t12⟩
  clear t12 L4 S11
  go_wp2_with fail
  refine (C9.out _ _ S12.out.2 S12.out.1).mono ?_
  rintro e W13 ⟨x7, rfl, s13, t13⟩
  have S13 : Hid (SlRn W13 x7 D ∧ Touch (fun _ => False) w W13) := ⟨s13, S12.out.2.trans t13⟩
  clear s13 t13 C9 S12
  go_wp2_with fail
  go_ret3
  exact ⟨x7, rfl, S13.out.1, S13.out.2⟩
end Go.Proofs.YtijkekkjiboomaaGreatDoor

/- The contracts of quireref2: order, ints, Cmp. -/
namespace Go.Proofs.YtijkekkjiboomaaGreatDoor
open Go.RowKit
set_option linter.unusedVariables false

theorem i64_low63 (f : Nat) (h0 : ¬ f < 9223372036854775808) (h1 : f < 18446744073709551616) : wrap64 (-1 - bits .and .i64 (wrap64 (f : Int)) 9223372036854775807) = 9223372036854775807 - (f : Int) := by
  have e : wrap64 (f : Int) = (f : Int) - 18446744073709551616 := by rw [wrap64]; omega
  have e2 : bits .and .i64 ((f : Int) - 18446744073709551616) 9223372036854775807 = (f : Int) - 9223372036854775808 := by
    show IntKind.i64.wrap ((BitVec.ofInt 64 ((f : Int) - 18446744073709551616) &&& BitVec.ofInt 64 9223372036854775807).toNat : Int) = _
    have h2 : (BitVec.ofInt 64 ((f : Int) - 18446744073709551616)).toNat = f := by
      rw [BitVec.toNat_ofInt]; omega
    have h3 : (BitVec.ofInt 64 9223372036854775807).toNat = 9223372036854775807 := by decide
    rw [BitVec.toNat_and, h2, h3, show (9223372036854775807 : Nat) = 2 ^ 63 - 1 from by decide, Nat.and_two_pow_sub_one_eq_mod, IntKind.wrap_i64]
    omega
  rw [e, e2, wrap64]; omega

set_option maxHeartbeats 400000 in
theorem ref_order (f : Nat) (hf : f < 18446744073709551616) (w : World) : Calls Tryz.prog 90 #[.float .f64 f] w fun e w' => e = .returned (.int .i64 (refOrder f)) ∧ w' = w := by
  have h1 := f64bits_run
  have h2 := self_neq f
  cases h : isNaN f
  · rw [h] at h2
    by_cases hs : f < 9223372036854775808
    · have HE : Hid (refOrder f = f) := by simp [Hid, refOrder, h, hs]
      have h3 : wrap64 (f : Int) = f := by rw [wrap64]; omega
      go_enter Tryz.func90, Tryz.ntmps90
      go_wp2
      go_ret
      exact ⟨congrArg (fun x : Int => Ending.returned (.int .i64 x)) HE.out.symm, rfl⟩
    · have HE : Hid (refOrder f = wrap64 (-1 - bits .and .i64 (wrap64 (f : Int)) 9223372036854775807)) := by
        rw [Hid, i64_low63 f hs hf]; simp [refOrder, h, hs]
      have h3 : wrap64 (f : Int) < 0 := by rw [wrap64]; omega
      go_enter Tryz.func90, Tryz.ntmps90
      go_wp2
      go_ret
      exact ⟨congrArg (fun x : Int => Ending.returned (.int .i64 x)) HE.out.symm, rfl⟩
  · rw [h] at h2
    have HE : Hid (refOrder f = 9223372036854775807) := by simp [Hid, refOrder, h]
    go_enter Tryz.func90, Tryz.ntmps90
    go_wp2
    go_ret
    exact ⟨congrArg (fun x : Int => Ending.returned (.int .i64 x)) HE.out.symm, rfl⟩

set_option maxHeartbeats 400000 in
theorem ref_ints (a b : Int) (w : World) : Calls Tryz.prog 89 #[.int .i64 a, .int .i64 b] w fun e w' => e = .returned (.int .i64 (refInts a b)) ∧ w' = w := by
  by_cases h1 : a < b
  · have HE : Hid (refInts a b = -1) := by simp [Hid, refInts, h1]
    go_enter Tryz.func89, Tryz.ntmps89
    go_wp2
    go_ret
    exact ⟨congrArg (fun x : Int => Ending.returned (.int .i64 x)) HE.out.symm, rfl⟩
  · by_cases h2 : b < a
    · have HE : Hid (refInts a b = 1) := by simp [Hid, refInts, h1, h2]
      go_enter Tryz.func89, Tryz.ntmps89
      go_wp2
      go_ret
      exact ⟨congrArg (fun x : Int => Ending.returned (.int .i64 x)) HE.out.symm, rfl⟩
    · have HE : Hid (refInts a b = 0) := by simp [Hid, refInts, h1, h2]
      go_enter Tryz.func89, Tryz.ntmps89
      go_wp2
      go_ret
      exact ⟨congrArg (fun x : Int => Ending.returned (.int .i64 x)) HE.out.symm, rfl⟩

set_option maxRecDepth 100000 in
set_option maxHeartbeats 1000000 in
theorem ref_cmp (a b : V) (hfa : a.f < 18446744073709551616) (hfb : b.f < 18446744073709551616) (w : World) : Calls Tryz.prog 68 #[a.val, b.val] w fun e w' => e = .returned (.int .i64 (refCmp a b)) ∧ Touch (fun _ => False) w w' := by
  obtain ⟨k, n, f, s⟩ := a
  obtain ⟨k2, n2, f2, s2⟩ := b
  simp only [V.val] at *
  have HC : Hid (refCmp ⟨k, n, f, s⟩ ⟨k2, n2, f2, s2⟩ = if refInts k k2 ≠ 0 then refInts k k2 else if refInts n n2 ≠ 0 then refInts n n2 else if refInts (refOrder f) (refOrder f2) ≠ 0 then refInts (refOrder f) (refOrder f2) else refText s s2) := rfl
  generalize refCmp ⟨k, n, f, s⟩ ⟨k2, n2, f2, s2⟩ = C at *
  have HT : Hid (Touch (fun _ => False) w ((w.alloc (.cells #[.int .i64 k, .int .i64 n, .float .f64 f, .string s] 43)).alloc (.cells #[.int .i64 k2, .int .i64 n2, .float .f64 f2, .string s2] 43))) := ((Touch.refl _ _).alloc _).alloc _
  go_enter Tryz.func68, Tryz.ntmps68
  go_wp2_with fail
  refine (ref_ints k k2 _).mono ?_
  rintro e w1 ⟨rfl, rfl⟩
  generalize refInts k k2 = c1 at *
  by_cases h1 : c1 = 0
  · have t1 : (c1 == 0) = true := by rw [h1]; rfl
    have H1 : Hid (c1 = 0) := h1
    clear h1
    go_wp2_with fail
    refine (ref_ints n n2 _).mono ?_
    rintro e w2 ⟨rfl, rfl⟩
    generalize refInts n n2 = c2 at *
    by_cases h2 : c2 = 0
    · have t2 : (c2 == 0) = true := by rw [h2]; rfl
      have H2 : Hid (c2 = 0) := h2
      clear h2
      have HO : Hid (∀ w, Calls Tryz.prog 90 #[.float .f64 f] w fun e w' => e = .returned (.int .i64 (refOrder f)) ∧ w' = w) := ref_order f hfa
      have HO2 : Hid (∀ w, Calls Tryz.prog 90 #[.float .f64 f2] w fun e w' => e = .returned (.int .i64 (refOrder f2)) ∧ w' = w) := ref_order f2 hfb
      go_wp2_with fail
      go_quiet (first | (go_at_call_of 90 (Value.float FloatKind.f64 f); exact Calls.quiet_of_same (HO.out _)) | (go_at_call_of 90 (Value.float FloatKind.f64 f2); exact Calls.quiet_of_same (HO2.out _)) | (go_at_call 89; exact Calls.quiet_of_same (ref_ints _ _ _)))
      have HT3 : Hid (Touch (fun _ => False) w ((((w.alloc (.cells #[.int .i64 k, .int .i64 n, .float .f64 f, .string s] 43)).alloc (.cells #[.int .i64 k2, .int .i64 n2, .float .f64 f2, .string s2] 43))).drewN nq)) := HT.out.drewN _
      generalize refInts (refOrder f) (refOrder f2) = c3 at *
      by_cases h3 : c3 = 0
      · have t3 : (c3 != 0) = false := by rw [h3]; rfl
        have HE : Hid (C = refText s s2) := by rw [Hid, HC.out, if_neg (by simpa using H1.out), if_neg (by simpa using H2.out), if_neg (by simpa using h3)]
        clear h3 HO HO2
        cases h4 : Op.bytesLess s.toList s2.toList
        · cases h5 : (s.toList == s2.toList)
          · have HF : Hid (C = 1) := by rw [Hid, HE.out, refText, h4, h5]; rfl
            go_wp2_with fail
            go_ret
            exact ⟨congrArg (fun x : Int => Ending.returned (.int .i64 x)) HF.out.symm, HT3.out⟩
          · have HF : Hid (C = 0) := by rw [Hid, HE.out, refText, h4, h5]; rfl
            go_wp2_with fail
            go_ret
            exact ⟨congrArg (fun x : Int => Ending.returned (.int .i64 x)) HF.out.symm, HT3.out⟩
        · have HF : Hid (C = -1) := by rw [Hid, HE.out, refText, h4]; rfl
          go_wp2_with fail
          go_ret
          exact ⟨congrArg (fun x : Int => Ending.returned (.int .i64 x)) HF.out.symm, HT3.out⟩
      · have t3 : (c3 != 0) = true := by rw [bne_iff_ne]; exact h3
        have HE : Hid (C = c3) := by rw [Hid, HC.out, if_neg (by simpa using H1.out), if_neg (by simpa using H2.out), if_pos h3]
        go_wp2_with fail
        go_ret
        exact ⟨congrArg (fun x : Int => Ending.returned (.int .i64 x)) HE.out.symm, HT3.out⟩
    · have t2 : (c2 == 0) = false := by rw [beq_eq_false_iff_ne]; exact h2
      have t3 : (c2 != 0) = true := by rw [bne_iff_ne]; exact h2
      have HE : Hid (C = c2) := by rw [Hid, HC.out, if_neg (by simpa using H1.out), if_pos h2]
      go_wp2_with fail
      go_ret
      exact ⟨congrArg (fun x : Int => Ending.returned (.int .i64 x)) HE.out.symm, HT.out⟩
  · have t1 : (c1 == 0) = false := by rw [beq_eq_false_iff_ne]; exact h1
    have t2 : (c1 != 0) = true := by rw [bne_iff_ne]; exact h1
    have HE : Hid (C = c1) := by rw [Hid, HC.out, if_pos h1]
    go_wp2_with fail
    go_ret
    exact ⟨congrArg (fun x : Int => Ending.returned (.int .i64 x)) HE.out.symm, HT.out⟩
end Go.Proofs.YtijkekkjiboomaaGreatDoor
