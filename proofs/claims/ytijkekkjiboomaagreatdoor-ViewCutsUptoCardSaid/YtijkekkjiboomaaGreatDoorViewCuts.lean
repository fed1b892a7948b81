/- quirelaw14.ViewCuts. -/
import Derived.Test.YtijkekkjiboomaaGreatDoorPart27
namespace Go.Proofs.YtijkekkjiboomaaGreatDoor
open Go.RowKit Go.Maps
set_option linter.unusedVariables false
set_option linter.unusedSimpArgs false
set_option maxRecDepth 100000

set_option maxHeartbeats 32000000 in
theorem viewCuts_any {w : World} {va vl : Value} {A L : List Rn} (ha : ArgR w va A) (hl : ArgR w vl L) (hU : TabsU w) (hI : TabsI w) (pt n : Int) (hp : -9223372036854775808 ≤ pt ∧ pt ≤ 9223372036854775807) (hn : -9223372036854775808 ≤ n ∧ n ≤ 9223372036854775807) :
    Calls Tryz.prog 4 #[va, vl, .int .i64 pt, .int .i64 n] w fun e w' => e = .returned (.bool true) ∧ Touch (fun _ => False) w w' := by
  obtain ⟨ao, ca, rfl, -, -, -⟩ := ha.r.shape
  obtain ⟨lo, cl, rfl, -, -, -⟩ := hl.r.shape
  have HKn : Hid (Calls Tryz.prog 8 #[] w fun e w' => e = .returned (.bool true) ∧ Touch (fun _ => False) w w') := known_any w hU hI
  have HLa : Hid (∀ W, Touch (fun _ => False) w W → Calls Tryz.prog 9 #[.slice ao A.length ca] W (LtPost A W)) := fun W t => light_any (ha.r.touch t) ha.b
  have HLb : Hid (∀ W, Touch (fun _ => False) w W → Calls Tryz.prog 9 #[.slice lo L.length cl] W (LtPost L W)) := fun W t => light_any (hl.r.touch t) hl.b
  have HAr : Hid (ArgR w (.slice ao A.length ca) A ∧ ArgR w (.slice lo L.length cl) L ∧ TabsU w) := ⟨ha, hl, hU⟩
  clear ha hl hU hI
  go_enter Tryz.func4, Tryz.ntmps4
  go_wp2_with fail
  refine HKn.out.mono ?_
  rintro e W1 ⟨rfl, t1⟩
  have T1 : Hid (Touch (fun _ => False) w W1) := t1
  clear t1 HKn
  go_wp2_with fail
  refine (HLa.out _ T1.out).mono ?_
  rintro e W2 ⟨r, rfl, hr, t2⟩
  have T2 : Hid (Touch (fun _ => False) w W2) := T1.out.trans t2
  clear t2 T1 HLa
  cases r with
  | false =>
    clear hr HLb HAr
    go_wp2_with fail
    go_ret
    exact ⟨rfl, T2.out⟩
  | true =>
    have HA : Hid (LightP A) := hr rfl
    clear hr
    go_wp2_with fail
    refine (HLb.out _ T2.out).mono ?_
    rintro e W3 ⟨r, rfl, hr, t3⟩
    have T3 : Hid (Touch (fun _ => False) w W3) := T2.out.trans t3
    clear t3 T2 HLb
    cases r with
    | false =>
      clear hr HAr HA
      go_wp2_with fail
      go_ret
      exact ⟨rfl, T3.out⟩
    | true =>
      have la := lt_of HAr.out.1 HA.out
      have ll := lt_of HAr.out.2.1 (hr rfl)
      have hA := HAr.out.1.r
      have hL := HAr.out.2.1.r
      have hU := HAr.out.2.2
      clear HA hr
      have cA := cleanP_cn la.ok
      have tA : tot A ≤ 1048576 := Nat.le_trans la.t (by omega)
      have tL : tot L ≤ 1048576 := Nat.le_trans ll.t (by omega)
      have hlen : ∀ B : List Rn, tot B ≤ 1048576 → B.length ≤ 1048576 := tot_list
      have HIn : Hid (∃ ao' c' W', (Builtin.append_ #[22, 22] 22 #[.slice none 0 0, .slice ao A.length ca]).run Tryz.prog W3 = .ok (.slice ao' A.length c') W' ∧ SlRn W' (.slice ao' A.length c') A ∧ Touch (fun _ => False) w W') := by
        obtain ⟨a1, c1, W', hr1, n1⟩ := (Nu.nil W3 (Touch.refl (fun _ => False) W3)).apps (hA.touch T3.out) (by have := la.n; simp; omega)
        simp only [List.nil_append, List.length_nil, Nat.zero_add] at hr1 n1
        exact ⟨a1, c1, W', hr1, n1.sl, T3.out.trans n1.t⟩
      have HCl : Hid (∀ W v, Touch (fun _ => False) w W → SlRn W v A → Calls Tryz.prog 18 #[v] W fun e w' => ∃ o c, e = .returned (.slice o (cleanP A).length c) ∧ Hid (SlRn w' (.slice o (cleanP A).length c) (cleanP A) ∧ Touch (fun _ => False) W w')) := fun W v t s => (clean_any s la.ok tA (hU.keep t)).mono fun e w' ⟨v', q1, q2, q3⟩ => by
        obtain ⟨o, c, rfl, -⟩ := q2.shape
        exact ⟨o, c, q1, q2, q3⟩
      have tC : tot (cleanP A) ≤ 1048576 := Nat.le_trans (cleanP_tot A) tA
      have HC2 : Hid (∀ W v, Touch (fun _ => False) w W → SlRn W v (cleanP A) → Calls Tryz.prog 18 #[v] W fun e w' => ∃ o c, e = .returned (.slice o (cleanP A).length c) ∧ Hid (SlRn w' (.slice o (cleanP A).length c) (cleanP A) ∧ Touch (fun _ => False) W w')) := fun W v t s => (clean_any s cA.okL tC (hU.keep t)).mono fun e w' ⟨v', q1, q2, q3⟩ => by
        rw [clean_twice la.ok] at q2
        obtain ⟨o, c, rfl, -⟩ := q2.shape
        exact ⟨o, c, q1, q2, q3⟩
      have HQc : Hid (∀ W, Touch (fun _ => False) w W → Calls Tryz.prog 20 #[.slice ao A.length ca] W fun e w' => ∃ o c, e = .returned (.slice o (cleanR A).length c) ∧ Hid (SlRn w' (.slice o (cleanR A).length c) (cleanR A) ∧ Touch (fun _ => False) W w')) := fun W t => (qclean_any (hA.touch t) la.ok.dbl tA).mono fun e w' ⟨v', q1, q2, q3⟩ => by
        obtain ⟨o, c, rfl, -⟩ := q2.shape
        exact ⟨o, c, q1, q2, q3⟩
      obtain ⟨nA, oA⟩ := cleanR_nrm la.ok
      have tR : (cleanR A).length ≤ 1048576 := by
        have := congrArg List.length nA
        rw [List.length_map] at this
        rw [this]; exact hlen _ tC
      have HS1 : Hid (∀ W a b, SlRn W a (cleanP A) → SlRn W b (cleanR A) → Calls Tryz.prog 19 #[a, b] W fun e w' => e = .returned (.bool true) ∧ Touch (fun _ => False) W w') := fun W a b h1 h2 => by
        have h := same_any h1 h2 (cn_dbl cA) (OkL.dbl oA) (hlen _ tC) tR
        rw [same_join cA nA (OkL.dbl oA)] at h
        exact h
      have HS2 : Hid (∀ W a b, SlRn W a (cleanP A) → SlRn W b (cleanP A) → Calls Tryz.prog 19 #[a, b] W fun e w' => e = .returned (.bool true) ∧ Touch (fun _ => False) W w') := fun W a b h1 h2 => by
        have h := same_any h1 h2 (cn_dbl cA) (cn_dbl cA) (hlen _ tC) (hlen _ tC)
        rw [sameRL_self (cn_dbl cA)] at h
        exact h
      have HS3 : Hid (∀ W a b, SlRn W a A → SlRn W b A → Calls Tryz.prog 19 #[a, b] W fun e w' => e = .returned (.bool true) ∧ Touch (fun _ => False) W w') := fun W a b h1 h2 => by
        have h := same_any h1 h2 la.ok.dbl la.ok.dbl (hlen _ tA) (hlen _ tA)
        rw [sameRL_self la.ok.dbl] at h
        exact h
      have cK := cutP_cn la.ok pt n
      have tK : (cutP A pt n).length ≤ 1048576 := hlen _ (Nat.le_trans (cutP_tot A pt n) tA)
      obtain ⟨nK, oK⟩ := cutRf_nrm la.ok pt n
      have tKr : (cutRf A pt n).length ≤ 1048576 := by
        have := congrArg List.length nK
        rw [List.length_map] at this
        rw [this]; exact tK
      have HCu : Hid (∀ W, Touch (fun _ => False) w W → Calls Tryz.prog 21 #[.slice ao A.length ca, .int .i64 pt, .int .i64 n] W fun e w' => ∃ o c, e = .returned (.slice o (cutP A pt n).length c) ∧ Hid (SlRn w' (.slice o (cutP A pt n).length c) (cutP A pt n) ∧ Touch (fun _ => False) W w')) := fun W t => (cut_any (hA.touch t) la.ok tA (hU.keep t) pt n hp hn).mono fun e w' ⟨v', q1, q2, q3⟩ => by
        obtain ⟨o, c, rfl, -⟩ := q2.shape
        exact ⟨o, c, q1, q2, q3⟩
      have HQu : Hid (∀ W, Touch (fun _ => False) w W → Calls Tryz.prog 22 #[.slice ao A.length ca, .int .i64 pt, .int .i64 n] W fun e w' => ∃ o c, e = .returned (.slice o (cutRf A pt n).length c) ∧ Hid (SlRn w' (.slice o (cutRf A pt n).length c) (cutRf A pt n) ∧ Touch (fun _ => False) W w')) := fun W t => (qcut_any (hA.touch t) la.ok tA (by have := la.u; omega) pt n).mono fun e w' ⟨v', q1, q2, q3⟩ => by
        obtain ⟨o, c, rfl, -⟩ := q2.shape
        exact ⟨o, c, q1, q2, q3⟩
      have HS4 : Hid (∀ W a b, SlRn W a (cutP A pt n) → SlRn W b (cutRf A pt n) → Calls Tryz.prog 19 #[a, b] W fun e w' => e = .returned (.bool true) ∧ Touch (fun _ => False) W w') := fun W a b h1 h2 => by
        have h := same_any h1 h2 (cn_dbl cK) (OkL.dbl oK) tK tKr
        rw [same_join cK nK (OkL.dbl oK)] at h
        exact h
      have cP := patchP_cn la.ok ll.ok pt n
      have tP : (patchP A pt n L).length ≤ 1048576 := by
        have h1 := cutP_tot A 0 (patAt A pt)
        have h2 := cutP_tot A (patAt A pt + patN A pt n) (lenL A)
        have h3 : tot (patchP A pt n L) ≤ tot (cutP A 0 (patAt A pt) ++ L ++ cutP A (patAt A pt + patN A pt n) (lenL A)) := cleanP_tot _
        rw [tot_append, tot_append] at h3
        have h4 := la.t
        have h5 := ll.t
        exact hlen _ (by omega)
      obtain ⟨nP, oP⟩ := patchRf_nrm la.ok ll.ok pt n
      have tPr : (patchRf A pt n L).length ≤ 1048576 := by
        have := congrArg List.length nP
        rw [List.length_map] at this
        rw [this]; exact tP
      have HPa : Hid (∀ W, Touch (fun _ => False) w W → Calls Tryz.prog 23 #[.slice ao A.length ca, .int .i64 pt, .int .i64 n, .slice lo L.length cl] W fun e w' => ∃ o c, e = .returned (.slice o (patchP A pt n L).length c) ∧ Hid (SlRn w' (.slice o (patchP A pt n L).length c) (patchP A pt n L) ∧ Touch (fun _ => False) W w')) := fun W t => (patch_any (hA.touch t) (hL.touch t) la.ok ll.ok (by have := la.t; omega) (by have := ll.t; omega) (hU.keep t) pt n hp hn).mono fun e w' ⟨v', q1, q2, q3⟩ => by
        obtain ⟨o, c, rfl, -⟩ := q2.shape
        exact ⟨o, c, q1, q2, q3⟩
      have HQp : Hid (∀ W, Touch (fun _ => False) w W → Calls Tryz.prog 24 #[.slice ao A.length ca, .int .i64 pt, .int .i64 n, .slice lo L.length cl] W fun e w' => ∃ o c, e = .returned (.slice o (patchRf A pt n L).length c) ∧ Hid (SlRn w' (.slice o (patchRf A pt n L).length c) (patchRf A pt n L) ∧ Touch (fun _ => False) W w')) := fun W t => (qpatch_any (hA.touch t) (hL.touch t) la.ok ll.ok tA (by have := la.u; have := ll.t; omega) pt n).mono fun e w' ⟨v', q1, q2, q3⟩ => by
        obtain ⟨o, c, rfl, -⟩ := q2.shape
        exact ⟨o, c, q1, q2, q3⟩
      have HS5 : Hid (∀ W a b, SlRn W a (patchP A pt n L) → SlRn W b (patchRf A pt n L) → Calls Tryz.prog 19 #[a, b] W fun e w' => e = .returned (.bool true) ∧ Touch (fun _ => False) W w') := fun W a b h1 h2 => by
        have h := same_any h1 h2 (cn_dbl cP) (OkL.dbl oP) tP tPr
        rw [same_join cP nP (OkL.dbl oP)] at h
        exact h
      have HAs : Hid (∀ W, Touch (fun _ => False) w W → SlRn W (.slice ao A.length ca) A) := fun W t => hA.touch t
      clear la ll hA hL hU cA tA tL hlen tC nA oA tR cK tK nK oK tKr cP tP nP oP tPr HAr hp hn
      generalize cleanP A = c1 at *
      generalize cleanR A = c2 at *
      generalize cutP A pt n = c3 at *
      generalize cutRf A pt n = c4 at *
      generalize patchP A pt n L = c5 at *
      generalize patchRf A pt n L = c6 at *
      obtain ⟨a1, k1, W4, hrun, hs4⟩ := HIn.out
      have H4 : Hid (SlRn W4 (.slice a1 A.length k1) A ∧ Touch (fun _ => False) w W4) := hs4
      clear HIn hs4
      generalize A.length = nA at *
      generalize L.length = nL at *
      go_wp2_with (at_builtin; refine wpList_append_runW rfl _ _ rfl _ _ _ rfl rfl hrun ?_)
      clear hrun T3
      refine (HCl.out _ _ H4.out.2 H4.out.1).mono ?_
      rintro e W5 ⟨o5, k5, rfl, q5⟩
      have T5 : Hid (Touch (fun _ => False) w W5 ∧ SlRn W5 (.slice a1 nA k1) A ∧ SlRn W5 (.slice o5 c1.length k5) c1) := ⟨H4.out.2.trans q5.out.2, H4.out.1.touch q5.out.2, q5.out.1⟩
      clear q5 H4 HCl
      go_wp2_with fail
      refine (HQc.out _ T5.out.1).mono ?_
      rintro e W6 ⟨o6, k6, rfl, q6⟩
      have T6 : Hid (Touch (fun _ => False) w W6 ∧ SlRn W6 (.slice a1 nA k1) A ∧ SlRn W6 (.slice o5 c1.length k5) c1) := ⟨T5.out.1.trans q6.out.2, T5.out.2.1.touch q6.out.2, T5.out.2.2.touch q6.out.2⟩
      clear HQc T5
      go_wp2_with fail
      refine (HS1.out _ _ _ T6.out.2.2 q6.out.1).mono ?_
      rintro e W7 ⟨rfl, t7⟩
      have T7 : Hid (Touch (fun _ => False) w W7 ∧ SlRn W7 (.slice a1 nA k1) A ∧ SlRn W7 (.slice o5 c1.length k5) c1) := ⟨T6.out.1.trans t7, T6.out.2.1.touch t7, T6.out.2.2.touch t7⟩
      clear q6 T6 t7 HS1
      go_wp2_with fail
      refine (HC2.out _ _ T7.out.1 T7.out.2.2).mono ?_
      rintro e W8 ⟨o8, k8, rfl, q8⟩
      have T8 : Hid (Touch (fun _ => False) w W8 ∧ SlRn W8 (.slice a1 nA k1) A ∧ SlRn W8 (.slice o5 c1.length k5) c1) := ⟨T7.out.1.trans q8.out.2, T7.out.2.1.touch q8.out.2, T7.out.2.2.touch q8.out.2⟩
      clear T7 HC2
      go_wp2_with fail
      refine (HS2.out _ _ _ q8.out.1 T8.out.2.2).mono ?_
      rintro e W9 ⟨rfl, t9⟩
      have T9 : Hid (Touch (fun _ => False) w W9 ∧ SlRn W9 (.slice a1 nA k1) A) := ⟨T8.out.1.trans t9, T8.out.2.1.touch t9⟩
      clear q8 T8 t9 HS2
      go_wp2_with fail
      refine (HS3.out _ _ _ T9.out.2 (HAs.out _ T9.out.1)).mono ?_
      rintro e W10 ⟨rfl, t10⟩
      have T10 : Hid (Touch (fun _ => False) w W10) := T9.out.1.trans t10
      clear T9 t10 HS3 HAs
      go_wp2_with fail
      refine (HCu.out _ T10.out).mono ?_
      rintro e W11 ⟨o11, k11, rfl, q11⟩
      have T11 : Hid (Touch (fun _ => False) w W11) := T10.out.trans q11.out.2
      clear T10 HCu
      go_wp2_with fail
      refine (HQu.out _ T11.out).mono ?_
      rintro e W12 ⟨o12, k12, rfl, q12⟩
      have T12 : Hid (Touch (fun _ => False) w W12 ∧ SlRn W12 (.slice o11 c3.length k11) c3) := ⟨T11.out.trans q12.out.2, q11.out.1.touch q12.out.2⟩
      clear T11 HQu q11
      go_wp2_with fail
      refine (HS4.out _ _ _ T12.out.2 q12.out.1).mono ?_
      rintro e W13 ⟨rfl, t13⟩
      have T13 : Hid (Touch (fun _ => False) w W13) := T12.out.1.trans t13
      clear T12 q12 t13 HS4
      go_wp2_with fail
      refine (HPa.out _ T13.out).mono ?_
      rintro e W14 ⟨o14, k14, rfl, q14⟩
      have T14 : Hid (Touch (fun _ => False) w W14) := T13.out.trans q14.out.2
      clear T13 HPa
      go_wp2_with fail
      refine (HQp.out _ T14.out).mono ?_
      rintro e W15 ⟨o15, k15, rfl, q15⟩
      have T15 : Hid (Touch (fun _ => False) w W15 ∧ SlRn W15 (.slice o14 c5.length k14) c5) := ⟨T14.out.trans q15.out.2, q14.out.1.touch q15.out.2⟩
      clear T14 HQp q14
      go_wp2_with fail
      refine (HS5.out _ _ _ T15.out.2 q15.out.1).mono ?_
      rintro e W16 ⟨rfl, t16⟩
      have T16 : Hid (Touch (fun _ => False) w W16) := T15.out.1.trans t16
      clear T15 q15 t16 HS5
      go_wp2_with fail
      go_ret
      exact ⟨rfl, T16.out⟩
end Go.Proofs.YtijkekkjiboomaaGreatDoor
