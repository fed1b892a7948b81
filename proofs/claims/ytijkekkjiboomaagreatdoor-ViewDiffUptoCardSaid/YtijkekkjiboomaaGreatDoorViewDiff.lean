/- quirelaw14.ViewDiff. -/
import Derived.Test.YtijkekkjiboomaaGreatDoorPart27
namespace Go.Proofs.YtijkekkjiboomaaGreatDoor
open Go.RowKit Go.Maps
set_option linter.unusedVariables false
set_option linter.unusedSimpArgs false
set_option maxRecDepth 100000

/-- The difference patches the one into the other. -/
theorem diff_patches {A B : List Rn} (ha : OkL A) (hb : OkL B) : patchP A (dfA A B : Int) ((lenL (dfX A B) : Int) - (dfE A B : Int)) (dfL A B) = cleanP B := by
  obtain ⟨hd, hx, hl⟩ := dfP_is ha hb
  have hu := nrmU_len A
  have b1 := hd.a.lx
  obtain ⟨e1, e2, -⟩ := hd.ends
  have hp := patchP_cn ha hl.okL (dfA A B : Int) ((lenL (dfX A B) : Int) - (dfE A B : Int))
  have k1 : (patAt A (dfA A B : Int)).toNat = dfA A B := by unfold patAt; omega
  have k2 : (patAt A (dfA A B : Int) + patN A (dfA A B : Int) ((lenL (dfX A B) : Int) - (dfE A B : Int))).toNat = dfA A B + ((nrmU A).length - dfA A B - dfE A B) := by
    unfold patN patAt; omega
  rw [k1, k2, hl.nrmU] at hp
  have e := hd.patch
  rw [List.append_assoc] at e hp
  rw [e] at hp
  exact hp.eq (cleanP_cn hb)
theorem tot_upto (L : List Rn) (n : Nat) : tot (L.take n) ≤ tot L := by
  have e : L = L.take n ++ L.drop n := (List.take_append_drop n L).symm
  conv => rhs; rw [e]
  rw [tot_append]; omega
/-- Both tell the same list. -/
theorem diff_list {A B : List Rn} (ha : OkL A) (hb : OkL B) : (cleanR (((unitsR B).take ((unitsR B).length - dfE A B)).drop (dfA A B))).map Rn.nrm = dfL A B ∧ OkL (cleanR (((unitsR B).take ((unitsR B).length - dfE A B)).drop (dfA A B))) := by
  obtain ⟨hd, hx, hl⟩ := dfP_is ha hb
  obtain ⟨o1, o2⟩ := unitsR_ones hb
  obtain ⟨o3, o4⟩ := o1.cut ((unitsR B).length - dfE A B) (dfA A B)
  obtain ⟨c1, c2⟩ := cleanR_nrm o3.okL
  refine ⟨?_, c2⟩
  rw [c1]
  have h2 := cleanP_cn o3.okL
  have e : unitsV ((((unitsR B).take ((unitsR B).length - dfE A B)).drop (dfA A B)).map Rn.nrm) = ((nrmU B).drop (dfA A B)).take ((nrmU B).length - dfA A B - dfE A B) := by
    show nrmU _ = _
    have hul : (unitsR B).length = (nrmU B).length := by rw [unitsR_len, nrmU_len]
    rw [o4, o2, hul, List.drop_take]
    congr 1
    omega
  rw [e] at h2
  exact h2.eq hl
set_option maxHeartbeats 32000000 in
theorem viewDiff_any {w : World} {va vb : Value} {A B : List Rn} (ha : ArgR w va A) (hb : ArgR w vb B) (hU : TabsU w) (hI : TabsI w) :
    Calls Tryz.prog 5 #[va, vb] w fun e w' => e = .returned (.bool true) ∧ Touch (fun _ => False) w w' := by
  obtain ⟨ao, ca, rfl, -, -, -⟩ := ha.r.shape
  obtain ⟨lo, cl, rfl, -, -, -⟩ := hb.r.shape
  have HKn : Hid (Calls Tryz.prog 8 #[] w fun e w' => e = .returned (.bool true) ∧ Touch (fun _ => False) w w') := known_any w hU hI
  have HLa : Hid (∀ W, Touch (fun _ => False) w W → Calls Tryz.prog 9 #[.slice ao A.length ca] W (LtPost A W)) := fun W t => light_any (ha.r.touch t) ha.b
  have HLb : Hid (∀ W, Touch (fun _ => False) w W → Calls Tryz.prog 9 #[.slice lo B.length cl] W (LtPost B W)) := fun W t => light_any (hb.r.touch t) hb.b
  have HAr : Hid (ArgR w (.slice ao A.length ca) A ∧ ArgR w (.slice lo B.length cl) B ∧ TabsU w) := ⟨ha, hb, hU⟩
  clear ha hb hU hI
  go_enter Tryz.func5, Tryz.ntmps5
  go_wp2_with fail
  refine HKn.out.mono ?_
  rintro e W1 ⟨rfl, t1⟩
  have T1 : Hid (Touch (fun _ => False) w W1) := t1
  clear t1 HKn
  go_wp2_with fail
  refine (HLa.out _ T1.out).mono ?_
  rintro e W2 ⟨r, rfl, hr, t2⟩
  have T2 : Hid (Touch (fun _ => False) w W2) := T1.out.trans t2
  clear t2 T1 HLa
  cases r with
  | false =>
    clear hr HLb HAr
    go_wp2_with fail
    go_ret
    exact ⟨rfl, T2.out⟩
  | true =>
    have HA : Hid (LightP A) := hr rfl
    clear hr
    go_wp2_with fail
    refine (HLb.out _ T2.out).mono ?_
    rintro e W3 ⟨r, rfl, hr, t3⟩
    have T3 : Hid (Touch (fun _ => False) w W3) := T2.out.trans t3
    clear t3 T2 HLb
    cases r with
    | false =>
      clear hr HAr HA
      go_wp2_with fail
      go_ret
      exact ⟨rfl, T3.out⟩
    | true =>
      have la := lt_of HAr.out.1 HA.out
      have lb := lt_of HAr.out.2.1 (hr rfl)
      have hA := HAr.out.1.r
      have hB := HAr.out.2.1.r
      have hU := HAr.out.2.2
      clear HA hr
      have cB := cleanP_cn lb.ok
      have tA : tot A ≤ 1048576 := Nat.le_trans la.t (by omega)
      have tB : tot B ≤ 1048576 := Nat.le_trans lb.t (by omega)
      have tC : tot (cleanP B) ≤ 1048576 := Nat.le_trans (cleanP_tot B) tB
      obtain ⟨jd1, jd2⟩ := diff_join la.ok lb.ok
      obtain ⟨hd, hx, hl⟩ := dfP_is la.ok lb.ok
      obtain ⟨nD, oD⟩ := diff_list la.ok lb.ok
      have hpat := diff_patches la.ok lb.ok
      have hnum : ((lenL (dfX A B) : Int) - (dfE A B : Int)) = (((unitsR A).length - dfA A B - dfE A B : Nat) : Int) := by
        have h1 := hd.ends.1
        have h2 : (unitsR A).length = (nrmU A).length := by rw [unitsR_len, nrmU_len]
        rw [hx, h2]; omega
      have tL : tot (dfL A B) ≤ 300000 := by
        have h1 : tot (dfL A B) ≤ tot (dfY A B) := cutP_tot _ _ _
        have h2 : tot (dfY A B) ≤ tot (cleanP B) := cutP_tot _ _ _
        have h3 := cleanP_tot B
        have h4 := lb.t
        omega
      have tD : (cleanR (((unitsR B).take ((unitsR B).length - dfE A B)).drop (dfA A B))).length ≤ 1048576 := by
        have := congrArg List.length nD
        rw [List.length_map] at this
        rw [this]; exact tot_list _ (by omega)
      have HDf : Hid (∀ W, Touch (fun _ => False) w W → Calls Tryz.prog 25 #[.slice ao A.length ca, .slice lo B.length cl] W fun e w' => ∃ o c, e = .returned (.tuple #[.int .i64 (dfA A B : Int), .int .i64 (((unitsR A).length - dfA A B - dfE A B : Nat) : Int), .slice o (dfL A B).length c]) ∧ Hid (SlRn w' (.slice o (dfL A B).length c) (dfL A B) ∧ Touch (fun _ => False) W w')) := fun W t => by
        have h := diff_any (hA.touch t) (hB.touch t) la.ok lb.ok tA tB (hU.keep t)
        rw [hnum] at h
        refine h.mono fun e w' ⟨v', q1, q2, q3⟩ => ?_
        obtain ⟨o, c, rfl, -⟩ := q2.shape
        exact ⟨o, c, q1, q2, q3⟩
      have HQd : Hid (∀ W, Touch (fun _ => False) w W → Calls Tryz.prog 26 #[.slice ao A.length ca, .slice lo B.length cl] W fun e w' => ∃ o c, e = .returned (.tuple #[.int .i64 (dfA A B : Int), .int .i64 (((unitsR A).length - dfA A B - dfE A B : Nat) : Int), .slice o (cleanR (((unitsR B).take ((unitsR B).length - dfE A B)).drop (dfA A B))).length c]) ∧ Hid (SlRn w' (.slice o (cleanR (((unitsR B).take ((unitsR B).length - dfE A B)).drop (dfA A B))).length c) (cleanR (((unitsR B).take ((unitsR B).length - dfE A B)).drop (dfA A B))) ∧ Touch (fun _ => False) W w')) := fun W t => by
        have h := qdiff_any (hA.touch t) (hB.touch t) la.ok lb.ok tA tB (by have := la.u; omega) (by have := lb.u; omega)
        rw [jd1, jd2] at h
        refine h.mono fun e w' ⟨v', q1, q2, q3⟩ => ?_
        obtain ⟨o, c, rfl, -⟩ := q2.shape
        exact ⟨o, c, q1, q2, q3⟩
      have HS1 : Hid (∀ W a b, SlRn W a (dfL A B) → SlRn W b (cleanR (((unitsR B).take ((unitsR B).length - dfE A B)).drop (dfA A B))) → Calls Tryz.prog 19 #[a, b] W fun e w' => e = .returned (.bool true) ∧ Touch (fun _ => False) W w') := fun W a b h1 h2 => by
        have h := same_any h1 h2 (cn_dbl hl) (OkL.dbl oD) (tot_list _ (by omega)) tD
        rw [same_join hl nD (OkL.dbl oD)] at h
        exact h
      have HPa : Hid (∀ W v, Touch (fun _ => False) w W → SlRn W v (dfL A B) → Calls Tryz.prog 23 #[.slice ao A.length ca, .int .i64 (dfA A B : Int), .int .i64 (((unitsR A).length - dfA A B - dfE A B : Nat) : Int), v] W fun e w' => ∃ o c, e = .returned (.slice o (cleanP B).length c) ∧ Hid (SlRn w' (.slice o (cleanP B).length c) (cleanP B) ∧ Touch (fun _ => False) W w')) := fun W v t hv => by
        have hul := unitsR_len A
        have hll := lenL_tot A
        have hal := hd.a.lx
        have hau := nrmU_len A
        have h := patch_any (hA.touch t) hv la.ok hl.okL (by have := la.t; omega) tL (hU.keep t) (dfA A B : Int) (((unitsR A).length - dfA A B - dfE A B : Nat) : Int) (by omega) (by omega)
        rw [← hnum, hpat] at h
        rw [← hnum]
        refine h.mono fun e w' ⟨v', q1, q2, q3⟩ => ?_
        obtain ⟨o, c, rfl, -⟩ := q2.shape
        exact ⟨o, c, q1, q2, q3⟩
      obtain ⟨nB, oB⟩ := cleanR_nrm lb.ok
      have tR : (cleanR B).length ≤ 1048576 := by
        have := congrArg List.length nB
        rw [List.length_map] at this
        rw [this]; exact tot_list _ tC
      have HQc : Hid (∀ W, Touch (fun _ => False) w W → Calls Tryz.prog 20 #[.slice lo B.length cl] W fun e w' => ∃ o c, e = .returned (.slice o (cleanR B).length c) ∧ Hid (SlRn w' (.slice o (cleanR B).length c) (cleanR B) ∧ Touch (fun _ => False) W w')) := fun W t => (qclean_any (hB.touch t) lb.ok.dbl tB).mono fun e w' ⟨v', q1, q2, q3⟩ => by
        obtain ⟨o, c, rfl, -⟩ := q2.shape
        exact ⟨o, c, q1, q2, q3⟩
      have HS2 : Hid (∀ W a b, SlRn W a (cleanP B) → SlRn W b (cleanR B) → Calls Tryz.prog 19 #[a, b] W fun e w' => e = .returned (.bool true) ∧ Touch (fun _ => False) W w') := fun W a b h1 h2 => by
        have h := same_any h1 h2 (cn_dbl cB) (OkL.dbl oB) (tot_list _ tC) tR
        rw [same_join cB nB (OkL.dbl oB)] at h
        exact h
      clear la lb hA hB hU cB tA tB tC jd1 jd2 hd hx hl nD oD hpat hnum tL tD nB oB tR HAr
      generalize cleanP B = c1 at *
      generalize cleanR B = c2 at *
      generalize (unitsR A).length - dfA A B - dfE A B = nn at *
      generalize cleanR (((unitsR B).take ((unitsR B).length - dfE A B)).drop (dfA A B)) = c4 at *
      generalize dfL A B = c3 at *
      generalize dfA A B = at_ at *
      generalize A.length = nA at *
      generalize B.length = nB at *
      go_wp2_with fail
      refine (HDf.out _ T3.out).mono ?_
      rintro e W4 ⟨o4, k4, rfl, q4⟩
      have T4 : Hid (Touch (fun _ => False) w W4) := T3.out.trans q4.out.2
      clear T3 HDf
      go_wp2_with fail
      refine (HQd.out _ T4.out).mono ?_
      rintro e W5 ⟨o5, k5, rfl, q5⟩
      have T5 : Hid (Touch (fun _ => False) w W5 ∧ SlRn W5 (.slice o4 c3.length k4) c3) := ⟨T4.out.trans q5.out.2, q4.out.1.touch q5.out.2⟩
      clear T4 HQd q4
      go_wp2_with fail
      refine (HS1.out _ _ _ T5.out.2 q5.out.1).mono ?_
      rintro e W6 ⟨rfl, t6⟩
      have T6 : Hid (Touch (fun _ => False) w W6 ∧ SlRn W6 (.slice o4 c3.length k4) c3) := ⟨T5.out.1.trans t6, T5.out.2.touch t6⟩
      clear T5 q5 t6 HS1
      go_wp2_with fail
      refine (HPa.out _ _ T6.out.1 T6.out.2).mono ?_
      rintro e W7 ⟨o7, k7, rfl, q7⟩
      have T7 : Hid (Touch (fun _ => False) w W7) := T6.out.1.trans q7.out.2
      clear T6 HPa
      go_wp2_with fail
      refine (HQc.out _ T7.out).mono ?_
      rintro e W8 ⟨o8, k8, rfl, q8⟩
      have T8 : Hid (Touch (fun _ => False) w W8 ∧ SlRn W8 (.slice o7 c1.length k7) c1) := ⟨T7.out.trans q8.out.2, q7.out.1.touch q8.out.2⟩
      clear T7 HQc q7
      go_wp2_with fail
      refine (HS2.out _ _ _ T8.out.2 q8.out.1).mono ?_
      rintro e W9 ⟨rfl, t9⟩
      have T9 : Hid (Touch (fun _ => False) w W9) := T8.out.1.trans t9
      clear T8 q8 t9 HS2
      go_wp2_with fail
      go_ret
      exact ⟨rfl, T9.out⟩
end Go.Proofs.YtijkekkjiboomaaGreatDoor
