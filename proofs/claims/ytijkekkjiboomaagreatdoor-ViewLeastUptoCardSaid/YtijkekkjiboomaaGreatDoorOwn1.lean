/- quirehelp.Place, among at most 1000000 places. -/
import Derived.Test.YtijkekkjiboomaaGreatDoorPart27
namespace Go.Proofs.YtijkekkjiboomaaGreatDoor
open Go.RowKit Go.Maps
set_option linter.unusedVariables false
set_option linter.unusedSimpArgs false
set_option maxRecDepth 100000

set_option maxHeartbeats 800000 in
theorem placeG_any (k : Int) (m : Nat) (hm : 1 ≤ m ∧ m ≤ 1000000) (w : World) (h0 : -9223372036854775808 ≤ k) (h1 : k ≤ 9223372036854775807) : Calls Tryz.prog 27 #[.int .i64 k, .int .i64 (m : Int)] w fun e w' => ∃ p : Nat, e = .returned (.int .i64 (p : Int)) ∧ p < m ∧ w' = w := by
  have ha := Int.tmod_lt_of_pos k (b := (m : Int)) (by omega)
  have hb : -(m : Int) < k.tmod (m : Int) := by
    have := Int.lt_tmod_of_pos k (b := (m : Int)) (by omega)
    omega
  generalize ht : k.tmod (m : Int) = t at *
  have e0 : ((m : Int) == 0) = false := by simp; omega
  have e1 : ¬ ((m : Int) = 0) := by omega
  have e2 : ¬ ((m : Int) = -1) := by omega
  by_cases hn : t < 0
  · obtain ⟨p, hp⟩ : ∃ p : Nat, (p : Int) = t + (m : Int) := ⟨(t + (m : Int)).toNat, by omega⟩
    have HP : Hid ((p : Int) = t + (m : Int)) := hp
    have ew : IntKind.i64.wrap (t + (m : Int)) = t + (m : Int) := by rw [IntKind.wrap_i64]; omega
    clear hp
    go_enter Tryz.func27, Tryz.ntmps27
    go_wp2_with fail
    go_ret
    exact ⟨p, by rw [HP.out]; rfl, by have := HP.out; omega, rfl⟩
  · obtain ⟨p, hp⟩ : ∃ p : Nat, (p : Int) = t := ⟨t.toNat, by omega⟩
    have HP : Hid ((p : Int) = t) := hp
    clear hp
    go_enter Tryz.func27, Tryz.ntmps27
    go_wp2_with fail
    go_ret
    exact ⟨p, by rw [HP.out]; rfl, by have := HP.out; omega, rfl⟩
end Go.Proofs.YtijkekkjiboomaaGreatDoor

/- quirelaw14.ViewDiff. -/
namespace Go.Proofs.YtijkekkjiboomaaGreatDoor
open Go.RowKit Go.Maps
set_option linter.unusedVariables false
set_option linter.unusedSimpArgs false
set_option maxRecDepth 100000

/-- The difference patches the one into the other. -/
theorem diff_patches {A B : List Rn} (ha : OkL A) (hb : OkL B) : patchP A (dfA A B : Int) ((lenL (dfX A B) : Int) - (dfE A B : Int)) (dfL A B) = cleanP B := by
  obtain ⟨hd, hx, hl⟩ := dfP_is ha hb
  have hu := nrmU_len A
  have b1 := hd.a.lx
  obtain ⟨e1, e2, -⟩ := hd.ends
  have hp := patchP_cn ha hl.okL (dfA A B : Int) ((lenL (dfX A B) : Int) - (dfE A B : Int))
  have k1 : (patAt A (dfA A B : Int)).toNat = dfA A B := by unfold patAt; omega
  have k2 : (patAt A (dfA A B : Int) + patN A (dfA A B : Int) ((lenL (dfX A B) : Int) - (dfE A B : Int))).toNat = dfA A B + ((nrmU A).length - dfA A B - dfE A B) := by
    unfold patN patAt; omega
  rw [k1, k2, hl.nrmU] at hp
  have e := hd.patch
  rw [List.append_assoc] at e hp
  rw [e] at hp
  exact hp.eq (cleanP_cn hb)
theorem tot_upto (L : List Rn) (n : Nat) : tot (L.take n) ≤ tot L := by
  have e : L = L.take n ++ L.drop n := (List.take_append_drop n L).symm
  conv => rhs; rw [e]
  rw [tot_append]; omega
/-- Both tell the same list. -/
theorem diff_list {A B : List Rn} (ha : OkL A) (hb : OkL B) : (cleanR (((unitsR B).take ((unitsR B).length - dfE A B)).drop (dfA A B))).map Rn.nrm = dfL A B ∧ OkL (cleanR (((unitsR B).take ((unitsR B).length - dfE A B)).drop (dfA A B))) := by
  obtain ⟨hd, hx, hl⟩ := dfP_is ha hb
  obtain ⟨o1, o2⟩ := unitsR_ones hb
  obtain ⟨o3, o4⟩ := o1.cut ((unitsR B).length - dfE A B) (dfA A B)
  obtain ⟨c1, c2⟩ := cleanR_nrm o3.okL
  refine ⟨?_, c2⟩
  rw [c1]
  have h2 := cleanP_cn o3.okL
  have e : unitsV ((((unitsR B).take ((unitsR B).length - dfE A B)).drop (dfA A B)).map Rn.nrm) = ((nrmU B).drop (dfA A B)).take ((nrmU B).length - dfA A B - dfE A B) := by
    show nrmU _ = _
    have hul : (unitsR B).length = (nrmU B).length := by rw [unitsR_len, nrmU_len]
    rw [o4, o2, hul, List.drop_take]
    congr 1
    omega
  rw [e] at h2
  exact h2.eq hl
set_option maxHeartbeats 32000000 in
theorem viewDiff_any {w : World} {va vb : Value} {A B : List Rn} (ha : ArgR w va A) (hb : ArgR w vb B) (hU : TabsU w) (hI : TabsI w) :
    Calls Tryz.prog 5 #[va, vb] w fun e w' => e = .returned (.bool true) ∧ Touch (fun _ => False) w w' := by
  obtain ⟨ao, ca, rfl, -, -, -⟩ := ha.r.shape
  obtain ⟨lo, cl, rfl, -, -, -⟩ := hb.r.shape
  have HKn : Hid (Calls Tryz.prog 8 #[] w fun e w' => e = .returned (.bool true) ∧ Touch (fun _ => False) w w') := known_any w hU hI
  have HLa : Hid (∀ W, Touch (fun _ => False) w W → Calls Tryz.prog 9 #[.slice ao A.length ca] W (LtPost A W)) := fun W t => light_any (ha.r.touch t) ha.b
  have HLb : Hid (∀ W, Touch (fun _ => False) w W → Calls Tryz.prog 9 #[.slice lo B.length cl] W (LtPost B W)) := fun W t => light_any (hb.r.touch t) hb.b
  have HAr : Hid (ArgR w (.slice ao A.length ca) A ∧ ArgR w (.slice lo B.length cl) B ∧ TabsU w) := ⟨ha, hb, hU⟩
  clear ha hb hU hI
  go_enter Tryz.func5, Tryz.ntmps5
  go_wp2_with fail
  refine HKn.out.mono ?_
  rintro e W1 ⟨rfl, t1⟩
  have T1 : Hid (Touch (fun _ => False) w W1) := t1
  clear t1 HKn
  go_wp2_with fail
  refine (HLa.out _ T1.out).mono ?_
  rintro e W2 ⟨r, rfl, hr, t2⟩
  have T2 : Hid (Touch (fun _ => False) w W2) := T1.out.trans t2
  clear t2 T1 HLa
  cases r with
  | false =>
    clear hr HLb HAr
    go_wp2_with fail
    go_ret
    exact ⟨rfl, T2.out⟩
  | true =>
    have HA : Hid (LightP A) := hr rfl
    clear hr
    go_wp2_with fail
    refine (HLb.out _ T2.out).mono ?_
    rintro e W3 ⟨r, rfl, hr, t3⟩
    have T3 : Hid (Touch (fun _ => False) w W3) := T2.out.trans t3
    clear t3 T2 HLb
    cases r with
    | false =>
      clear hr HAr HA
      go_wp2_with fail
      go_ret
      exact ⟨rfl, T3.out⟩
    | true =>
      have la := lt_of HAr.out.1 HA.out
      have lb := lt_of HAr.out.2.1 (hr rfl)
      have hA := HAr.out.1.r
      have hB := HAr.out.2.1.r
      have hU := HAr.out.2.2
      clear HA hr
      have cB := cleanP_cn lb.ok
      have tA : tot A ≤ 1048576 := Nat.le_trans la.t (by omega)
      have tB : tot B ≤ 1048576 := Nat.le_trans lb.t (by omega)
      have tC : tot (cleanP B) ≤ 1048576 := Nat.le_trans (cleanP_tot B) tB
      obtain ⟨jd1, jd2⟩ := diff_join la.ok lb.ok
      obtain ⟨hd, hx, hl⟩ := dfP_is la.ok lb.ok
      obtain ⟨nD, oD⟩ := diff_list la.ok lb.ok
      have hpat := diff_patches la.ok lb.ok
      have hnum : ((lenL (dfX A B) : Int) - (dfE A B : Int)) = (((unitsR A).length - dfA A B - dfE A B : Nat) : Int) := by
        have h1 := hd.ends.1
        have h2 : (unitsR A).length = (nrmU A).length := by rw [unitsR_len, nrmU_len]
        rw [hx, h2]; omega
      have tL : tot (dfL A B) ≤ 300000 := by
        have h1 : tot (dfL A B) ≤ tot (dfY A B) := cutP_tot _ _ _
        have h2 : tot (dfY A B) ≤ tot (cleanP B) := cutP_tot _ _ _
        have h3 := cleanP_tot B
        have h4 := lb.t
        omega
      have tD : (cleanR (((unitsR B).take ((unitsR B).length - dfE A B)).drop (dfA A B))).length ≤ 1048576 := by
        have := congrArg List.length nD
        rw [List.length_map] at this
        rw [this]; exact tot_list _ (by omega)
      have HDf : Hid (∀ W, Touch (fun _ => False) w W → Calls Tryz.prog 25 #[.slice ao A.length ca, .slice lo B.length cl] W fun e w' => ∃ o c, e = .returned (.tuple #[.int .i64 (dfA A B : Int), .int .i64 (((unitsR A).length - dfA A B - dfE A B : Nat) : Int), .slice o (dfL A B).length c]) ∧ Hid (SlRn w' (.slice o (dfL A B).length c) (dfL A B) ∧ Touch (fun _ => False) W w')) := fun W t => by
        have h := diff_any (hA.touch t) (hB.touch t) la.ok lb.ok tA tB (hU.keep t)
        rw [hnum] at h
        refine h.mono fun e w' ⟨v', q1, q2, q3⟩ => ?_
        obtain ⟨o, c, rfl, -⟩ := q2.shape
        exact ⟨o, c, q1, q2, q3⟩
      have HQd : Hid (∀ W, Touch (fun _ => False) w W → Calls Tryz.prog 26 #[.slice ao A.length ca, .slice lo B.length cl] W fun e w' => ∃ o c, e = .returned (.tuple #[.int .i64 (dfA A B : Int), .int .i64 (((unitsR A).length - dfA A B - dfE A B : Nat) : Int), .slice o (cleanR (((unitsR B).take ((unitsR B).length - dfE A B)).drop (dfA A B))).length c]) ∧ Hid (SlRn w' (.slice o (cleanR (((unitsR B).take ((unitsR B).length - dfE A B)).drop (dfA A B))).length c) (cleanR (((unitsR B).take ((unitsR B).length - dfE A B)).drop (dfA A B))) ∧ Touch (fun _ => False) W w')) := fun W t => by
        have h := qdiff_any (hA.touch t) (hB.touch t) la.ok lb.ok tA tB (by have := la.u; omega) (by have := lb.u; omega)
        rw [jd1, jd2] at h
        refine h.mono fun e w' ⟨v', q1, q2, q3⟩ => ?_
        obtain ⟨o, c, rfl, -⟩ := q2.shape
        exact ⟨o, c, q1, q2, q3⟩
      have HS1 : Hid (∀ W a b, SlRn W a (dfL A B) → SlRn W b (cleanR (((unitsR B).take ((unitsR B).length - dfE A B)).drop (dfA A B))) → Calls Tryz.prog 19 #[a, b] W fun e w' => e = .returned (.bool true) ∧ Touch (fun _ => False) W w') := fun W a b h1 h2 => by
        have h := same_any h1 h2 (cn_dbl hl) (OkL.dbl oD) (tot_list _ (by omega)) tD
        rw [same_join hl nD (OkL.dbl oD)] at h
        exact h
      have HPa : Hid (∀ W v, Touch (fun _ => False) w W → SlRn W v (dfL A B) → Calls Tryz.prog 23 #[.slice ao A.length ca, .int .i64 (dfA A B : Int), .int .i64 (((unitsR A).length - dfA A B - dfE A B : Nat) : Int), v] W fun e w' => ∃ o c, e = .returned (.slice o (cleanP B).length c) ∧ Hid (SlRn w' (.slice o (cleanP B).length c) (cleanP B) ∧ Touch (fun _ => False) W w')) := fun W v t hv => by
        have hul := unitsR_len A
        have hll := lenL_tot A
        have hal := hd.a.lx
        have hau := nrmU_len A
        have h := patch_any (hA.touch t) hv la.ok hl.okL (by have := la.t; omega) tL (hU.keep t) (dfA A B : Int) (((unitsR A).length - dfA A B - dfE A B : Nat) : Int) (by omega) (by omega)
        rw [← hnum, hpat] at h
        rw [← hnum]
        refine h.mono fun e w' ⟨v', q1, q2, q3⟩ => ?_
        obtain ⟨o, c, rfl, -⟩ := q2.shape
        exact ⟨o, c, q1, q2, q3⟩
      obtain ⟨nB, oB⟩ := cleanR_nrm lb.ok
      have tR : (cleanR B).length ≤ 1048576 := by
        have := congrArg List.length nB
        rw [List.length_map] at this
        rw [this]; exact tot_list _ tC
      have HQc : Hid (∀ W, Touch (fun _ => False) w W → Calls Tryz.prog 20 #[.slice lo B.length cl] W fun e w' => ∃ o c, e = .returned (.slice o (cleanR B).length c) ∧ Hid (SlRn w' (.slice o (cleanR B).length c) (cleanR B) ∧ Touch (fun _ => False) W w')) := fun W t => (qclean_any (hB.touch t) lb.ok.dbl tB).mono fun e w' ⟨v', q1, q2, q3⟩ => by
        obtain ⟨o, c, rfl, -⟩ := q2.shape
        exact ⟨o, c, q1, q2, q3⟩
      have HS2 : Hid (∀ W a b, SlRn W a (cleanP B) → SlRn W b (cleanR B) → Calls Tryz.prog 19 #[a, b] W fun e w' => e = .returned (.bool true) ∧ Touch (fun _ => False) W w') := fun W a b h1 h2 => by
        have h := same_any h1 h2 (cn_dbl cB) (OkL.dbl oB) (tot_list _ tC) tR
        rw [same_join cB nB (OkL.dbl oB)] at h
        exact h
      clear la lb hA hB hU cB tA tB tC jd1 jd2 hd hx hl nD oD hpat hnum tL tD nB oB tR HAr
      generalize cleanP B = c1 at *
      generalize cleanR B = c2 at *
      generalize (unitsR A).length - dfA A B - dfE A B = nn at *
      generalize cleanR (((unitsR B).take ((unitsR B).length - dfE A B)).drop (dfA A B)) = c4 at *
      generalize dfL A B = c3 at *
      generalize dfA A B = at_ at *
      generalize A.length = nA at *
      generalize B.length = nB at *
      go_wp2_with fail
      refine (HDf.out _ T3.out).mono ?_
      rintro e W4 ⟨o4, k4, rfl, q4⟩
      have T4 : Hid (Touch (fun _ => False) w W4) := T3.out.trans q4.out.2
      clear T3 HDf
      go_wp2_with fail
      refine (HQd.out _ T4.out).mono ?_
      rintro e W5 ⟨o5, k5, rfl, q5⟩
      have T5 : Hid (Touch (fun _ => False) w W5 ∧ SlRn W5 (.slice o4 c3.length k4) c3) := ⟨T4.out.trans q5.out.2, q4.out.1.touch q5.out.2⟩
      clear T4 HQd q4
      go_wp2_with fail
      refine (HS1.out _ _ _ T5.out.2 q5.out.1).mono ?_
      rintro e W6 ⟨rfl, t6⟩
      have T6 : Hid (Touch (fun _ => False) w W6 ∧ SlRn W6 (.slice o4 c3.length k4) c3) := ⟨T5.out.1.trans t6, T5.out.2.touch t6⟩
      clear T5 q5 t6 HS1
      go_wp2_with fail
      refine (HPa.out _ _ T6.out.1 T6.out.2).mono ?_
      rintro e W7 ⟨o7, k7, rfl, q7⟩
      have T7 : Hid (Touch (fun _ => False) w W7) := T6.out.1.trans q7.out.2
      clear T6 HPa
      go_wp2_with fail
      refine (HQc.out _ T7.out).mono ?_
      rintro e W8 ⟨o8, k8, rfl, q8⟩
      have T8 : Hid (Touch (fun _ => False) w W8 ∧ SlRn W8 (.slice o7 c1.length k7) c1) := ⟨T7.out.trans q8.out.2, q7.out.1.touch q8.out.2⟩
      clear T7 HQc q7
      go_wp2_with fail
      refine (HS2.out _ _ _ T8.out.2 q8.out.1).mono ?_
      rintro e W9 ⟨rfl, t9⟩
      have T9 : Hid (Touch (fun _ => False) w W9) := T8.out.1.trans t9
      clear T8 q8 t9 HS2
      go_wp2_with fail
      go_ret
      exact ⟨rfl, T9.out⟩
end Go.Proofs.YtijkekkjiboomaaGreatDoor

/- Views: a difference is no longer than it must be (no Go in it). -/
namespace Go.Proofs.YtijkekkjiboomaaGreatDoor
open Go.RowKit Go.Maps
set_option linter.unusedVariables false
set_option linter.unusedSimpArgs false

theorem IsLcp.ge {α : Type} {x y : List α} {n k : Nat} (h : IsLcp x y n) (hx : k ≤ x.length) (hy : k ≤ y.length) (e : x.take k = y.take k) : k ≤ n := by
  rcases Nat.lt_or_ge n k with hlt | hge
  · exfalso
    have h1 : n < x.length := by omega
    have h2 : n < y.length := by omega
    refine h.ne h1 h2 ?_
    have e2 : (x.take k)[n]? = (y.take k)[n]? := by rw [e]
    rw [List.getElem?_take, List.getElem?_take, if_pos hlt, if_pos hlt, List.getElem?_eq_getElem h1, List.getElem?_eq_getElem h2] at e2
    exact Option.some.inj e2
  · exact hge
theorem rev_take_drop {α : Type} (X : List α) (a k : Nat) (h : k ≤ X.length - a) (ha : a ≤ X.length) : (X.drop a).reverse.take k = (X.drop (X.length - k)).reverse := by
  rw [List.take_reverse, List.length_drop, List.drop_drop]
  congr 2
  omega
theorem least {α : Type} {X Y Z : List α} {p q a e : Nat} (hY : Y = X.take p ++ (Z ++ X.drop (p + q))) (hp : p + q ≤ X.length) (h1 : IsLcp X Y a) (h2 : IsLcp (X.drop a).reverse (Y.drop a).reverse e) : X.length - a - e ≤ q ∧ Y.length - a - e ≤ Z.length := by
  have hYl : Y.length = p + Z.length + (X.length - (p + q)) := by
    rw [hY, List.length_append, List.length_append, List.length_take, List.length_drop]; omega
  have ha : p ≤ a := h1.ge (by omega) (by omega) (by
    rw [hY, List.take_append_of_le_length (by rw [List.length_take]; omega), List.take_take]
    congr 1; omega)
  have hax := h1.lx
  have hay := h1.ly
  have key : ∀ k, k ≤ X.length - (p + q) → k ≤ X.length - a → k ≤ Y.length - a → k ≤ e := fun k k1 k2 k3 => by
    refine h2.ge (by rw [List.length_reverse, List.length_drop]; exact k2) (by rw [List.length_reverse, List.length_drop]; exact k3) ?_
    rw [rev_take_drop _ _ _ k2 hax, rev_take_drop _ _ _ k3 hay]
    congr 1
    have e1 : Y.drop (Y.length - k) = (X.drop (p + q)).drop (X.length - (p + q) - k) := by
      rw [hY, ← List.append_assoc, List.drop_append]
      have hl : (X.take p ++ Z).length = p + Z.length := by rw [List.length_append, List.length_take]; omega
      have hl2 : (X.take p ++ Z ++ X.drop (p + q)).length = p + Z.length + (X.length - (p + q)) := by rw [List.length_append, hl, List.length_drop]
      rw [List.drop_of_length_le (by rw [hl, hl2]; omega), List.nil_append, hl, hl2]
      congr 1; omega
    rw [e1, List.drop_drop]
    congr 1; omega
  have h3 := key (min (X.length - (p + q)) (min (X.length - a) (Y.length - a))) (by omega) (by omega) (by omega)
  constructor <;> omega
theorem least_units {A L : List Rn} (ha : OkL A) (hl : OkL L) {p q : Nat} (hpq : p + q ≤ lenL A) :
    OkL (patchP A p q L) ∧ lenL (dfX A (patchP A p q L)) - dfE A (patchP A p q L) ≤ q ∧ dfE A (patchP A p q L) ≤ lenL (dfX A (patchP A p q L)) ∧ lenL (dfL A (patchP A p q L)) ≤ lenL L ∧ (lenL (dfX A (patchP A p q L)) - dfE A (patchP A p q L) = 0 → (dfL A (patchP A p q L)).length = 0 → patchP A p q L = cleanP A) := by
  have hb := patchP_cn ha hl (p : Int) (q : Int)
  have hu := nrmU_len A
  have k1 : (patAt A (p : Int)).toNat = p := by unfold patAt; omega
  have k2 : (patAt A (p : Int) + patN A (p : Int) (q : Int)).toNat = p + q := by unfold patN patAt; omega
  rw [k1, k2, List.append_assoc] at hb
  generalize patchP A (p : Int) (q : Int) L = B at *
  obtain ⟨hd, hx, hk⟩ := dfP_is ha hb.okL
  have hY := hb.nrmU
  obtain ⟨m1, m2⟩ := least hY (by rw [hu]; exact hpq) hd.a hd.e
  have b1 := hd.ends.1
  have b2 := hd.ends.2.1
  have hkl := hk.len
  rw [List.length_take, List.length_drop] at hkl
  rw [nrmU_len] at m2
  have hll := nrmU_len L
  refine ⟨hb.okL, by rw [hx]; exact m1, by rw [hx]; exact b1, by rw [hkl, nrmU_len]; omega, fun e1 e2 => ?_⟩
  have e3 : (nrmU B).length - dfA A B - dfE A B = 0 := by
    have h0 : dfL A B = [] := List.length_eq_zero_iff.1 e2
    rw [h0] at hkl
    have h1 : lenL ([] : List Rn) = 0 := rfl
    rw [h1] at hkl
    omega
  rw [hx] at e1
  have hp := hd.patch
  rw [e3, List.take_zero, List.append_nil, e1, Nat.add_zero, List.take_append_drop] at hp
  have hc := cleanP_cn ha
  have hc2 : Cn (cleanP A) (nrmU A) := hc
  rw [hp, hY] at hc2
  exact hb.eq hc2
end Go.Proofs.YtijkekkjiboomaaGreatDoor

/- quirelaw14.ViewLeast. -/
namespace Go.Proofs.YtijkekkjiboomaaGreatDoor
open Go.RowKit Go.Maps
set_option linter.unusedVariables false
set_option linter.unusedSimpArgs false
set_option maxRecDepth 100000

set_option maxHeartbeats 32000000 in
theorem viewLeast_any {w : World} {va vl : Value} {A L : List Rn} (ha : ArgR w va A) (hl : ArgR w vl L) (hU : TabsU w) (hI : TabsI w) (pt n : Int) (hp : -9223372036854775808 ≤ pt ∧ pt ≤ 9223372036854775807) (hn : -9223372036854775808 ≤ n ∧ n ≤ 9223372036854775807) :
    Calls Tryz.prog 7 #[va, vl, .int .i64 pt, .int .i64 n] w fun e w' => e = .returned (.bool true) ∧ Touch (fun _ => False) w w' := by
  obtain ⟨ao, ca, rfl, -, -, -⟩ := ha.r.shape
  obtain ⟨lo, cl, rfl, -, -, -⟩ := hl.r.shape
  have HKn : Hid (Calls Tryz.prog 8 #[] w fun e w' => e = .returned (.bool true) ∧ Touch (fun _ => False) w w') := known_any w hU hI
  have HLa : Hid (∀ W, Touch (fun _ => False) w W → Calls Tryz.prog 9 #[.slice ao A.length ca] W (LtPost A W)) := fun W t => light_any (ha.r.touch t) ha.b
  have HLb : Hid (∀ W, Touch (fun _ => False) w W → Calls Tryz.prog 9 #[.slice lo L.length cl] W (LtPost L W)) := fun W t => light_any (hl.r.touch t) hl.b
  have HAr : Hid (ArgR w (.slice ao A.length ca) A ∧ ArgR w (.slice lo L.length cl) L ∧ TabsU w) := ⟨ha, hl, hU⟩
  have HPl : Hid (∀ (m : Nat) W, 1 ≤ m ∧ m ≤ 1000000 → Calls Tryz.prog 27 #[.int .i64 pt, .int .i64 (m : Int)] W fun e w' => ∃ p : Nat, e = .returned (.int .i64 (p : Int)) ∧ p < m ∧ w' = W) := fun m W hm => placeG_any pt m hm W hp.1 hp.2
  have HPn : Hid (∀ (m : Nat) W, 1 ≤ m ∧ m ≤ 1000000 → Calls Tryz.prog 27 #[.int .i64 n, .int .i64 (m : Int)] W fun e w' => ∃ p : Nat, e = .returned (.int .i64 (p : Int)) ∧ p < m ∧ w' = W) := fun m W hm => placeG_any n m hm W hn.1 hn.2
  clear ha hl hU hI hp hn
  go_enter Tryz.func7, Tryz.ntmps7
  go_wp2_with fail
  refine HKn.out.mono ?_
  rintro e W1 ⟨rfl, t1⟩
  have T1 : Hid (Touch (fun _ => False) w W1) := t1
  clear t1 HKn
  go_wp2_with fail
  refine (HLa.out _ T1.out).mono ?_
  rintro e W2 ⟨r, rfl, hr, t2⟩
  have T2 : Hid (Touch (fun _ => False) w W2) := T1.out.trans t2
  clear t2 T1 HLa
  cases r with
  | false =>
    clear hr HLb HAr HPl HPn
    go_wp2_with fail
    go_ret
    exact ⟨rfl, T2.out⟩
  | true =>
    have HA : Hid (LightP A) := hr rfl
    clear hr
    go_wp2_with fail
    refine (HLb.out _ T2.out).mono ?_
    rintro e W3 ⟨r, rfl, hr, t3⟩
    have T3 : Hid (Touch (fun _ => False) w W3) := T2.out.trans t3
    clear t3 T2 HLb
    cases r with
    | false =>
      clear hr HAr HA HPl HPn
      go_wp2_with fail
      go_ret
      exact ⟨rfl, T3.out⟩
    | true =>
      have la := lt_of HAr.out.1 HA.out
      have ll := lt_of HAr.out.2.1 (hr rfl)
      have hA := HAr.out.1.r
      have hL := HAr.out.2.1.r
      have hU := HAr.out.2.2
      clear HA hr
      have cA := cleanP_cn la.ok
      have tA : tot A ≤ 1048576 := Nat.le_trans la.t (by omega)
      have tL : tot L ≤ 1048576 := Nat.le_trans ll.t (by omega)
      have hNb : lenL A ≤ 2000 := Nat.le_trans (lenL_tot A) la.t
      have HLe : Hid (∀ W, Touch (fun _ => False) w W → Calls Tryz.prog 16 #[.agg #[.slice ao A.length ca, .slice none 0 0]] W fun e w' => e = .returned (.int .i64 (lenL A : Int)) ∧ Touch (fun _ => False) W w') := fun W t => len_any (hA.touch t) tA (hU.keep t) ⟨none, 0, 0, rfl⟩
      have HLl : Hid (∀ W, Touch (fun _ => False) w W → Calls Tryz.prog 16 #[.agg #[.slice lo L.length cl, .slice none 0 0]] W fun e w' => e = .returned (.int .i64 (lenL L : Int)) ∧ Touch (fun _ => False) W w') := fun W t => len_any (hL.touch t) tL (hU.keep t) ⟨none, 0, 0, rfl⟩
      have HLn : Hid (∀ W v B, Touch (fun _ => False) w W → SlRn W v B → tot B ≤ 1048576 → Calls Tryz.prog 16 #[.agg #[v, .slice none 0 0]] W fun e w' => e = .returned (.int .i64 (lenL B : Int)) ∧ Touch (fun _ => False) W w') := fun W v B t hv tb => len_any hv tb (hU.keep t) ⟨none, 0, 0, rfl⟩
      have HTb : Hid (∀ p q : Nat, tot (patchP A (p : Int) (q : Int) L) ≤ 6000) := fun p q => by
        have h1 := cutP_tot A 0 (patAt A p)
        have h2 := cutP_tot A (patAt A p + patN A p q) (lenL A)
        have h3 : tot (patchP A p q L) ≤ tot (cutP A 0 (patAt A p) ++ L ++ cutP A (patAt A p + patN A p q) (lenL A)) := cleanP_tot _
        rw [tot_append, tot_append] at h3
        have h4 := la.t
        have h5 := ll.t
        omega
      have HPa : Hid (∀ W (p q : Nat), Touch (fun _ => False) w W → p ≤ 2000 → q ≤ 2000 → Calls Tryz.prog 23 #[.slice ao A.length ca, .int .i64 (p : Int), .int .i64 (q : Int), .slice lo L.length cl] W fun e w' => ∃ o c, e = .returned (.slice o (patchP A (p : Int) (q : Int) L).length c) ∧ Hid (SlRn w' (.slice o (patchP A (p : Int) (q : Int) L).length c) (patchP A (p : Int) (q : Int) L) ∧ Touch (fun _ => False) W w')) := fun W p q t hp hq => (patch_any (hA.touch t) (hL.touch t) la.ok ll.ok (by have := la.t; omega) (by have := ll.t; omega) (hU.keep t) p q (by omega) (by omega)).mono fun e w' ⟨v', q1, q2, q3⟩ => by
        obtain ⟨o, c, rfl, -⟩ := q2.shape
        exact ⟨o, c, q1, q2, q3⟩
      have HDf : Hid (∀ W v B, Touch (fun _ => False) w W → SlRn W v B → OkL B → tot B ≤ 6000 → dfE A B ≤ lenL (dfX A B) → Calls Tryz.prog 25 #[.slice ao A.length ca, v] W fun e w' => ∃ o c, e = .returned (.tuple #[.int .i64 (dfA A B : Int), .int .i64 ((lenL (dfX A B) - dfE A B : Nat) : Int), .slice o (dfL A B).length c]) ∧ Hid (SlRn w' (.slice o (dfL A B).length c) (dfL A B) ∧ Touch (fun _ => False) W w' ∧ tot (dfL A B) ≤ 1048576)) := fun W v B t hv ok tb he => by
        have h := diff_any (hA.touch t) hv la.ok ok tA (by omega) (hU.keep t)
        have hnum : ((lenL (dfX A B) : Int) - (dfE A B : Int)) = ((lenL (dfX A B) - dfE A B : Nat) : Int) := by omega
        rw [hnum] at h
        refine h.mono fun e w' ⟨v', q1, q2, q3⟩ => ?_
        obtain ⟨o, c, rfl, -⟩ := q2.shape
        refine ⟨o, c, q1, q2, q3, ?_⟩
        have h1 : tot (dfL A B) ≤ tot (dfY A B) := cutP_tot _ _ _
        have h2 : tot (dfY A B) ≤ tot (cleanP B) := cutP_tot _ _ _
        have h3 := cleanP_tot B
        omega
      have HCl : Hid (∀ W, Touch (fun _ => False) w W → Calls Tryz.prog 18 #[.slice ao A.length ca] W fun e w' => ∃ o c, e = .returned (.slice o (cleanP A).length c) ∧ Hid (SlRn w' (.slice o (cleanP A).length c) (cleanP A) ∧ Touch (fun _ => False) W w')) := fun W t => (clean_any (hA.touch t) la.ok tA (hU.keep t)).mono fun e w' ⟨v', q1, q2, q3⟩ => by
        obtain ⟨o, c, rfl, -⟩ := q2.shape
        exact ⟨o, c, q1, q2, q3⟩
      have HSm : Hid (∀ W a b, SlRn W a (cleanP A) → SlRn W b (cleanP A) → Calls Tryz.prog 19 #[a, b] W fun e w' => e = .returned (.bool true) ∧ Touch (fun _ => False) W w') := fun W a b h1 h2 => by
        have tC : tot (cleanP A) ≤ 1048576 := Nat.le_trans (cleanP_tot A) tA
        have h := same_any h1 h2 (cn_dbl cA) (cn_dbl cA) (tot_list _ tC) (tot_list _ tC)
        rw [sameRL_self (cn_dbl cA)] at h
        exact h
      have HLeast : Hid (∀ p q : Nat, p + q ≤ lenL A → OkL (patchP A p q L) ∧ lenL (dfX A (patchP A p q L)) - dfE A (patchP A p q L) ≤ q ∧ dfE A (patchP A p q L) ≤ lenL (dfX A (patchP A p q L)) ∧ lenL (dfL A (patchP A p q L)) ≤ lenL L ∧ (lenL (dfX A (patchP A p q L)) - dfE A (patchP A p q L) = 0 → (dfL A (patchP A p q L)).length = 0 → patchP A p q L = cleanP A)) := fun p q h => least_units la.ok ll.ok h
      clear la ll hA hL hU cA tA tL HAr
      have hw1 : IntKind.i64.wrap ((lenL A : Int) + 1) = ((lenL A + 1 : Nat) : Int) := by rw [IntKind.wrap_i64] <;> omega
      generalize lenL A = N at *
      go_wp2_with fail
      refine (HLe.out _ T3.out).mono ?_
      rintro e W4 ⟨rfl, t4⟩
      have T4 : Hid (Touch (fun _ => False) w W4) := T3.out.trans t4
      clear t4 T3 HLe
      go_wp2_with fail
      refine (HPl.out (N + 1) _ (by omega)).mono ?_
      rintro e W4' ⟨p, rfl, hpl, rfl⟩
      clear HPl hw1
      obtain ⟨d, hd⟩ : ∃ d : Nat, Hid (d = N - p) := ⟨_, Eq.refl _⟩
      have hdb : d ≤ 2000 := by have := hd.out; omega
      have hw2 : IntKind.i64.wrap ((N : Int) - (p : Int)) = (d : Int) := by have := hd.out; rw [IntKind.wrap_i64] <;> omega
      have hw3 : IntKind.i64.wrap ((d : Int) + 1) = ((d + 1 : Nat) : Int) := by have := hd.out; rw [IntKind.wrap_i64] <;> omega
      go_wp2_with fail
      refine (HPn.out (d + 1) _ (by omega)).mono ?_
      rintro e Wq ⟨q, rfl, hql, rfl⟩
      clear HPn hw2 hw3
      obtain ⟨y1, y2, y3, y4, y5⟩ := HLeast.out p q (by have := hd.out; omega)
      have HY : Hid (OkL (patchP A (p : Int) (q : Int) L) ∧ dfE A (patchP A (p : Int) (q : Int) L) ≤ lenL (dfX A (patchP A (p : Int) (q : Int) L)) ∧ tot (patchP A (p : Int) (q : Int) L) ≤ 6000) := ⟨y1, y3, HTb.out p q⟩
      have HPb : Hid (Calls Tryz.prog 23 #[.slice ao A.length ca, .int .i64 (p : Int), .int .i64 (q : Int), .slice lo L.length cl] Wq fun e w' => ∃ o c, e = .returned (.slice o (patchP A (p : Int) (q : Int) L).length c) ∧ Hid (SlRn w' (.slice o (patchP A (p : Int) (q : Int) L).length c) (patchP A (p : Int) (q : Int) L) ∧ Touch (fun _ => False) Wq w')) := HPa.out Wq p q T4.out (by omega) (by have := hd.out; omega)
      have HZ : Hid (lenL (dfX A (patchP A (p : Int) (q : Int) L)) - dfE A (patchP A (p : Int) (q : Int) L) = 0 → (dfL A (patchP A (p : Int) (q : Int) L)).length = 0 → patchP A (p : Int) (q : Int) L = cleanP A) := y5
      clear y1 y3 y5 HLeast HTb HPa hd
      generalize patchP A (p : Int) (q : Int) L = B at *
      go_wp2_with fail
      refine HPb.out.mono ?_
      rintro e W5 ⟨o5, k5, rfl, q5⟩
      have T5 : Hid (Touch (fun _ => False) w W5 ∧ SlRn W5 (.slice o5 B.length k5) B) := ⟨T4.out.trans q5.out.2, q5.out.1⟩
      clear T4 q5 HPb
      have HD2 : Hid (Calls Tryz.prog 25 #[.slice ao A.length ca, .slice o5 B.length k5] W5 fun e w' => ∃ o c, e = .returned (.tuple #[.int .i64 (dfA A B : Int), .int .i64 ((lenL (dfX A B) - dfE A B : Nat) : Int), .slice o (dfL A B).length c]) ∧ Hid (SlRn w' (.slice o (dfL A B).length c) (dfL A B) ∧ Touch (fun _ => False) W5 w' ∧ tot (dfL A B) ≤ 1048576)) := HDf.out _ _ _ T5.out.1 T5.out.2 HY.out.1 HY.out.2.2 HY.out.2.1
      clear HDf HY
      generalize lenL (dfX A B) - dfE A B = m at *
      generalize dfA A B = at_ at *
      generalize dfL A B = K at *
      generalize A.length = nA at *
      have y2i : (m : Int) ≤ (q : Int) := by omega
      go_wp2_with fail
      refine HD2.out.mono ?_
      rintro e W6 ⟨o6, k6, rfl, q6⟩
      have T6 : Hid (Touch (fun _ => False) w W6 ∧ SlRn W6 (.slice o5 B.length k5) B ∧ SlRn W6 (.slice o6 K.length k6) K) := ⟨T5.out.1.trans q6.out.2.1, T5.out.2.touch q6.out.2.1, q6.out.1⟩
      have HtK : Hid (tot K ≤ 1048576) := q6.out.2.2
      clear T5 q6 HD2
      go_wp2_with fail
      refine (HLn.out _ _ _ T6.out.1 T6.out.2.2 HtK.out).mono ?_
      rintro e W7 ⟨rfl, t7⟩
      have T7 : Hid (Touch (fun _ => False) w W7 ∧ SlRn W7 (.slice o5 B.length k5) B) := ⟨T6.out.1.trans t7, T6.out.2.1.touch t7⟩
      clear T6 t7 HtK HLn
      go_wp2_with fail
      refine (HLl.out _ T7.out.1).mono ?_
      rintro e W8 ⟨rfl, t8⟩
      have T8 : Hid (Touch (fun _ => False) w W8 ∧ SlRn W8 (.slice o5 B.length k5) B) := ⟨T7.out.1.trans t8, T7.out.2.touch t8⟩
      clear T7 t8 HLl
      have y4i : (lenL K : Int) ≤ (lenL L : Int) := by omega
      by_cases hm : 0 < m
      · have hmi : (0 : Int) < (m : Int) := by omega
        clear HZ HSm HCl
        go_wp2_with fail
        go_ret
        exact ⟨rfl, T8.out.1⟩
      · have hmi : ¬ (0 : Int) < (m : Int) := by omega
        by_cases hk : 0 < K.length
        · have hki : (0 : Int) < (K.length : Int) := by omega
          clear HZ HSm HCl
          go_wp2_with fail
          go_ret
          exact ⟨rfl, T8.out.1⟩
        · have hki : ¬ (0 : Int) < (K.length : Int) := by omega
          have hB : B = cleanP A := HZ.out (by omega) (by omega)
          have T9 : Hid (Touch (fun _ => False) w W8 ∧ SlRn W8 (.slice o5 B.length k5) (cleanP A)) := ⟨T8.out.1, by have h := T8.out.2; rw [← hB]; exact h⟩
          clear hB T8 HZ
          generalize cleanP A = c1 at *
          go_wp2_with fail
          refine (HCl.out _ T9.out.1).mono ?_
          rintro e W9 ⟨o9, k9, rfl, q9⟩
          have T10 : Hid (Touch (fun _ => False) w W9 ∧ SlRn W9 (.slice o5 B.length k5) c1) := ⟨T9.out.1.trans q9.out.2, T9.out.2.touch q9.out.2⟩
          clear T9 HCl
          go_wp2_with fail
          refine (HSm.out _ _ _ T10.out.2 q9.out.1).mono ?_
          rintro e W10 ⟨rfl, t10⟩
          have T11 : Hid (Touch (fun _ => False) w W10) := T10.out.1.trans t10
          clear T10 q9 t10 HSm
          go_wp2_with fail
          go_ret
          exact ⟨rfl, T11.out⟩
end Go.Proofs.YtijkekkjiboomaaGreatDoor
