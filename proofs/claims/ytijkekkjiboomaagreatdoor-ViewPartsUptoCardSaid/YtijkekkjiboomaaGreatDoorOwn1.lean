/- quirehelp.Place, among at most 1000000 places. -/
import Derived.Test.YtijkekkjiboomaaGreatDoorPart27
namespace Go.Proofs.YtijkekkjiboomaaGreatDoor
open Go.RowKit Go.Maps
set_option linter.unusedVariables false
set_option linter.unusedSimpArgs false
set_option maxRecDepth 100000

set_option maxHeartbeats 800000 in
theorem placeG_any (k : Int) (m : Nat) (hm : 1 ≤ m ∧ m ≤ 1000000) (w : World) (h0 : -9223372036854775808 ≤ k) (h1 : k ≤ 9223372036854775807) : Calls Tryz.prog 27 #[.int .i64 k, .int .i64 (m : Int)] w fun e w' => ∃ p : Nat, e = .returned (.int .i64 (p : Int)) ∧ p < m ∧ w' = w := by
  have ha := Int.tmod_lt_of_pos k (b := (m : Int)) (by omega)
  have hb : -(m : Int) < k.tmod (m : Int) := by
    have := Int.lt_tmod_of_pos k (b := (m : Int)) (by omega)
    omega
  generalize ht : k.tmod (m : Int) = t at *
  have e0 : ((m : Int) == 0) = false := by simp; omega
  have e1 : ¬ ((m : Int) = 0) := by omega
  have e2 : ¬ ((m : Int) = -1) := by omega
  by_cases hn : t < 0
  · obtain ⟨p, hp⟩ : ∃ p : Nat, (p : Int) = t + (m : Int) := ⟨(t + (m : Int)).toNat, by omega⟩
    have HP : Hid ((p : Int) = t + (m : Int)) := hp
    have ew : IntKind.i64.wrap (t + (m : Int)) = t + (m : Int) := by rw [IntKind.wrap_i64]; omega
    clear hp
    go_enter Tryz.func27, Tryz.ntmps27
    go_wp2_with fail
    go_ret
    exact ⟨p, by rw [HP.out]; rfl, by have := HP.out; omega, rfl⟩
  · obtain ⟨p, hp⟩ : ∃ p : Nat, (p : Int) = t := ⟨t.toNat, by omega⟩
    have HP : Hid ((p : Int) = t) := hp
    clear hp
    go_enter Tryz.func27, Tryz.ntmps27
    go_wp2_with fail
    go_ret
    exact ⟨p, by rw [HP.out]; rfl, by have := HP.out; omega, rfl⟩
end Go.Proofs.YtijkekkjiboomaaGreatDoor

/- quirelaw14.ViewParts. -/
namespace Go.Proofs.YtijkekkjiboomaaGreatDoor
open Go.RowKit Go.Maps
set_option linter.unusedVariables false
set_option linter.unusedSimpArgs false
set_option maxRecDepth 100000

theorem cut_front {A : List Rn} (ha : OkL A) (p : Nat) : Cn (cutP A 0 p) ((nrmU A).take p) := by
  have h := cutP_cn ha 0 p
  simpa using h
theorem cut_back {A : List Rn} (ha : OkL A) (p : Nat) : Cn (cutP A p (lenL A)) ((nrmU A).drop p) := by
  have h := cutP_cn ha p (lenL A)
  rw [List.take_of_length_le (by rw [nrmU_len]; omega)] at h
  simpa using h
theorem parts_join {A : List Rn} (ha : OkL A) (p : Nat) : cleanP (cutP A 0 p ++ cutP A p (lenL A)) = cleanP A := by
  have h1 := cut_front ha p
  have h2 := cut_back ha p
  have h := cleanP_cn (h1.okL.append h2.okL)
  have e : unitsV ((cutP A 0 p ++ cutP A p (lenL A)).map Rn.nrm) = nrmU A := by
    show nrmU _ = _
    rw [nrmU_append, h1.nrmU, h2.nrmU, List.take_append_drop]
  rw [e] at h
  exact h.eq (cleanP_cn ha)
/-- An append whose guard holds. -/
theorem wpList_append_wanted {w w' : World} {ops : Array Oper} {rest : List Oper} {o : Oper} {a : Act} {Q : Exit → Act → World → Prop} (hw : Region.wanted o (yielded ops a.tmps) = true) (s x : Operand)
    (ho : o.op = .call { callee := .builtin .append, args := #[s, x], argTypes := #[22, 22] }) (v y v' : Value) (hs : a.eval s = v) (hx : a.eval x = y)
    (hrun : (Builtin.append_ #[22, 22] o.type #[v, y]).run Tryz.prog w = .ok v' w') (h : wpList Tryz.prog ops Q rest (a.put o.dst v') w') : wpList Tryz.prog ops Q (o :: rest) a w := by
  refine wpList_step fun K' hK' => ?_
  exact step_append_runW hw s x ho v y v' hs hx hrun (hK' _ _ h)
set_option maxHeartbeats 32000000 in
theorem viewParts_any {w : World} {va : Value} {A : List Rn} (ha : ArgR w va A) (hU : TabsU w) (hI : TabsI w) (pt : Int) (hp : -9223372036854775808 ≤ pt ∧ pt ≤ 9223372036854775807) :
    Calls Tryz.prog 6 #[va, .int .i64 pt] w fun e w' => e = .returned (.bool true) ∧ Touch (fun _ => False) w w' := by
  obtain ⟨ao, ca, rfl, -, -, -⟩ := ha.r.shape
  have HKn : Hid (Calls Tryz.prog 8 #[] w fun e w' => e = .returned (.bool true) ∧ Touch (fun _ => False) w w') := known_any w hU hI
  have HLa : Hid (∀ W, Touch (fun _ => False) w W → Calls Tryz.prog 9 #[.slice ao A.length ca] W (LtPost A W)) := fun W t => light_any (ha.r.touch t) ha.b
  have HAr : Hid (ArgR w (.slice ao A.length ca) A ∧ TabsU w) := ⟨ha, hU⟩
  have HPl : Hid (∀ (m : Nat) W, 1 ≤ m ∧ m ≤ 1000000 → Calls Tryz.prog 27 #[.int .i64 pt, .int .i64 (m : Int)] W fun e w' => ∃ p : Nat, e = .returned (.int .i64 (p : Int)) ∧ p < m ∧ w' = W) := fun m W hm => placeG_any pt m hm W hp.1 hp.2
  clear ha hU hI hp
  go_enter Tryz.func6, Tryz.ntmps6
  go_wp2_with fail
  refine HKn.out.mono ?_
  rintro e W1 ⟨rfl, t1⟩
  have T1 : Hid (Touch (fun _ => False) w W1) := t1
  clear t1 HKn
  go_wp2_with fail
  refine (HLa.out _ T1.out).mono ?_
  rintro e W2 ⟨r, rfl, hr, t2⟩
  have T2 : Hid (Touch (fun _ => False) w W2) := T1.out.trans t2
  clear t2 T1 HLa
  cases r with
  | false =>
    clear hr HAr HPl
    go_wp2_with fail
    go_ret
    exact ⟨rfl, T2.out⟩
  | true =>
    have la := lt_of HAr.out.1 (hr rfl)
    have hA := HAr.out.1.r
    have hU := HAr.out.2
    clear hr
    have cA := cleanP_cn la.ok
    have tA : tot A ≤ 1048576 := Nat.le_trans la.t (by omega)
    have tC : tot (cleanP A) ≤ 1048576 := Nat.le_trans (cleanP_tot A) tA
    have hNb : lenL A ≤ 2000 := Nat.le_trans (lenL_tot A) la.t
    have HLe : Hid (∀ W, Touch (fun _ => False) w W → Calls Tryz.prog 16 #[.agg #[.slice ao A.length ca, .slice none 0 0]] W fun e w' => e = .returned (.int .i64 (lenL A : Int)) ∧ Touch (fun _ => False) W w') := fun W t => len_any (hA.touch t) tA (hU.keep t) ⟨none, 0, 0, rfl⟩
    have HLn : Hid (∀ W v B, Touch (fun _ => False) w W → SlRn W v B → tot B ≤ 2000 → Calls Tryz.prog 16 #[.agg #[v, .slice none 0 0]] W fun e w' => e = .returned (.int .i64 (lenL B : Int)) ∧ Touch (fun _ => False) W w') := fun W v B t hv tb => len_any hv (by omega) (hU.keep t) ⟨none, 0, 0, rfl⟩
    have HCu : Hid (∀ W (f t : Nat), Touch (fun _ => False) w W → f ≤ 2000 → t ≤ 2000 → Calls Tryz.prog 21 #[.slice ao A.length ca, .int .i64 (f : Int), .int .i64 (t : Int)] W fun e w' => ∃ o c, e = .returned (.slice o (cutP A f t).length c) ∧ Hid (SlRn w' (.slice o (cutP A f t).length c) (cutP A f t) ∧ Touch (fun _ => False) W w')) := fun W f t tt hf ht => (cut_any (hA.touch tt) la.ok tA (hU.keep tt) f t (by omega) (by omega)).mono fun e w' ⟨v', q1, q2, q3⟩ => by
      obtain ⟨o, c, rfl, -⟩ := q2.shape
      exact ⟨o, c, q1, q2, q3⟩
    have HCl : Hid (∀ W v p, Touch (fun _ => False) w W → SlRn W v (cutP A 0 ((p : Nat) : Int) ++ cutP A p (lenL A)) → Calls Tryz.prog 18 #[v] W fun e w' => ∃ o c, e = .returned (.slice o (cleanP A).length c) ∧ Hid (SlRn w' (.slice o (cleanP A).length c) (cleanP A) ∧ Touch (fun _ => False) W w')) := fun W v p t hs => by
      have h := clean_any hs ((cut_front la.ok p).okL.append (cut_back la.ok p).okL) (by
        have h1 := cutP_tot A 0 p
        have h2 := cutP_tot A p (lenL A)
        have := la.t
        rw [tot_append]; omega) (hU.keep t)
      rw [parts_join la.ok p] at h
      refine h.mono fun e w' ⟨v', q1, q2, q3⟩ => ?_
      obtain ⟨o, c, rfl, -⟩ := q2.shape
      exact ⟨o, c, q1, q2, q3⟩
    obtain ⟨nA, oA⟩ := cleanR_nrm la.ok
    have tR : (cleanR A).length ≤ 1048576 := by
      have := congrArg List.length nA
      rw [List.length_map] at this
      rw [this]; exact tot_list _ tC
    have HQc : Hid (∀ W, Touch (fun _ => False) w W → Calls Tryz.prog 20 #[.slice ao A.length ca] W fun e w' => ∃ o c, e = .returned (.slice o (cleanR A).length c) ∧ Hid (SlRn w' (.slice o (cleanR A).length c) (cleanR A) ∧ Touch (fun _ => False) W w')) := fun W t => (qclean_any (hA.touch t) la.ok.dbl tA).mono fun e w' ⟨v', q1, q2, q3⟩ => by
      obtain ⟨o, c, rfl, -⟩ := q2.shape
      exact ⟨o, c, q1, q2, q3⟩
    have HS1 : Hid (∀ W a b, SlRn W a (cleanP A) → SlRn W b (cleanR A) → Calls Tryz.prog 19 #[a, b] W fun e w' => e = .returned (.bool true) ∧ Touch (fun _ => False) W w') := fun W a b h1 h2 => by
      have h := same_any h1 h2 (cn_dbl cA) (OkL.dbl oA) (tot_list _ tC) tR
      rw [same_join cA nA (OkL.dbl oA)] at h
      exact h
    have HX : Hid (∀ p : Nat, p ≤ lenL A → lenL (cutP A 0 p) = p ∧ lenL (cutP A p (lenL A)) = lenL A - p ∧ tot (cutP A 0 p) ≤ 2000 ∧ tot (cutP A p (lenL A)) ≤ 2000) := fun p hp => by
      have h1 := (cut_front la.ok p).len
      have h2 := (cut_back la.ok p).len
      rw [List.length_take, nrmU_len] at h1
      rw [List.length_drop, nrmU_len] at h2
      exact ⟨by omega, by omega, Nat.le_trans (cutP_tot _ _ _) la.t, Nat.le_trans (cutP_tot _ _ _) la.t⟩
    clear la hA hU cA tA tC nA oA tR HAr
    generalize lenL A = N at *
    have hw1 : IntKind.i64.wrap ((N : Int) + 1) = ((N + 1 : Nat) : Int) := by rw [IntKind.wrap_i64] <;> omega
    go_wp2_with fail
    refine (HLe.out _ T2.out).mono ?_
    rintro e W3 ⟨rfl, t3⟩
    have T3 : Hid (Touch (fun _ => False) w W3) := T2.out.trans t3
    clear t3 T2 HLe
    go_wp2_with fail
    refine (HPl.out (N + 1) _ (by omega)).mono ?_
    rintro e W3' ⟨p, rfl, hpl, rfl⟩
    clear HPl hw1
    obtain ⟨x1, x2, x3, x4⟩ := HX.out p (by omega)
    have HY : Hid (lenL (cutP A 0 (p : Int)) = p ∧ lenL (cutP A (p : Int) (N : Int)) = N - p ∧ tot (cutP A 0 (p : Int)) ≤ 2000 ∧ tot (cutP A (p : Int) (N : Int)) ≤ 2000) := ⟨x1, x2, x3, x4⟩
    have HCx : Hid (∀ W, Touch (fun _ => False) w W → Calls Tryz.prog 21 #[.slice ao A.length ca, .int .i64 0, .int .i64 (p : Int)] W fun e w' => ∃ o c, e = .returned (.slice o (cutP A 0 (p : Int)).length c) ∧ Hid (SlRn w' (.slice o (cutP A 0 (p : Int)).length c) (cutP A 0 (p : Int)) ∧ Touch (fun _ => False) W w')) := fun W t => HCu.out W 0 p t (by omega) (by omega)
    have HCy : Hid (∀ W, Touch (fun _ => False) w W → Calls Tryz.prog 21 #[.slice ao A.length ca, .int .i64 (p : Int), .int .i64 (N : Int)] W fun e w' => ∃ o c, e = .returned (.slice o (cutP A (p : Int) (N : Int)).length c) ∧ Hid (SlRn w' (.slice o (cutP A (p : Int) (N : Int)).length c) (cutP A (p : Int) (N : Int)) ∧ Touch (fun _ => False) W w')) := fun W t => HCu.out W p N t (by omega) (by omega)
    have HCz : Hid (∀ W v, Touch (fun _ => False) w W → SlRn W v (cutP A 0 (p : Int) ++ cutP A (p : Int) (N : Int)) → Calls Tryz.prog 18 #[v] W fun e w' => ∃ o c, e = .returned (.slice o (cleanP A).length c) ∧ Hid (SlRn w' (.slice o (cleanP A).length c) (cleanP A) ∧ Touch (fun _ => False) W w')) := fun W v t hs => HCl.out W v p t hs
    clear HX HCu HCl x1 x2 x3 x4
    generalize cutP A 0 (p : Int) = X at *
    generalize cutP A (p : Int) (N : Int) = Y at *
    generalize cleanP A = c1 at *
    generalize cleanR A = c2 at *
    generalize A.length = nA at *
    go_wp2_with fail
    refine (HCx.out _ T3.out).mono ?_
    rintro e W4 ⟨o4, k4, rfl, q4⟩
    have T4 : Hid (Touch (fun _ => False) w W4 ∧ SlRn W4 (.slice o4 X.length k4) X) := ⟨T3.out.trans q4.out.2, q4.out.1⟩
    clear T3 q4 HCx
    go_wp2_with fail
    refine (HCy.out _ T4.out.1).mono ?_
    rintro e W5 ⟨o5, k5, rfl, q5⟩
    have T5 : Hid (Touch (fun _ => False) w W5 ∧ SlRn W5 (.slice o4 X.length k4) X ∧ SlRn W5 (.slice o5 Y.length k5) Y) := ⟨T4.out.1.trans q5.out.2, T4.out.2.touch q5.out.2, q5.out.1⟩
    clear T4 q5 HCy
    go_wp2_with fail
    refine (HLn.out _ _ _ T5.out.1 T5.out.2.1 HY.out.2.2.1).mono ?_
    rintro e W6 ⟨rfl, t6⟩
    have T6 : Hid (Touch (fun _ => False) w W6 ∧ SlRn W6 (.slice o4 X.length k4) X ∧ SlRn W6 (.slice o5 Y.length k5) Y) := ⟨T5.out.1.trans t6, T5.out.2.1.touch t6, T5.out.2.2.touch t6⟩
    clear T5 t6
    rw [HY.out.1]
    go_wp2_with fail
    refine (HLn.out _ _ _ T6.out.1 T6.out.2.2 HY.out.2.2.2).mono ?_
    rintro e W7 ⟨rfl, t7⟩
    have T7 : Hid (Touch (fun _ => False) w W7 ∧ SlRn W7 (.slice o4 X.length k4) X ∧ SlRn W7 (.slice o5 Y.length k5) Y) := ⟨T6.out.1.trans t7, T6.out.2.1.touch t7, T6.out.2.2.touch t7⟩
    clear T6 t7
    rw [HY.out.2.1]
    obtain ⟨d, hd⟩ : ∃ d : Nat, Hid (d = N - p) := ⟨_, Eq.refl _⟩
    rw [← hd.out]
    have hw2 : IntKind.i64.wrap ((N : Int) - (p : Int)) = (d : Int) := by have := hd.out; rw [IntKind.wrap_i64] <;> omega
    have hXl : X.length ≤ 2000 := Nat.le_trans (tot_len X) HY.out.2.2.1
    have hYl : Y.length ≤ 2000 := Nat.le_trans (tot_len Y) HY.out.2.2.2
    obtain ⟨a1, k1, W8, hr1, n1⟩ := (Nu.nil W7 (Touch.refl (fun _ => False) W7)).apps T7.out.2.1 (by simp; omega)
    simp only [List.nil_append, List.length_nil, Nat.zero_add] at hr1 n1
    obtain ⟨a2, k2, W9, hr2, n2⟩ := n1.apps T7.out.2.2 (by omega)
    have HCw : Hid (Calls Tryz.prog 18 #[.slice a2 (X.length + Y.length) k2] W9 fun e w' => ∃ o c, e = .returned (.slice o c1.length c) ∧ Hid (SlRn w' (.slice o c1.length c) c1 ∧ Touch (fun _ => False) W9 w')) := HCz.out _ _ (T7.out.1.trans n2.t) n2.sl
    have T9 : Hid (Touch (fun _ => False) w W9) := T7.out.1.trans n2.t
    clear n1 n2 T7 HCz HLn HY hXl hYl
    generalize X.length + Y.length = nXY at *
    go_wp2_with (first | (at_builtin; refine wpList_append_wanted (by kernel_rfl) _ _ rfl _ _ _ rfl rfl hr1 ?_) | (at_builtin; refine wpList_append_wanted (by kernel_rfl) _ _ rfl _ _ _ rfl rfl hr2 ?_))
    refine HCw.out.mono ?_
    rintro e W10 ⟨o10, k10, rfl, q10⟩
    have T10 : Hid (Touch (fun _ => False) w W10) := T9.out.trans q10.out.2
    clear T9 HCw hr1 hr2
    go_wp2_with fail
    refine (HQc.out _ T10.out).mono ?_
    rintro e W11 ⟨o11, k11, rfl, q11⟩
    have T11 : Hid (Touch (fun _ => False) w W11 ∧ SlRn W11 (.slice o10 c1.length k10) c1) := ⟨T10.out.trans q11.out.2, q10.out.1.touch q11.out.2⟩
    clear T10 HQc q10
    go_wp2_with fail
    refine (HS1.out _ _ _ T11.out.2 q11.out.1).mono ?_
    rintro e W12 ⟨rfl, t12⟩
    have T12 : Hid (Touch (fun _ => False) w W12) := T11.out.1.trans t12
    clear T11 q11 t12 HS1
    go_wp2_with fail
    go_ret
    exact ⟨rfl, T12.out⟩
end Go.Proofs.YtijkekkjiboomaaGreatDoor
