/- quirelaw7.VectorJoin. -/
import Derived.Test.YtdblfabbmpdoiaaVAlg2
namespace Go.Proofs.Ytdblfabbmpdoiaa
open Go.RowKit Go.Maps
set_option linter.unusedVariables false
set_option linter.unusedSimpArgs false
set_option maxRecDepth 100000

set_option maxHeartbeats 8000000 in
theorem vectorJoin_any (w : World) (va : Value) (a : List Ck) (sa : SlC w va a) (vb : Value) (b : List Ck) (sb : SlC w vb b) :
    Calls Try.prog 4 #[va, vb] w fun e w' => e = .returned (.bool true) ∧ Touch (fun _ => False) w w' := by
  have Sa : Hid (SlC w va a) := sa
  have Sb : Hid (SlC w vb b) := sb
  obtain ⟨aoa, capa, rfl, _⟩ := sa
  obtain ⟨aob, capb, rfl, _⟩ := sb
  obtain ⟨fa, Ea⟩ : ∃ fa, Hid (atC a = fa) := ⟨_, rfl⟩
  obtain ⟨fb, Eb⟩ : ∃ fb, Hid (atC b = fb) := ⟨_, rfl⟩
  have HP : Hid ((∀ c, 0 ≤ fa c) ∧ ∀ c, 0 ≤ fb c) := ⟨fun c => by rw [← Ea.out]; exact (atC_pos a c).1, fun c => by rw [← Eb.out]; exact (atC_pos b c).1⟩
  have HI : Hid (inC a b = true ↔ ∀ c, fa c ≤ fb c) := by rw [Hid, inC_iff, Ea.out, Eb.out]
  have KN := vknown_any w
  have L0 := fun W => vlight_any a.length aoa capa W
  have L1 := fun W => vlight_any b.length aob capb W
  go_enter Try.func4, Try.ntmps4
  go_wp2_with fail
  refine KN.mono ?_
  rintro e w1 ⟨rfl, t1⟩
  have HT : Hid (Touch (fun _ => False) w w1) := t1
  clear t1 KN
  cases hd0 : decide (a.length ≤ 60) with
  | false =>
    rw [hd0] at L0
    go_wp2_with fail
    refine (L0 _).mono ?_
    rintro e w2 ⟨rfl, rfl⟩
    go_wp2_with fail
    go_ret
    exact ⟨rfl, HT.out⟩
  | true =>
  rw [hd0] at L0
  go_wp2_with fail
  refine (L0 _).mono ?_
  rintro e w2 ⟨rfl, hw⟩
  rw [hw]
  clear hw w2
  cases hd1 : decide (b.length ≤ 60) with
  | false =>
    rw [hd1] at L1
    go_wp2_with fail
    refine (L1 _).mono ?_
    rintro e w2 ⟨rfl, rfl⟩
    go_wp2_with fail
    go_ret
    exact ⟨rfl, HT.out⟩
  | true =>
  rw [hd1] at L1
  go_wp2_with fail
  refine (L1 _).mono ?_
  rintro e w2 ⟨rfl, hw⟩
  rw [hw]
  clear hw w2
  clear L0 L1
  have ha60 : a.length ≤ 60 := by simpa using hd0
  have hb60 : b.length ≤ 60 := by simpa using hd1
  have Ha : Hid (VLst w1 (.slice aoa a.length capa) (fun c => fa c) 60) := ⟨a, Sa.out.touch HT.out, fun c => by rw [Ea.out], by omega⟩
  have Hb : Hid (VLst w1 (.slice aob b.length capb) (fun c => fb c) 60) := ⟨b, Sb.out.touch HT.out, fun c => by rw [Eb.out], by omega⟩
  clear Sa Sb Ea Eb
  have K := vjoin_set Ha.out Hb.out (by omega) (by omega)
  go_wp2_with fail
  refine K.mono ?_
  rintro e w2 ⟨v2, rfl, h2, t2⟩
  obtain ⟨ao2, n2, cap2, rfl⟩ := h2.shape
  replace Ha : Hid (VLst w2 (.slice aoa a.length capa) (fun c => fa c) 60) := Ha.out.touch t2
  replace Hb : Hid (VLst w2 (.slice aob b.length capb) (fun c => fb c) 60) := Hb.out.touch t2
  replace HT : Hid (Touch (fun _ => False) w w2) := HT.out.trans t2
  have Hj : Hid (VCst w2 (.slice ao2 n2 cap2) (fun c => max (fa c) (fb c)) 241) := h2
  clear h2 t2 K
  have K := vmeet_set Ha.out Hb.out (by omega) (by omega)
  go_wp2_with fail
  refine K.mono ?_
  rintro e w3 ⟨v3, rfl, h3, t3⟩
  obtain ⟨ao3, n3, cap3, rfl⟩ := h3.shape
  replace Ha : Hid (VLst w3 (.slice aoa a.length capa) (fun c => fa c) 60) := Ha.out.touch t3
  replace Hb : Hid (VLst w3 (.slice aob b.length capb) (fun c => fb c) 60) := Hb.out.touch t3
  replace Hj : Hid (VCst w3 (.slice ao2 n2 cap2) (fun c => max (fa c) (fb c)) 241) := Hj.out.touch t3
  replace HT : Hid (Touch (fun _ => False) w w3) := HT.out.trans t3
  have Hm : Hid (VCst w3 (.slice ao3 n3 cap3) (fun c => min (fa c) (fb c)) 241) := h3
  clear h3 t3 K
  have K := vmissing_set Ha.out Hb.out (by omega) (by omega)
  go_wp2_with fail
  refine K.mono ?_
  rintro e w4 ⟨v4, rfl, h4, t4⟩
  obtain ⟨ao4, n4, cap4, rfl⟩ := h4.shape
  replace Ha : Hid (VLst w4 (.slice aoa a.length capa) (fun c => fa c) 60) := Ha.out.touch t4
  replace Hb : Hid (VLst w4 (.slice aob b.length capb) (fun c => fb c) 60) := Hb.out.touch t4
  replace Hj : Hid (VCst w4 (.slice ao2 n2 cap2) (fun c => max (fa c) (fb c)) 241) := Hj.out.touch t4
  replace Hm : Hid (VCst w4 (.slice ao3 n3 cap3) (fun c => min (fa c) (fb c)) 241) := Hm.out.touch t4
  replace HT : Hid (Touch (fun _ => False) w w4) := HT.out.trans t4
  have Hx : Hid (Cst w4 (.slice ao4 n4 cap4) (lack (fun c => fa c) (fun c => fb c)) 241) := h4
  clear h4 t4 K
  have K := rvjoin_set Ha.out Hb.out (by omega) (by omega)
  go_wp2_with fail
  refine K.mono ?_
  rintro e w5 ⟨v5, rfl, h5, t5⟩
  obtain ⟨ao5, n5, cap5, rfl⟩ := h5.shape
  replace Ha : Hid (VLst w5 (.slice aoa a.length capa) (fun c => fa c) 60) := Ha.out.touch t5
  replace Hb : Hid (VLst w5 (.slice aob b.length capb) (fun c => fb c) 60) := Hb.out.touch t5
  replace Hj : Hid (VCst w5 (.slice ao2 n2 cap2) (fun c => max (fa c) (fb c)) 241) := Hj.out.touch t5
  replace Hm : Hid (VCst w5 (.slice ao3 n3 cap3) (fun c => min (fa c) (fb c)) 241) := Hm.out.touch t5
  replace Hx : Hid (Cst w5 (.slice ao4 n4 cap4) (lack (fun c => fa c) (fun c => fb c)) 241) := Hx.out.touch t5
  replace HT : Hid (Touch (fun _ => False) w w5) := HT.out.trans t5
  have Hy : Hid (VRef w5 (.slice ao5 n5 cap5) (fun c => max (fa c) (fb c))) := h5
  clear h5 t5 K
  have K := vsame_ref Hj.out Hy.out (fun c => rfl) (by omega)
  go_wp2_with fail
  refine K.mono ?_
  rintro e w6 ⟨rfl, t6⟩
  replace Ha : Hid (VLst w6 (.slice aoa a.length capa) (fun c => fa c) 60) := Ha.out.touch t6
  replace Hb : Hid (VLst w6 (.slice aob b.length capb) (fun c => fb c) 60) := Hb.out.touch t6
  replace Hj : Hid (VCst w6 (.slice ao2 n2 cap2) (fun c => max (fa c) (fb c)) 241) := Hj.out.touch t6
  replace Hm : Hid (VCst w6 (.slice ao3 n3 cap3) (fun c => min (fa c) (fb c)) 241) := Hm.out.touch t6
  replace Hx : Hid (Cst w6 (.slice ao4 n4 cap4) (lack (fun c => fa c) (fun c => fb c)) 241) := Hx.out.touch t6
  replace Hy : Hid (VRef w6 (.slice ao5 n5 cap5) (fun c => max (fa c) (fb c))) := Hy.out.touch t6
  replace HT : Hid (Touch (fun _ => False) w w6) := HT.out.trans t6
  clear t6 K
  clear Hy
  have K := rvmeet_set Ha.out Hb.out (by omega) (by omega)
  go_wp2_with fail
  refine K.mono ?_
  rintro e w7 ⟨v7, rfl, h7, t7⟩
  obtain ⟨ao7, n7, cap7, rfl⟩ := h7.shape
  replace Ha : Hid (VLst w7 (.slice aoa a.length capa) (fun c => fa c) 60) := Ha.out.touch t7
  replace Hb : Hid (VLst w7 (.slice aob b.length capb) (fun c => fb c) 60) := Hb.out.touch t7
  replace Hj : Hid (VCst w7 (.slice ao2 n2 cap2) (fun c => max (fa c) (fb c)) 241) := Hj.out.touch t7
  replace Hm : Hid (VCst w7 (.slice ao3 n3 cap3) (fun c => min (fa c) (fb c)) 241) := Hm.out.touch t7
  replace Hx : Hid (Cst w7 (.slice ao4 n4 cap4) (lack (fun c => fa c) (fun c => fb c)) 241) := Hx.out.touch t7
  replace HT : Hid (Touch (fun _ => False) w w7) := HT.out.trans t7
  have Hy : Hid (VRef w7 (.slice ao7 n7 cap7) (fun c => min (fa c) (fb c))) := h7
  clear h7 t7 K
  have K := vsame_ref Hm.out Hy.out (fun c => rfl) (by omega)
  go_wp2_with fail
  refine K.mono ?_
  rintro e w8 ⟨rfl, t8⟩
  replace Ha : Hid (VLst w8 (.slice aoa a.length capa) (fun c => fa c) 60) := Ha.out.touch t8
  replace Hb : Hid (VLst w8 (.slice aob b.length capb) (fun c => fb c) 60) := Hb.out.touch t8
  replace Hj : Hid (VCst w8 (.slice ao2 n2 cap2) (fun c => max (fa c) (fb c)) 241) := Hj.out.touch t8
  replace Hm : Hid (VCst w8 (.slice ao3 n3 cap3) (fun c => min (fa c) (fb c)) 241) := Hm.out.touch t8
  replace Hx : Hid (Cst w8 (.slice ao4 n4 cap4) (lack (fun c => fa c) (fun c => fb c)) 241) := Hx.out.touch t8
  replace Hy : Hid (VRef w8 (.slice ao7 n7 cap7) (fun c => min (fa c) (fb c))) := Hy.out.touch t8
  replace HT : Hid (Touch (fun _ => False) w w8) := HT.out.trans t8
  clear t8 K
  clear Hy
  have K := rvmissing_set Ha.out Hb.out (by omega) (by omega)
  go_wp2_with fail
  refine K.mono ?_
  rintro e w9 ⟨v9, rfl, h9, t9⟩
  obtain ⟨ao9, n9, cap9, rfl⟩ := h9.shape
  replace Ha : Hid (VLst w9 (.slice aoa a.length capa) (fun c => fa c) 60) := Ha.out.touch t9
  replace Hb : Hid (VLst w9 (.slice aob b.length capb) (fun c => fb c) 60) := Hb.out.touch t9
  replace Hj : Hid (VCst w9 (.slice ao2 n2 cap2) (fun c => max (fa c) (fb c)) 241) := Hj.out.touch t9
  replace Hm : Hid (VCst w9 (.slice ao3 n3 cap3) (fun c => min (fa c) (fb c)) 241) := Hm.out.touch t9
  replace Hx : Hid (Cst w9 (.slice ao4 n4 cap4) (lack (fun c => fa c) (fun c => fb c)) 241) := Hx.out.touch t9
  replace HT : Hid (Touch (fun _ => False) w w9) := HT.out.trans t9
  have Hy : Hid (RRef w9 (.slice ao9 n9 cap9) (lack (fun c => fa c) (fun c => fb c))) := h9
  clear h9 t9 K
  have K := rsame_ref Hx.out Hy.out (fun c k => rfl) (by omega)
  go_wp2_with fail
  refine K.mono ?_
  rintro e w10 ⟨rfl, t10⟩
  replace Ha : Hid (VLst w10 (.slice aoa a.length capa) (fun c => fa c) 60) := Ha.out.touch t10
  replace Hb : Hid (VLst w10 (.slice aob b.length capb) (fun c => fb c) 60) := Hb.out.touch t10
  replace Hj : Hid (VCst w10 (.slice ao2 n2 cap2) (fun c => max (fa c) (fb c)) 241) := Hj.out.touch t10
  replace Hm : Hid (VCst w10 (.slice ao3 n3 cap3) (fun c => min (fa c) (fb c)) 241) := Hm.out.touch t10
  replace Hx : Hid (Cst w10 (.slice ao4 n4 cap4) (lack (fun c => fa c) (fun c => fb c)) 241) := Hx.out.touch t10
  replace Hy : Hid (RRef w10 (.slice ao9 n9 cap9) (lack (fun c => fa c) (fun c => fb c))) := Hy.out.touch t10
  replace HT : Hid (Touch (fun _ => False) w w10) := HT.out.trans t10
  clear t10 K
  clear Hy
  clear Hx
  obtain ⟨wb, HW⟩ : ∃ wb : Bool, Hid (wb = true ↔ ∀ c, fa c ≤ fb c) := ⟨inC a b, HI.out⟩
  clear HI
  cases wb with
  | true =>
    have HV : Hid (∀ c, fa c ≤ fb c) := HW.out.1 rfl
    clear HW
    have K := vwithin_set Ha.out Hb.out (by omega) (by omega) true ⟨fun _ => HV.out, fun _ => rfl⟩
    go_wp2_with fail
    refine K.mono ?_
    rintro e w11 ⟨rfl, t11⟩
    replace Ha : Hid (VLst w11 (.slice aoa a.length capa) (fun c => fa c) 60) := Ha.out.touch t11
    replace Hb : Hid (VLst w11 (.slice aob b.length capb) (fun c => fb c) 60) := Hb.out.touch t11
    replace Hj : Hid (VCst w11 (.slice ao2 n2 cap2) (fun c => max (fa c) (fb c)) 241) := Hj.out.touch t11
    replace Hm : Hid (VCst w11 (.slice ao3 n3 cap3) (fun c => min (fa c) (fb c)) 241) := Hm.out.touch t11
    replace HT : Hid (Touch (fun _ => False) w w11) := HT.out.trans t11
    clear t11 K
    have K := rvwithin_set Ha.out Hb.out (by omega) (by omega) true ⟨fun _ => HV.out, fun _ => rfl⟩
    go_wp2_with fail
    refine K.mono ?_
    rintro e w12 ⟨rfl, t12⟩
    replace Ha : Hid (VLst w12 (.slice aoa a.length capa) (fun c => fa c) 60) := Ha.out.touch t12
    replace Hb : Hid (VLst w12 (.slice aob b.length capb) (fun c => fb c) 60) := Hb.out.touch t12
    replace Hj : Hid (VCst w12 (.slice ao2 n2 cap2) (fun c => max (fa c) (fb c)) 241) := Hj.out.touch t12
    replace Hm : Hid (VCst w12 (.slice ao3 n3 cap3) (fun c => min (fa c) (fb c)) 241) := Hm.out.touch t12
    replace HT : Hid (Touch (fun _ => False) w w12) := HT.out.trans t12
    clear t12 K
    have K := vwithin_set Ha.out Hb.out (by omega) (by omega) true ⟨fun _ => HV.out, fun _ => rfl⟩
    go_wp2_with fail
    refine K.mono ?_
    rintro e w13 ⟨rfl, t13⟩
    replace Ha : Hid (VLst w13 (.slice aoa a.length capa) (fun c => fa c) 60) := Ha.out.touch t13
    replace Hb : Hid (VLst w13 (.slice aob b.length capb) (fun c => fb c) 60) := Hb.out.touch t13
    replace Hj : Hid (VCst w13 (.slice ao2 n2 cap2) (fun c => max (fa c) (fb c)) 241) := Hj.out.touch t13
    replace Hm : Hid (VCst w13 (.slice ao3 n3 cap3) (fun c => min (fa c) (fb c)) 241) := Hm.out.touch t13
    replace HT : Hid (Touch (fun _ => False) w w13) := HT.out.trans t13
    clear t13 K
    have K := vmissing_set Hb.out Ha.out (by omega) (by omega)
    go_wp2_with fail
    refine K.mono ?_
    rintro e w14 ⟨v14, rfl, h14, t14⟩
    obtain ⟨ao14, n14, cap14, rfl⟩ := h14.shape
    replace Ha : Hid (VLst w14 (.slice aoa a.length capa) (fun c => fa c) 60) := Ha.out.touch t14
    replace Hb : Hid (VLst w14 (.slice aob b.length capb) (fun c => fb c) 60) := Hb.out.touch t14
    replace Hj : Hid (VCst w14 (.slice ao2 n2 cap2) (fun c => max (fa c) (fb c)) 241) := Hj.out.touch t14
    replace Hm : Hid (VCst w14 (.slice ao3 n3 cap3) (fun c => min (fa c) (fb c)) 241) := Hm.out.touch t14
    replace HT : Hid (Touch (fun _ => False) w w14) := HT.out.trans t14
    have Hz : Hid (Cst w14 (.slice ao14 n14 cap14) (lack (fun c => fb c) (fun c => fa c)) 241) := h14
    clear h14 t14 K
    have hz0 : n14 = 0 := (lack_len Hz.out (fun c => HP.out.2 c)).2 HV.out
    subst hz0
    clear Hz
    have K := vwithin_set Hm.out.lst Ha.out (by omega) (by omega) true (by simp only [true_iff]; intro c; omega)
    go_wp2_with fail
    refine K.mono ?_
    rintro e w15 ⟨rfl, t15⟩
    replace Ha : Hid (VLst w15 (.slice aoa a.length capa) (fun c => fa c) 60) := Ha.out.touch t15
    replace Hb : Hid (VLst w15 (.slice aob b.length capb) (fun c => fb c) 60) := Hb.out.touch t15
    replace Hj : Hid (VCst w15 (.slice ao2 n2 cap2) (fun c => max (fa c) (fb c)) 241) := Hj.out.touch t15
    replace Hm : Hid (VCst w15 (.slice ao3 n3 cap3) (fun c => min (fa c) (fb c)) 241) := Hm.out.touch t15
    replace HT : Hid (Touch (fun _ => False) w w15) := HT.out.trans t15
    clear t15 K
    have K := vwithin_set Hm.out.lst Hb.out (by omega) (by omega) true (by simp only [true_iff]; intro c; omega)
    go_wp2_with fail
    refine K.mono ?_
    rintro e w16 ⟨rfl, t16⟩
    replace Ha : Hid (VLst w16 (.slice aoa a.length capa) (fun c => fa c) 60) := Ha.out.touch t16
    replace Hb : Hid (VLst w16 (.slice aob b.length capb) (fun c => fb c) 60) := Hb.out.touch t16
    replace Hj : Hid (VCst w16 (.slice ao2 n2 cap2) (fun c => max (fa c) (fb c)) 241) := Hj.out.touch t16
    replace Hm : Hid (VCst w16 (.slice ao3 n3 cap3) (fun c => min (fa c) (fb c)) 241) := Hm.out.touch t16
    replace HT : Hid (Touch (fun _ => False) w w16) := HT.out.trans t16
    clear t16 K
    have K := vwithin_set Ha.out Hj.out.lst (by omega) (by omega) true (by simp only [true_iff]; intro c; omega)
    go_wp2_with fail
    refine K.mono ?_
    rintro e w17 ⟨rfl, t17⟩
    replace Ha : Hid (VLst w17 (.slice aoa a.length capa) (fun c => fa c) 60) := Ha.out.touch t17
    replace Hb : Hid (VLst w17 (.slice aob b.length capb) (fun c => fb c) 60) := Hb.out.touch t17
    replace Hj : Hid (VCst w17 (.slice ao2 n2 cap2) (fun c => max (fa c) (fb c)) 241) := Hj.out.touch t17
    replace Hm : Hid (VCst w17 (.slice ao3 n3 cap3) (fun c => min (fa c) (fb c)) 241) := Hm.out.touch t17
    replace HT : Hid (Touch (fun _ => False) w w17) := HT.out.trans t17
    clear t17 K
    have K := vwithin_set Hb.out Hj.out.lst (by omega) (by omega) true (by simp only [true_iff]; intro c; omega)
    go_wp2_with fail
    refine K.mono ?_
    rintro e w18 ⟨rfl, t18⟩
    replace Ha : Hid (VLst w18 (.slice aoa a.length capa) (fun c => fa c) 60) := Ha.out.touch t18
    replace Hb : Hid (VLst w18 (.slice aob b.length capb) (fun c => fb c) 60) := Hb.out.touch t18
    replace Hj : Hid (VCst w18 (.slice ao2 n2 cap2) (fun c => max (fa c) (fb c)) 241) := Hj.out.touch t18
    replace Hm : Hid (VCst w18 (.slice ao3 n3 cap3) (fun c => min (fa c) (fb c)) 241) := Hm.out.touch t18
    replace HT : Hid (Touch (fun _ => False) w w18) := HT.out.trans t18
    clear t18 K
    go_wp2_with fail
    go_ret
    exact ⟨by first | rfl | simp_all, HT.out⟩
  | false =>
    have HV : Hid (¬ ∀ c, fa c ≤ fb c) := fun h => by have := HW.out.2 h; cases this
    clear HW
    have K := vwithin_set Ha.out Hb.out (by omega) (by omega) false ⟨fun h => (by cases h), fun h => absurd h HV.out⟩
    go_wp2_with fail
    refine K.mono ?_
    rintro e w11 ⟨rfl, t11⟩
    replace Ha : Hid (VLst w11 (.slice aoa a.length capa) (fun c => fa c) 60) := Ha.out.touch t11
    replace Hb : Hid (VLst w11 (.slice aob b.length capb) (fun c => fb c) 60) := Hb.out.touch t11
    replace Hj : Hid (VCst w11 (.slice ao2 n2 cap2) (fun c => max (fa c) (fb c)) 241) := Hj.out.touch t11
    replace Hm : Hid (VCst w11 (.slice ao3 n3 cap3) (fun c => min (fa c) (fb c)) 241) := Hm.out.touch t11
    replace HT : Hid (Touch (fun _ => False) w w11) := HT.out.trans t11
    clear t11 K
    have K := rvwithin_set Ha.out Hb.out (by omega) (by omega) false ⟨fun h => (by cases h), fun h => absurd h HV.out⟩
    go_wp2_with fail
    refine K.mono ?_
    rintro e w12 ⟨rfl, t12⟩
    replace Ha : Hid (VLst w12 (.slice aoa a.length capa) (fun c => fa c) 60) := Ha.out.touch t12
    replace Hb : Hid (VLst w12 (.slice aob b.length capb) (fun c => fb c) 60) := Hb.out.touch t12
    replace Hj : Hid (VCst w12 (.slice ao2 n2 cap2) (fun c => max (fa c) (fb c)) 241) := Hj.out.touch t12
    replace Hm : Hid (VCst w12 (.slice ao3 n3 cap3) (fun c => min (fa c) (fb c)) 241) := Hm.out.touch t12
    replace HT : Hid (Touch (fun _ => False) w w12) := HT.out.trans t12
    clear t12 K
    have K := vwithin_set Ha.out Hb.out (by omega) (by omega) false ⟨fun h => (by cases h), fun h => absurd h HV.out⟩
    go_wp2_with fail
    refine K.mono ?_
    rintro e w13 ⟨rfl, t13⟩
    replace Ha : Hid (VLst w13 (.slice aoa a.length capa) (fun c => fa c) 60) := Ha.out.touch t13
    replace Hb : Hid (VLst w13 (.slice aob b.length capb) (fun c => fb c) 60) := Hb.out.touch t13
    replace Hj : Hid (VCst w13 (.slice ao2 n2 cap2) (fun c => max (fa c) (fb c)) 241) := Hj.out.touch t13
    replace Hm : Hid (VCst w13 (.slice ao3 n3 cap3) (fun c => min (fa c) (fb c)) 241) := Hm.out.touch t13
    replace HT : Hid (Touch (fun _ => False) w w13) := HT.out.trans t13
    clear t13 K
    have K := vmissing_set Hb.out Ha.out (by omega) (by omega)
    go_wp2_with fail
    refine K.mono ?_
    rintro e w14 ⟨v14, rfl, h14, t14⟩
    obtain ⟨ao14, n14, cap14, rfl⟩ := h14.shape
    replace Ha : Hid (VLst w14 (.slice aoa a.length capa) (fun c => fa c) 60) := Ha.out.touch t14
    replace Hb : Hid (VLst w14 (.slice aob b.length capb) (fun c => fb c) 60) := Hb.out.touch t14
    replace Hj : Hid (VCst w14 (.slice ao2 n2 cap2) (fun c => max (fa c) (fb c)) 241) := Hj.out.touch t14
    replace Hm : Hid (VCst w14 (.slice ao3 n3 cap3) (fun c => min (fa c) (fb c)) 241) := Hm.out.touch t14
    replace HT : Hid (Touch (fun _ => False) w w14) := HT.out.trans t14
    have Hz : Hid (Cst w14 (.slice ao14 n14 cap14) (lack (fun c => fb c) (fun c => fa c)) 241) := h14
    clear h14 t14 K
    have hz0 : ¬ n14 = 0 := fun h => HV.out ((lack_len Hz.out (fun c => HP.out.2 c)).1 h)
    have hz1 : ¬ ((n14 : Int) = 0) := by omega
    have hz2 : ((n14 : Int) == 0) = false := by simpa using hz1
    clear hz0 hz1
    clear Hz
    have K := vwithin_set Hm.out.lst Ha.out (by omega) (by omega) true (by simp only [true_iff]; intro c; omega)
    go_wp2_with fail
    refine K.mono ?_
    rintro e w15 ⟨rfl, t15⟩
    replace Ha : Hid (VLst w15 (.slice aoa a.length capa) (fun c => fa c) 60) := Ha.out.touch t15
    replace Hb : Hid (VLst w15 (.slice aob b.length capb) (fun c => fb c) 60) := Hb.out.touch t15
    replace Hj : Hid (VCst w15 (.slice ao2 n2 cap2) (fun c => max (fa c) (fb c)) 241) := Hj.out.touch t15
    replace Hm : Hid (VCst w15 (.slice ao3 n3 cap3) (fun c => min (fa c) (fb c)) 241) := Hm.out.touch t15
    replace HT : Hid (Touch (fun _ => False) w w15) := HT.out.trans t15
    clear t15 K
    have K := vwithin_set Hm.out.lst Hb.out (by omega) (by omega) true (by simp only [true_iff]; intro c; omega)
    go_wp2_with fail
    refine K.mono ?_
    rintro e w16 ⟨rfl, t16⟩
    replace Ha : Hid (VLst w16 (.slice aoa a.length capa) (fun c => fa c) 60) := Ha.out.touch t16
    replace Hb : Hid (VLst w16 (.slice aob b.length capb) (fun c => fb c) 60) := Hb.out.touch t16
    replace Hj : Hid (VCst w16 (.slice ao2 n2 cap2) (fun c => max (fa c) (fb c)) 241) := Hj.out.touch t16
    replace Hm : Hid (VCst w16 (.slice ao3 n3 cap3) (fun c => min (fa c) (fb c)) 241) := Hm.out.touch t16
    replace HT : Hid (Touch (fun _ => False) w w16) := HT.out.trans t16
    clear t16 K
    have K := vwithin_set Ha.out Hj.out.lst (by omega) (by omega) true (by simp only [true_iff]; intro c; omega)
    go_wp2_with fail
    refine K.mono ?_
    rintro e w17 ⟨rfl, t17⟩
    replace Ha : Hid (VLst w17 (.slice aoa a.length capa) (fun c => fa c) 60) := Ha.out.touch t17
    replace Hb : Hid (VLst w17 (.slice aob b.length capb) (fun c => fb c) 60) := Hb.out.touch t17
    replace Hj : Hid (VCst w17 (.slice ao2 n2 cap2) (fun c => max (fa c) (fb c)) 241) := Hj.out.touch t17
    replace Hm : Hid (VCst w17 (.slice ao3 n3 cap3) (fun c => min (fa c) (fb c)) 241) := Hm.out.touch t17
    replace HT : Hid (Touch (fun _ => False) w w17) := HT.out.trans t17
    clear t17 K
    have K := vwithin_set Hb.out Hj.out.lst (by omega) (by omega) true (by simp only [true_iff]; intro c; omega)
    go_wp2_with fail
    refine K.mono ?_
    rintro e w18 ⟨rfl, t18⟩
    replace Ha : Hid (VLst w18 (.slice aoa a.length capa) (fun c => fa c) 60) := Ha.out.touch t18
    replace Hb : Hid (VLst w18 (.slice aob b.length capb) (fun c => fb c) 60) := Hb.out.touch t18
    replace Hj : Hid (VCst w18 (.slice ao2 n2 cap2) (fun c => max (fa c) (fb c)) 241) := Hj.out.touch t18
    replace Hm : Hid (VCst w18 (.slice ao3 n3 cap3) (fun c => min (fa c) (fb c)) 241) := Hm.out.touch t18
    replace HT : Hid (Touch (fun _ => False) w w18) := HT.out.trans t18
    clear t18 K
    go_wp2_with fail
    go_ret
    exact ⟨by first | rfl | simp_all, HT.out⟩
end Go.Proofs.Ytdblfabbmpdoiaa
