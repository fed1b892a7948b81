/- quirelaw7.VectorLaws. -/
import Derived.Test.YtdblfabbmpdoiaaVAlg
namespace Go.Proofs.Ytdblfabbmpdoiaa
open Go.RowKit Go.Maps
set_option linter.unusedVariables false
set_option linter.unusedSimpArgs false
set_option maxRecDepth 100000

set_option maxHeartbeats 8000000 in
theorem vectorLaws_any (w : World) (va : Value) (a : List Ck) (sa : SlC w va a) (vb : Value) (b : List Ck) (sb : SlC w vb b) (vc : Value) (c : List Ck) (sc : SlC w vc c) :
    Calls Try.prog 5 #[va, vb, vc] w fun e w' => e = .returned (.bool true) ∧ Touch (fun _ => False) w w' := by
  have Sa : Hid (SlC w va a) := sa
  have Sb : Hid (SlC w vb b) := sb
  have Sc : Hid (SlC w vc c) := sc
  obtain ⟨aoa, capa, rfl, _⟩ := sa
  obtain ⟨aob, capb, rfl, _⟩ := sb
  obtain ⟨aoc, capc, rfl, _⟩ := sc
  obtain ⟨fa, Ea⟩ : ∃ fa, Hid (atC a = fa) := ⟨_, rfl⟩
  obtain ⟨fb, Eb⟩ : ∃ fb, Hid (atC b = fb) := ⟨_, rfl⟩
  obtain ⟨fc, Ec⟩ : ∃ fc, Hid (atC c = fc) := ⟨_, rfl⟩
  have KN := vknown_any w
  have L0 := fun W => vlight_any a.length aoa capa W
  have L1 := fun W => vlight_any b.length aob capb W
  have L2 := fun W => vlight_any c.length aoc capc W
  go_enter Try.func5, Try.ntmps5
  go_wp2_with fail
  refine KN.mono ?_
  rintro e w1 ⟨rfl, t1⟩
  have HT : Hid (Touch (fun _ => False) w w1) := t1
  clear t1 KN
  cases hd0 : decide (a.length ≤ 60) with
  | false =>
    rw [hd0] at L0
    go_wp2_with fail
    refine (L0 _).mono ?_
    rintro e w2 ⟨rfl, rfl⟩
    go_wp2_with fail
    go_ret
    exact ⟨rfl, HT.out⟩
  | true =>
  rw [hd0] at L0
  go_wp2_with fail
  refine (L0 _).mono ?_
  rintro e w2 ⟨rfl, hw⟩
  rw [hw]
  clear hw w2
  cases hd1 : decide (b.length ≤ 60) with
  | false =>
    rw [hd1] at L1
    go_wp2_with fail
    refine (L1 _).mono ?_
    rintro e w2 ⟨rfl, rfl⟩
    go_wp2_with fail
    go_ret
    exact ⟨rfl, HT.out⟩
  | true =>
  rw [hd1] at L1
  go_wp2_with fail
  refine (L1 _).mono ?_
  rintro e w2 ⟨rfl, hw⟩
  rw [hw]
  clear hw w2
  cases hd2 : decide (c.length ≤ 60) with
  | false =>
    rw [hd2] at L2
    go_wp2_with fail
    refine (L2 _).mono ?_
    rintro e w2 ⟨rfl, rfl⟩
    go_wp2_with fail
    go_ret
    exact ⟨rfl, HT.out⟩
  | true =>
  rw [hd2] at L2
  go_wp2_with fail
  refine (L2 _).mono ?_
  rintro e w2 ⟨rfl, hw⟩
  rw [hw]
  clear hw w2
  clear L0 L1 L2
  have ha60 : a.length ≤ 60 := by simpa using hd0
  have hb60 : b.length ≤ 60 := by simpa using hd1
  have hc60 : c.length ≤ 60 := by simpa using hd2
  have Ha : Hid (VLst w1 (.slice aoa a.length capa) (fun c => fa c) 60) := ⟨a, Sa.out.touch HT.out, fun c => by rw [Ea.out], by omega⟩
  have Hb : Hid (VLst w1 (.slice aob b.length capb) (fun c => fb c) 60) := ⟨b, Sb.out.touch HT.out, fun c => by rw [Eb.out], by omega⟩
  have Hc : Hid (VLst w1 (.slice aoc c.length capc) (fun c => fc c) 60) := ⟨c, Sc.out.touch HT.out, fun c => by rw [Ec.out], by omega⟩
  clear Sa Sb Sc Ea Eb Ec
  have K := vjoin_set Ha.out Hb.out (by omega) (by omega)
  go_wp2_with fail
  refine K.mono ?_
  rintro e w2 ⟨v2, rfl, h2, t2⟩
  obtain ⟨ao2, n2, cap2, rfl⟩ := h2.shape
  replace Ha : Hid (VLst w2 (.slice aoa a.length capa) (fun c => fa c) 60) := Ha.out.touch t2
  replace Hb : Hid (VLst w2 (.slice aob b.length capb) (fun c => fb c) 60) := Hb.out.touch t2
  replace Hc : Hid (VLst w2 (.slice aoc c.length capc) (fun c => fc c) 60) := Hc.out.touch t2
  replace HT : Hid (Touch (fun _ => False) w w2) := HT.out.trans t2
  have Hx : Hid (VCst w2 (.slice ao2 n2 cap2) (fun c => max (fa c) (fb c)) 241) := h2
  clear h2 t2 K
  have K := vjoin_set Hb.out Ha.out (by omega) (by omega)
  go_wp2_with fail
  refine K.mono ?_
  rintro e w3 ⟨v3, rfl, h3, t3⟩
  obtain ⟨ao3, n3, cap3, rfl⟩ := h3.shape
  replace Ha : Hid (VLst w3 (.slice aoa a.length capa) (fun c => fa c) 60) := Ha.out.touch t3
  replace Hb : Hid (VLst w3 (.slice aob b.length capb) (fun c => fb c) 60) := Hb.out.touch t3
  replace Hc : Hid (VLst w3 (.slice aoc c.length capc) (fun c => fc c) 60) := Hc.out.touch t3
  replace Hx : Hid (VCst w3 (.slice ao2 n2 cap2) (fun c => max (fa c) (fb c)) 241) := Hx.out.touch t3
  replace HT : Hid (Touch (fun _ => False) w w3) := HT.out.trans t3
  have Hy : Hid (VCst w3 (.slice ao3 n3 cap3) (fun c => max (fb c) (fa c)) 241) := h3
  clear h3 t3 K
  have K := vsame_set Hx.out Hy.out (fun c => by omega) (by omega)
  go_wp2_with fail
  refine K.mono ?_
  rintro e w4 ⟨rfl, t4⟩
  replace Ha : Hid (VLst w4 (.slice aoa a.length capa) (fun c => fa c) 60) := Ha.out.touch t4
  replace Hb : Hid (VLst w4 (.slice aob b.length capb) (fun c => fb c) 60) := Hb.out.touch t4
  replace Hc : Hid (VLst w4 (.slice aoc c.length capc) (fun c => fc c) 60) := Hc.out.touch t4
  replace Hx : Hid (VCst w4 (.slice ao2 n2 cap2) (fun c => max (fa c) (fb c)) 241) := Hx.out.touch t4
  replace Hy : Hid (VCst w4 (.slice ao3 n3 cap3) (fun c => max (fb c) (fa c)) 241) := Hy.out.touch t4
  replace HT : Hid (Touch (fun _ => False) w w4) := HT.out.trans t4
  clear t4 K
  clear Hx
  clear Hy
  have K := vmeet_set Ha.out Hb.out (by omega) (by omega)
  go_wp2_with fail
  refine K.mono ?_
  rintro e w5 ⟨v5, rfl, h5, t5⟩
  obtain ⟨ao5, n5, cap5, rfl⟩ := h5.shape
  replace Ha : Hid (VLst w5 (.slice aoa a.length capa) (fun c => fa c) 60) := Ha.out.touch t5
  replace Hb : Hid (VLst w5 (.slice aob b.length capb) (fun c => fb c) 60) := Hb.out.touch t5
  replace Hc : Hid (VLst w5 (.slice aoc c.length capc) (fun c => fc c) 60) := Hc.out.touch t5
  replace HT : Hid (Touch (fun _ => False) w w5) := HT.out.trans t5
  have Hx : Hid (VCst w5 (.slice ao5 n5 cap5) (fun c => min (fa c) (fb c)) 241) := h5
  clear h5 t5 K
  have K := vmeet_set Hb.out Ha.out (by omega) (by omega)
  go_wp2_with fail
  refine K.mono ?_
  rintro e w6 ⟨v6, rfl, h6, t6⟩
  obtain ⟨ao6, n6, cap6, rfl⟩ := h6.shape
  replace Ha : Hid (VLst w6 (.slice aoa a.length capa) (fun c => fa c) 60) := Ha.out.touch t6
  replace Hb : Hid (VLst w6 (.slice aob b.length capb) (fun c => fb c) 60) := Hb.out.touch t6
  replace Hc : Hid (VLst w6 (.slice aoc c.length capc) (fun c => fc c) 60) := Hc.out.touch t6
  replace Hx : Hid (VCst w6 (.slice ao5 n5 cap5) (fun c => min (fa c) (fb c)) 241) := Hx.out.touch t6
  replace HT : Hid (Touch (fun _ => False) w w6) := HT.out.trans t6
  have Hy : Hid (VCst w6 (.slice ao6 n6 cap6) (fun c => min (fb c) (fa c)) 241) := h6
  clear h6 t6 K
  have K := vsame_set Hx.out Hy.out (fun c => by omega) (by omega)
  go_wp2_with fail
  refine K.mono ?_
  rintro e w7 ⟨rfl, t7⟩
  replace Ha : Hid (VLst w7 (.slice aoa a.length capa) (fun c => fa c) 60) := Ha.out.touch t7
  replace Hb : Hid (VLst w7 (.slice aob b.length capb) (fun c => fb c) 60) := Hb.out.touch t7
  replace Hc : Hid (VLst w7 (.slice aoc c.length capc) (fun c => fc c) 60) := Hc.out.touch t7
  replace Hx : Hid (VCst w7 (.slice ao5 n5 cap5) (fun c => min (fa c) (fb c)) 241) := Hx.out.touch t7
  replace Hy : Hid (VCst w7 (.slice ao6 n6 cap6) (fun c => min (fb c) (fa c)) 241) := Hy.out.touch t7
  replace HT : Hid (Touch (fun _ => False) w w7) := HT.out.trans t7
  clear t7 K
  clear Hx
  clear Hy
  have K := vjoin_set Ha.out Hb.out (by omega) (by omega)
  go_wp2_with fail
  refine K.mono ?_
  rintro e w8 ⟨v8, rfl, h8, t8⟩
  obtain ⟨ao8, n8, cap8, rfl⟩ := h8.shape
  replace Ha : Hid (VLst w8 (.slice aoa a.length capa) (fun c => fa c) 60) := Ha.out.touch t8
  replace Hb : Hid (VLst w8 (.slice aob b.length capb) (fun c => fb c) 60) := Hb.out.touch t8
  replace Hc : Hid (VLst w8 (.slice aoc c.length capc) (fun c => fc c) 60) := Hc.out.touch t8
  replace HT : Hid (Touch (fun _ => False) w w8) := HT.out.trans t8
  have Hx : Hid (VCst w8 (.slice ao8 n8 cap8) (fun c => max (fa c) (fb c)) 241) := h8
  clear h8 t8 K
  have K := vjoin_set Hx.out.lst Hc.out (by omega) (by omega)
  go_wp2_with fail
  refine K.mono ?_
  rintro e w9 ⟨v9, rfl, h9, t9⟩
  obtain ⟨ao9, n9, cap9, rfl⟩ := h9.shape
  replace Ha : Hid (VLst w9 (.slice aoa a.length capa) (fun c => fa c) 60) := Ha.out.touch t9
  replace Hb : Hid (VLst w9 (.slice aob b.length capb) (fun c => fb c) 60) := Hb.out.touch t9
  replace Hc : Hid (VLst w9 (.slice aoc c.length capc) (fun c => fc c) 60) := Hc.out.touch t9
  replace Hx : Hid (VCst w9 (.slice ao8 n8 cap8) (fun c => max (fa c) (fb c)) 241) := Hx.out.touch t9
  replace HT : Hid (Touch (fun _ => False) w w9) := HT.out.trans t9
  have Hy : Hid (VCst w9 (.slice ao9 n9 cap9) (fun c => max (max (fa c) (fb c)) (fc c)) 603) := h9
  clear h9 t9 K
  have K := vjoin_set Hb.out Hc.out (by omega) (by omega)
  go_wp2_with fail
  refine K.mono ?_
  rintro e w10 ⟨v10, rfl, h10, t10⟩
  obtain ⟨ao10, n10, cap10, rfl⟩ := h10.shape
  replace Ha : Hid (VLst w10 (.slice aoa a.length capa) (fun c => fa c) 60) := Ha.out.touch t10
  replace Hb : Hid (VLst w10 (.slice aob b.length capb) (fun c => fb c) 60) := Hb.out.touch t10
  replace Hc : Hid (VLst w10 (.slice aoc c.length capc) (fun c => fc c) 60) := Hc.out.touch t10
  replace Hx : Hid (VCst w10 (.slice ao8 n8 cap8) (fun c => max (fa c) (fb c)) 241) := Hx.out.touch t10
  replace Hy : Hid (VCst w10 (.slice ao9 n9 cap9) (fun c => max (max (fa c) (fb c)) (fc c)) 603) := Hy.out.touch t10
  replace HT : Hid (Touch (fun _ => False) w w10) := HT.out.trans t10
  have Hp : Hid (VCst w10 (.slice ao10 n10 cap10) (fun c => max (fb c) (fc c)) 241) := h10
  clear h10 t10 K
  have K := vjoin_set Ha.out Hp.out.lst (by omega) (by omega)
  go_wp2_with fail
  refine K.mono ?_
  rintro e w11 ⟨v11, rfl, h11, t11⟩
  obtain ⟨ao11, n11, cap11, rfl⟩ := h11.shape
  replace Ha : Hid (VLst w11 (.slice aoa a.length capa) (fun c => fa c) 60) := Ha.out.touch t11
  replace Hb : Hid (VLst w11 (.slice aob b.length capb) (fun c => fb c) 60) := Hb.out.touch t11
  replace Hc : Hid (VLst w11 (.slice aoc c.length capc) (fun c => fc c) 60) := Hc.out.touch t11
  replace Hx : Hid (VCst w11 (.slice ao8 n8 cap8) (fun c => max (fa c) (fb c)) 241) := Hx.out.touch t11
  replace Hy : Hid (VCst w11 (.slice ao9 n9 cap9) (fun c => max (max (fa c) (fb c)) (fc c)) 603) := Hy.out.touch t11
  replace Hp : Hid (VCst w11 (.slice ao10 n10 cap10) (fun c => max (fb c) (fc c)) 241) := Hp.out.touch t11
  replace HT : Hid (Touch (fun _ => False) w w11) := HT.out.trans t11
  have Hq : Hid (VCst w11 (.slice ao11 n11 cap11) (fun c => max (fa c) (max (fb c) (fc c))) 603) := h11
  clear h11 t11 K
  have K := vsame_set Hy.out Hq.out (fun c => by omega) (by omega)
  go_wp2_with fail
  refine K.mono ?_
  rintro e w12 ⟨rfl, t12⟩
  replace Ha : Hid (VLst w12 (.slice aoa a.length capa) (fun c => fa c) 60) := Ha.out.touch t12
  replace Hb : Hid (VLst w12 (.slice aob b.length capb) (fun c => fb c) 60) := Hb.out.touch t12
  replace Hc : Hid (VLst w12 (.slice aoc c.length capc) (fun c => fc c) 60) := Hc.out.touch t12
  replace Hx : Hid (VCst w12 (.slice ao8 n8 cap8) (fun c => max (fa c) (fb c)) 241) := Hx.out.touch t12
  replace Hy : Hid (VCst w12 (.slice ao9 n9 cap9) (fun c => max (max (fa c) (fb c)) (fc c)) 603) := Hy.out.touch t12
  replace Hp : Hid (VCst w12 (.slice ao10 n10 cap10) (fun c => max (fb c) (fc c)) 241) := Hp.out.touch t12
  replace Hq : Hid (VCst w12 (.slice ao11 n11 cap11) (fun c => max (fa c) (max (fb c) (fc c))) 603) := Hq.out.touch t12
  replace HT : Hid (Touch (fun _ => False) w w12) := HT.out.trans t12
  clear t12 K
  clear Hx
  clear Hy
  clear Hp
  clear Hq
  have K := vjoin_set Ha.out Ha.out (by omega) (by omega)
  go_wp2_with fail
  refine K.mono ?_
  rintro e w13 ⟨v13, rfl, h13, t13⟩
  obtain ⟨ao13, n13, cap13, rfl⟩ := h13.shape
  replace Ha : Hid (VLst w13 (.slice aoa a.length capa) (fun c => fa c) 60) := Ha.out.touch t13
  replace Hb : Hid (VLst w13 (.slice aob b.length capb) (fun c => fb c) 60) := Hb.out.touch t13
  replace Hc : Hid (VLst w13 (.slice aoc c.length capc) (fun c => fc c) 60) := Hc.out.touch t13
  replace HT : Hid (Touch (fun _ => False) w w13) := HT.out.trans t13
  have Hx : Hid (VCst w13 (.slice ao13 n13 cap13) (fun c => max (fa c) (fa c)) 241) := h13
  clear h13 t13 K
  have K := vclean_set Ha.out (by omega)
  go_wp2_with fail
  refine K.mono ?_
  rintro e w14 ⟨v14, rfl, h14, t14⟩
  obtain ⟨ao14, n14, cap14, rfl⟩ := h14.shape
  replace Ha : Hid (VLst w14 (.slice aoa a.length capa) (fun c => fa c) 60) := Ha.out.touch t14
  replace Hb : Hid (VLst w14 (.slice aob b.length capb) (fun c => fb c) 60) := Hb.out.touch t14
  replace Hc : Hid (VLst w14 (.slice aoc c.length capc) (fun c => fc c) 60) := Hc.out.touch t14
  replace Hx : Hid (VCst w14 (.slice ao13 n13 cap13) (fun c => max (fa c) (fa c)) 241) := Hx.out.touch t14
  replace HT : Hid (Touch (fun _ => False) w w14) := HT.out.trans t14
  have Hy : Hid (VCst w14 (.slice ao14 n14 cap14) (fun c => fa c) 60) := h14
  clear h14 t14 K
  have K := vsame_set Hx.out Hy.out (fun c => by omega) (by omega)
  go_wp2_with fail
  refine K.mono ?_
  rintro e w15 ⟨rfl, t15⟩
  replace Ha : Hid (VLst w15 (.slice aoa a.length capa) (fun c => fa c) 60) := Ha.out.touch t15
  replace Hb : Hid (VLst w15 (.slice aob b.length capb) (fun c => fb c) 60) := Hb.out.touch t15
  replace Hc : Hid (VLst w15 (.slice aoc c.length capc) (fun c => fc c) 60) := Hc.out.touch t15
  replace Hx : Hid (VCst w15 (.slice ao13 n13 cap13) (fun c => max (fa c) (fa c)) 241) := Hx.out.touch t15
  replace Hy : Hid (VCst w15 (.slice ao14 n14 cap14) (fun c => fa c) 60) := Hy.out.touch t15
  replace HT : Hid (Touch (fun _ => False) w w15) := HT.out.trans t15
  clear t15 K
  clear Hx
  clear Hy
  have K := vmeet_set Ha.out Ha.out (by omega) (by omega)
  go_wp2_with fail
  refine K.mono ?_
  rintro e w16 ⟨v16, rfl, h16, t16⟩
  obtain ⟨ao16, n16, cap16, rfl⟩ := h16.shape
  replace Ha : Hid (VLst w16 (.slice aoa a.length capa) (fun c => fa c) 60) := Ha.out.touch t16
  replace Hb : Hid (VLst w16 (.slice aob b.length capb) (fun c => fb c) 60) := Hb.out.touch t16
  replace Hc : Hid (VLst w16 (.slice aoc c.length capc) (fun c => fc c) 60) := Hc.out.touch t16
  replace HT : Hid (Touch (fun _ => False) w w16) := HT.out.trans t16
  have Hx : Hid (VCst w16 (.slice ao16 n16 cap16) (fun c => min (fa c) (fa c)) 241) := h16
  clear h16 t16 K
  have K := vclean_set Ha.out (by omega)
  go_wp2_with fail
  refine K.mono ?_
  rintro e w17 ⟨v17, rfl, h17, t17⟩
  obtain ⟨ao17, n17, cap17, rfl⟩ := h17.shape
  replace Ha : Hid (VLst w17 (.slice aoa a.length capa) (fun c => fa c) 60) := Ha.out.touch t17
  replace Hb : Hid (VLst w17 (.slice aob b.length capb) (fun c => fb c) 60) := Hb.out.touch t17
  replace Hc : Hid (VLst w17 (.slice aoc c.length capc) (fun c => fc c) 60) := Hc.out.touch t17
  replace Hx : Hid (VCst w17 (.slice ao16 n16 cap16) (fun c => min (fa c) (fa c)) 241) := Hx.out.touch t17
  replace HT : Hid (Touch (fun _ => False) w w17) := HT.out.trans t17
  have Hy : Hid (VCst w17 (.slice ao17 n17 cap17) (fun c => fa c) 60) := h17
  clear h17 t17 K
  have K := vsame_set Hx.out Hy.out (fun c => by omega) (by omega)
  go_wp2_with fail
  refine K.mono ?_
  rintro e w18 ⟨rfl, t18⟩
  replace Ha : Hid (VLst w18 (.slice aoa a.length capa) (fun c => fa c) 60) := Ha.out.touch t18
  replace Hb : Hid (VLst w18 (.slice aob b.length capb) (fun c => fb c) 60) := Hb.out.touch t18
  replace Hc : Hid (VLst w18 (.slice aoc c.length capc) (fun c => fc c) 60) := Hc.out.touch t18
  replace Hx : Hid (VCst w18 (.slice ao16 n16 cap16) (fun c => min (fa c) (fa c)) 241) := Hx.out.touch t18
  replace Hy : Hid (VCst w18 (.slice ao17 n17 cap17) (fun c => fa c) 60) := Hy.out.touch t18
  replace HT : Hid (Touch (fun _ => False) w w18) := HT.out.trans t18
  clear t18 K
  clear Hx
  clear Hy
  have K := vjoin_set Hb.out Hc.out (by omega) (by omega)
  go_wp2_with fail
  refine K.mono ?_
  rintro e w19 ⟨v19, rfl, h19, t19⟩
  obtain ⟨ao19, n19, cap19, rfl⟩ := h19.shape
  replace Ha : Hid (VLst w19 (.slice aoa a.length capa) (fun c => fa c) 60) := Ha.out.touch t19
  replace Hb : Hid (VLst w19 (.slice aob b.length capb) (fun c => fb c) 60) := Hb.out.touch t19
  replace Hc : Hid (VLst w19 (.slice aoc c.length capc) (fun c => fc c) 60) := Hc.out.touch t19
  replace HT : Hid (Touch (fun _ => False) w w19) := HT.out.trans t19
  have Hx : Hid (VCst w19 (.slice ao19 n19 cap19) (fun c => max (fb c) (fc c)) 241) := h19
  clear h19 t19 K
  have K := vmeet_set Ha.out Hx.out.lst (by omega) (by omega)
  go_wp2_with fail
  refine K.mono ?_
  rintro e w20 ⟨v20, rfl, h20, t20⟩
  obtain ⟨ao20, n20, cap20, rfl⟩ := h20.shape
  replace Ha : Hid (VLst w20 (.slice aoa a.length capa) (fun c => fa c) 60) := Ha.out.touch t20
  replace Hb : Hid (VLst w20 (.slice aob b.length capb) (fun c => fb c) 60) := Hb.out.touch t20
  replace Hc : Hid (VLst w20 (.slice aoc c.length capc) (fun c => fc c) 60) := Hc.out.touch t20
  replace Hx : Hid (VCst w20 (.slice ao19 n19 cap19) (fun c => max (fb c) (fc c)) 241) := Hx.out.touch t20
  replace HT : Hid (Touch (fun _ => False) w w20) := HT.out.trans t20
  have Hy : Hid (VCst w20 (.slice ao20 n20 cap20) (fun c => min (fa c) (max (fb c) (fc c))) 603) := h20
  clear h20 t20 K
  have K := vmeet_set Ha.out Hb.out (by omega) (by omega)
  go_wp2_with fail
  refine K.mono ?_
  rintro e w21 ⟨v21, rfl, h21, t21⟩
  obtain ⟨ao21, n21, cap21, rfl⟩ := h21.shape
  replace Ha : Hid (VLst w21 (.slice aoa a.length capa) (fun c => fa c) 60) := Ha.out.touch t21
  replace Hb : Hid (VLst w21 (.slice aob b.length capb) (fun c => fb c) 60) := Hb.out.touch t21
  replace Hc : Hid (VLst w21 (.slice aoc c.length capc) (fun c => fc c) 60) := Hc.out.touch t21
  replace Hx : Hid (VCst w21 (.slice ao19 n19 cap19) (fun c => max (fb c) (fc c)) 241) := Hx.out.touch t21
  replace Hy : Hid (VCst w21 (.slice ao20 n20 cap20) (fun c => min (fa c) (max (fb c) (fc c))) 603) := Hy.out.touch t21
  replace HT : Hid (Touch (fun _ => False) w w21) := HT.out.trans t21
  have Hp : Hid (VCst w21 (.slice ao21 n21 cap21) (fun c => min (fa c) (fb c)) 241) := h21
  clear h21 t21 K
  have K := vmeet_set Ha.out Hc.out (by omega) (by omega)
  go_wp2_with fail
  refine K.mono ?_
  rintro e w22 ⟨v22, rfl, h22, t22⟩
  obtain ⟨ao22, n22, cap22, rfl⟩ := h22.shape
  replace Ha : Hid (VLst w22 (.slice aoa a.length capa) (fun c => fa c) 60) := Ha.out.touch t22
  replace Hb : Hid (VLst w22 (.slice aob b.length capb) (fun c => fb c) 60) := Hb.out.touch t22
  replace Hc : Hid (VLst w22 (.slice aoc c.length capc) (fun c => fc c) 60) := Hc.out.touch t22
  replace Hx : Hid (VCst w22 (.slice ao19 n19 cap19) (fun c => max (fb c) (fc c)) 241) := Hx.out.touch t22
  replace Hy : Hid (VCst w22 (.slice ao20 n20 cap20) (fun c => min (fa c) (max (fb c) (fc c))) 603) := Hy.out.touch t22
  replace Hp : Hid (VCst w22 (.slice ao21 n21 cap21) (fun c => min (fa c) (fb c)) 241) := Hp.out.touch t22
  replace HT : Hid (Touch (fun _ => False) w w22) := HT.out.trans t22
  have Hq : Hid (VCst w22 (.slice ao22 n22 cap22) (fun c => min (fa c) (fc c)) 241) := h22
  clear h22 t22 K
  have K := vjoin_set Hp.out.lst Hq.out.lst (by omega) (by omega)
  go_wp2_with fail
  refine K.mono ?_
  rintro e w23 ⟨v23, rfl, h23, t23⟩
  obtain ⟨ao23, n23, cap23, rfl⟩ := h23.shape
  replace Ha : Hid (VLst w23 (.slice aoa a.length capa) (fun c => fa c) 60) := Ha.out.touch t23
  replace Hb : Hid (VLst w23 (.slice aob b.length capb) (fun c => fb c) 60) := Hb.out.touch t23
  replace Hc : Hid (VLst w23 (.slice aoc c.length capc) (fun c => fc c) 60) := Hc.out.touch t23
  replace Hx : Hid (VCst w23 (.slice ao19 n19 cap19) (fun c => max (fb c) (fc c)) 241) := Hx.out.touch t23
  replace Hy : Hid (VCst w23 (.slice ao20 n20 cap20) (fun c => min (fa c) (max (fb c) (fc c))) 603) := Hy.out.touch t23
  replace Hp : Hid (VCst w23 (.slice ao21 n21 cap21) (fun c => min (fa c) (fb c)) 241) := Hp.out.touch t23
  replace Hq : Hid (VCst w23 (.slice ao22 n22 cap22) (fun c => min (fa c) (fc c)) 241) := Hq.out.touch t23
  replace HT : Hid (Touch (fun _ => False) w w23) := HT.out.trans t23
  have Hr : Hid (VCst w23 (.slice ao23 n23 cap23) (fun c => max (min (fa c) (fb c)) (min (fa c) (fc c))) 965) := h23
  clear h23 t23 K
  have K := vsame_set Hy.out Hr.out (fun c => by omega) (by omega)
  go_wp2_with fail
  refine K.mono ?_
  rintro e w24 ⟨rfl, t24⟩
  replace Ha : Hid (VLst w24 (.slice aoa a.length capa) (fun c => fa c) 60) := Ha.out.touch t24
  replace Hb : Hid (VLst w24 (.slice aob b.length capb) (fun c => fb c) 60) := Hb.out.touch t24
  replace Hc : Hid (VLst w24 (.slice aoc c.length capc) (fun c => fc c) 60) := Hc.out.touch t24
  replace Hx : Hid (VCst w24 (.slice ao19 n19 cap19) (fun c => max (fb c) (fc c)) 241) := Hx.out.touch t24
  replace Hy : Hid (VCst w24 (.slice ao20 n20 cap20) (fun c => min (fa c) (max (fb c) (fc c))) 603) := Hy.out.touch t24
  replace Hp : Hid (VCst w24 (.slice ao21 n21 cap21) (fun c => min (fa c) (fb c)) 241) := Hp.out.touch t24
  replace Hq : Hid (VCst w24 (.slice ao22 n22 cap22) (fun c => min (fa c) (fc c)) 241) := Hq.out.touch t24
  replace Hr : Hid (VCst w24 (.slice ao23 n23 cap23) (fun c => max (min (fa c) (fb c)) (min (fa c) (fc c))) 965) := Hr.out.touch t24
  replace HT : Hid (Touch (fun _ => False) w w24) := HT.out.trans t24
  clear t24 K
  go_wp2_with fail
  go_ret
  exact ⟨rfl, HT.out⟩
end Go.Proofs.Ytdblfabbmpdoiaa
