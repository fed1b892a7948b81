/- quirelaw6.IdsAlgebra. -/
import Derived.Test.YtipncloegjcjfaaIdAlg
import Derived.Test.YtipncloegjcjfaaArgR
namespace Go.Proofs.Ytipncloegjcjfaa
open Go.RowKit Go.Maps
set_option linter.unusedVariables false
set_option linter.unusedSimpArgs false
set_option maxRecDepth 100000

set_option maxHeartbeats 8000000 in
theorem idsAlgebra_any (w : World) (va : Value) (a : List Rg) (sa : SlR w va a) (ga : ∀ r ∈ a, fitsR r) (vb : Value) (b : List Rg) (sb : SlR w vb b) (gb : ∀ r ∈ b, fitsR r) (vc : Value) (c : List Rg) (sc : SlR w vc c) (gc : ∀ r ∈ c, fitsR r) :
    Calls Try.prog 5 #[va, vb, vc] w fun e w' => e = .returned (.bool true) ∧ Touch (fun _ => False) w w' := by
  have Sa : Hid (SlR w va a) := sa
  have Sb : Hid (SlR w vb b) := sb
  have Sc : Hid (SlR w vc c) := sc
  obtain ⟨aoa, capa, rfl, _⟩ := sa
  obtain ⟨aob, capb, rfl, _⟩ := sb
  obtain ⟨aoc, capc, rfl, _⟩ := sc
  clear ga gb gc
  obtain ⟨fa, Fa⟩ : ∃ fa, turnOf (tns a) = fa := ⟨_, rfl⟩
  obtain ⟨fb, Fb⟩ : ∃ fb, turnOf (tns b) = fb := ⟨_, rfl⟩
  obtain ⟨fc, Fc⟩ : ∃ fc, turnOf (tns c) = fc := ⟨_, rfl⟩
  have HF : Hid ((∀ c k, fa c k = 0 ∨ fa c k = 1) ∧ (∀ c k, fb c k = 0 ∨ fb c k = 1) ∧ (∀ c k, fc c k = 0 ∨ fc c k = 1)) := ⟨fun x y => by rw [← Fa]; exact turnOf_tns a x y, fun x y => by rw [← Fb]; exact turnOf_tns b x y, fun x y => by rw [← Fc]; exact turnOf_tns c x y⟩
  have Ea : Hid (turnOf (tns a) = fa) := Fa
  have Eb : Hid (turnOf (tns b) = fb) := Fb
  have Ec : Hid (turnOf (tns c) = fc) := Fc
  have KN := known_any w
  have L0 := fun W => light_any a.length aoa capa W
  have L1 := fun W => light_any b.length aob capb W
  have L2 := fun W => light_any c.length aoc capc W
  clear Fa Fb Fc
  go_enter Try.func5, Try.ntmps5
  go_wp2_with fail
  refine KN.mono ?_
  rintro e w1 ⟨rfl, t1⟩
  have HT : Hid (Touch (fun _ => False) w w1) := t1
  clear t1 KN
  cases hd0 : decide (a.length ≤ 60) with
  | false =>
    rw [hd0] at L0
    go_wp2_with fail
    refine (L0 _).mono ?_
    rintro e w2 ⟨rfl, rfl⟩
    go_wp2_with fail
    go_ret
    exact ⟨rfl, HT.out⟩
  | true =>
  rw [hd0] at L0
  go_wp2_with fail
  refine (L0 _).mono ?_
  rintro e w2 ⟨rfl, hw⟩
  rw [hw]
  clear hw w2
  cases hd1 : decide (b.length ≤ 60) with
  | false =>
    rw [hd1] at L1
    go_wp2_with fail
    refine (L1 _).mono ?_
    rintro e w2 ⟨rfl, rfl⟩
    go_wp2_with fail
    go_ret
    exact ⟨rfl, HT.out⟩
  | true =>
  rw [hd1] at L1
  go_wp2_with fail
  refine (L1 _).mono ?_
  rintro e w2 ⟨rfl, hw⟩
  rw [hw]
  clear hw w2
  cases hd2 : decide (c.length ≤ 60) with
  | false =>
    rw [hd2] at L2
    go_wp2_with fail
    refine (L2 _).mono ?_
    rintro e w2 ⟨rfl, rfl⟩
    go_wp2_with fail
    go_ret
    exact ⟨rfl, HT.out⟩
  | true =>
  rw [hd2] at L2
  go_wp2_with fail
  refine (L2 _).mono ?_
  rintro e w2 ⟨rfl, hw⟩
  rw [hw]
  clear hw w2
  clear L0 L1 L2
  have ha60 : a.length ≤ 60 := by simpa using hd0
  have hb60 : b.length ≤ 60 := by simpa using hd1
  have hc60 : c.length ≤ 60 := by simpa using hd2
  have Ha : Hid (Lst w1 (.slice aoa a.length capa) (fun c k => fa c k) 60) := ⟨a, Sa.out.touch HT.out, fun c k => by rw [Ea.out], by omega⟩
  have Hb : Hid (Lst w1 (.slice aob b.length capb) (fun c k => fb c k) 60) := ⟨b, Sb.out.touch HT.out, fun c k => by rw [Eb.out], by omega⟩
  have Hc : Hid (Lst w1 (.slice aoc c.length capc) (fun c k => fc c k) 60) := ⟨c, Sc.out.touch HT.out, fun c k => by rw [Ec.out], by omega⟩
  clear Sa Sb Sc Ea Eb Ec
  have K := join_set Ha.out Hb.out (by omega) (by omega)
  go_wp2_with fail
  refine K.mono ?_
  rintro e w2 ⟨v2, rfl, h2, t2⟩
  obtain ⟨ao2, n2, cap2, rfl⟩ := h2.shape
  replace Ha : Hid (Lst w2 (.slice aoa a.length capa) (fun c k => fa c k) 60) := Ha.out.touch t2
  replace Hb : Hid (Lst w2 (.slice aob b.length capb) (fun c k => fb c k) 60) := Hb.out.touch t2
  replace Hc : Hid (Lst w2 (.slice aoc c.length capc) (fun c k => fc c k) 60) := Hc.out.touch t2
  replace HT : Hid (Touch (fun _ => False) w w2) := HT.out.trans t2
  have Hj : Hid (Cst w2 (.slice ao2 n2 cap2) (fun c k => max (fa c k) (fb c k)) 241) := h2
  clear h2 t2 K
  have K := meet_set Ha.out Hb.out (by omega) (by omega)
  go_wp2_with fail
  refine K.mono ?_
  rintro e w3 ⟨v3, rfl, h3, t3⟩
  obtain ⟨ao3, n3, cap3, rfl⟩ := h3.shape
  replace Ha : Hid (Lst w3 (.slice aoa a.length capa) (fun c k => fa c k) 60) := Ha.out.touch t3
  replace Hb : Hid (Lst w3 (.slice aob b.length capb) (fun c k => fb c k) 60) := Hb.out.touch t3
  replace Hc : Hid (Lst w3 (.slice aoc c.length capc) (fun c k => fc c k) 60) := Hc.out.touch t3
  replace Hj : Hid (Cst w3 (.slice ao2 n2 cap2) (fun c k => max (fa c k) (fb c k)) 241) := Hj.out.touch t3
  replace HT : Hid (Touch (fun _ => False) w w3) := HT.out.trans t3
  have Hm : Hid (Cst w3 (.slice ao3 n3 cap3) (fun c k => min (fa c k) (fb c k)) 241) := h3
  clear h3 t3 K
  have K := join_set Hb.out Ha.out (by omega) (by omega)
  go_wp2_with fail
  refine K.mono ?_
  rintro e w4 ⟨v4, rfl, h4, t4⟩
  obtain ⟨ao4, n4, cap4, rfl⟩ := h4.shape
  replace Ha : Hid (Lst w4 (.slice aoa a.length capa) (fun c k => fa c k) 60) := Ha.out.touch t4
  replace Hb : Hid (Lst w4 (.slice aob b.length capb) (fun c k => fb c k) 60) := Hb.out.touch t4
  replace Hc : Hid (Lst w4 (.slice aoc c.length capc) (fun c k => fc c k) 60) := Hc.out.touch t4
  replace Hj : Hid (Cst w4 (.slice ao2 n2 cap2) (fun c k => max (fa c k) (fb c k)) 241) := Hj.out.touch t4
  replace Hm : Hid (Cst w4 (.slice ao3 n3 cap3) (fun c k => min (fa c k) (fb c k)) 241) := Hm.out.touch t4
  replace HT : Hid (Touch (fun _ => False) w w4) := HT.out.trans t4
  have Hx : Hid (Cst w4 (.slice ao4 n4 cap4) (fun c k => max (fb c k) (fa c k)) 241) := h4
  clear h4 t4 K
  have K := same_set Hj.out Hx.out (fun c k => by rcases HF.out.1 c k with e | e <;> rcases HF.out.2.1 c k with f | f <;> rcases HF.out.2.2 c k with g | g <;> simp only [e, f, g, ifAb] <;> decide) (by omega)
  go_wp2_with fail
  refine K.mono ?_
  rintro e w5 ⟨rfl, t5⟩
  replace Ha : Hid (Lst w5 (.slice aoa a.length capa) (fun c k => fa c k) 60) := Ha.out.touch t5
  replace Hb : Hid (Lst w5 (.slice aob b.length capb) (fun c k => fb c k) 60) := Hb.out.touch t5
  replace Hc : Hid (Lst w5 (.slice aoc c.length capc) (fun c k => fc c k) 60) := Hc.out.touch t5
  replace Hj : Hid (Cst w5 (.slice ao2 n2 cap2) (fun c k => max (fa c k) (fb c k)) 241) := Hj.out.touch t5
  replace Hm : Hid (Cst w5 (.slice ao3 n3 cap3) (fun c k => min (fa c k) (fb c k)) 241) := Hm.out.touch t5
  replace Hx : Hid (Cst w5 (.slice ao4 n4 cap4) (fun c k => max (fb c k) (fa c k)) 241) := Hx.out.touch t5
  replace HT : Hid (Touch (fun _ => False) w w5) := HT.out.trans t5
  clear t5 K
  clear Hx
  have K := meet_set Hb.out Ha.out (by omega) (by omega)
  go_wp2_with fail
  refine K.mono ?_
  rintro e w6 ⟨v6, rfl, h6, t6⟩
  obtain ⟨ao6, n6, cap6, rfl⟩ := h6.shape
  replace Ha : Hid (Lst w6 (.slice aoa a.length capa) (fun c k => fa c k) 60) := Ha.out.touch t6
  replace Hb : Hid (Lst w6 (.slice aob b.length capb) (fun c k => fb c k) 60) := Hb.out.touch t6
  replace Hc : Hid (Lst w6 (.slice aoc c.length capc) (fun c k => fc c k) 60) := Hc.out.touch t6
  replace Hj : Hid (Cst w6 (.slice ao2 n2 cap2) (fun c k => max (fa c k) (fb c k)) 241) := Hj.out.touch t6
  replace Hm : Hid (Cst w6 (.slice ao3 n3 cap3) (fun c k => min (fa c k) (fb c k)) 241) := Hm.out.touch t6
  replace HT : Hid (Touch (fun _ => False) w w6) := HT.out.trans t6
  have Hx : Hid (Cst w6 (.slice ao6 n6 cap6) (fun c k => min (fb c k) (fa c k)) 241) := h6
  clear h6 t6 K
  have K := same_set Hm.out Hx.out (fun c k => by rcases HF.out.1 c k with e | e <;> rcases HF.out.2.1 c k with f | f <;> rcases HF.out.2.2 c k with g | g <;> simp only [e, f, g, ifAb] <;> decide) (by omega)
  go_wp2_with fail
  refine K.mono ?_
  rintro e w7 ⟨rfl, t7⟩
  replace Ha : Hid (Lst w7 (.slice aoa a.length capa) (fun c k => fa c k) 60) := Ha.out.touch t7
  replace Hb : Hid (Lst w7 (.slice aob b.length capb) (fun c k => fb c k) 60) := Hb.out.touch t7
  replace Hc : Hid (Lst w7 (.slice aoc c.length capc) (fun c k => fc c k) 60) := Hc.out.touch t7
  replace Hj : Hid (Cst w7 (.slice ao2 n2 cap2) (fun c k => max (fa c k) (fb c k)) 241) := Hj.out.touch t7
  replace Hm : Hid (Cst w7 (.slice ao3 n3 cap3) (fun c k => min (fa c k) (fb c k)) 241) := Hm.out.touch t7
  replace Hx : Hid (Cst w7 (.slice ao6 n6 cap6) (fun c k => min (fb c k) (fa c k)) 241) := Hx.out.touch t7
  replace HT : Hid (Touch (fun _ => False) w w7) := HT.out.trans t7
  clear t7 K
  clear Hx
  have K := join_set Hj.out.lst Hc.out (by omega) (by omega)
  go_wp2_with fail
  refine K.mono ?_
  rintro e w8 ⟨v8, rfl, h8, t8⟩
  obtain ⟨ao8, n8, cap8, rfl⟩ := h8.shape
  replace Ha : Hid (Lst w8 (.slice aoa a.length capa) (fun c k => fa c k) 60) := Ha.out.touch t8
  replace Hb : Hid (Lst w8 (.slice aob b.length capb) (fun c k => fb c k) 60) := Hb.out.touch t8
  replace Hc : Hid (Lst w8 (.slice aoc c.length capc) (fun c k => fc c k) 60) := Hc.out.touch t8
  replace Hj : Hid (Cst w8 (.slice ao2 n2 cap2) (fun c k => max (fa c k) (fb c k)) 241) := Hj.out.touch t8
  replace Hm : Hid (Cst w8 (.slice ao3 n3 cap3) (fun c k => min (fa c k) (fb c k)) 241) := Hm.out.touch t8
  replace HT : Hid (Touch (fun _ => False) w w8) := HT.out.trans t8
  have Hx : Hid (Cst w8 (.slice ao8 n8 cap8) (fun c k => max (max (fa c k) (fb c k)) (fc c k)) 603) := h8
  clear h8 t8 K
  have K := join_set Hb.out Hc.out (by omega) (by omega)
  go_wp2_with fail
  refine K.mono ?_
  rintro e w9 ⟨v9, rfl, h9, t9⟩
  obtain ⟨ao9, n9, cap9, rfl⟩ := h9.shape
  replace Ha : Hid (Lst w9 (.slice aoa a.length capa) (fun c k => fa c k) 60) := Ha.out.touch t9
  replace Hb : Hid (Lst w9 (.slice aob b.length capb) (fun c k => fb c k) 60) := Hb.out.touch t9
  replace Hc : Hid (Lst w9 (.slice aoc c.length capc) (fun c k => fc c k) 60) := Hc.out.touch t9
  replace Hj : Hid (Cst w9 (.slice ao2 n2 cap2) (fun c k => max (fa c k) (fb c k)) 241) := Hj.out.touch t9
  replace Hm : Hid (Cst w9 (.slice ao3 n3 cap3) (fun c k => min (fa c k) (fb c k)) 241) := Hm.out.touch t9
  replace Hx : Hid (Cst w9 (.slice ao8 n8 cap8) (fun c k => max (max (fa c k) (fb c k)) (fc c k)) 603) := Hx.out.touch t9
  replace HT : Hid (Touch (fun _ => False) w w9) := HT.out.trans t9
  have Hy : Hid (Cst w9 (.slice ao9 n9 cap9) (fun c k => max (fb c k) (fc c k)) 241) := h9
  clear h9 t9 K
  have K := join_set Ha.out Hy.out.lst (by omega) (by omega)
  go_wp2_with fail
  refine K.mono ?_
  rintro e w10 ⟨v10, rfl, h10, t10⟩
  obtain ⟨ao10, n10, cap10, rfl⟩ := h10.shape
  replace Ha : Hid (Lst w10 (.slice aoa a.length capa) (fun c k => fa c k) 60) := Ha.out.touch t10
  replace Hb : Hid (Lst w10 (.slice aob b.length capb) (fun c k => fb c k) 60) := Hb.out.touch t10
  replace Hc : Hid (Lst w10 (.slice aoc c.length capc) (fun c k => fc c k) 60) := Hc.out.touch t10
  replace Hj : Hid (Cst w10 (.slice ao2 n2 cap2) (fun c k => max (fa c k) (fb c k)) 241) := Hj.out.touch t10
  replace Hm : Hid (Cst w10 (.slice ao3 n3 cap3) (fun c k => min (fa c k) (fb c k)) 241) := Hm.out.touch t10
  replace Hx : Hid (Cst w10 (.slice ao8 n8 cap8) (fun c k => max (max (fa c k) (fb c k)) (fc c k)) 603) := Hx.out.touch t10
  replace Hy : Hid (Cst w10 (.slice ao9 n9 cap9) (fun c k => max (fb c k) (fc c k)) 241) := Hy.out.touch t10
  replace HT : Hid (Touch (fun _ => False) w w10) := HT.out.trans t10
  have Hz : Hid (Cst w10 (.slice ao10 n10 cap10) (fun c k => max (fa c k) (max (fb c k) (fc c k))) 603) := h10
  clear h10 t10 K
  have K := same_set Hx.out Hz.out (fun c k => by rcases HF.out.1 c k with e | e <;> rcases HF.out.2.1 c k with f | f <;> rcases HF.out.2.2 c k with g | g <;> simp only [e, f, g, ifAb] <;> decide) (by omega)
  go_wp2_with fail
  refine K.mono ?_
  rintro e w11 ⟨rfl, t11⟩
  replace Ha : Hid (Lst w11 (.slice aoa a.length capa) (fun c k => fa c k) 60) := Ha.out.touch t11
  replace Hb : Hid (Lst w11 (.slice aob b.length capb) (fun c k => fb c k) 60) := Hb.out.touch t11
  replace Hc : Hid (Lst w11 (.slice aoc c.length capc) (fun c k => fc c k) 60) := Hc.out.touch t11
  replace Hj : Hid (Cst w11 (.slice ao2 n2 cap2) (fun c k => max (fa c k) (fb c k)) 241) := Hj.out.touch t11
  replace Hm : Hid (Cst w11 (.slice ao3 n3 cap3) (fun c k => min (fa c k) (fb c k)) 241) := Hm.out.touch t11
  replace Hx : Hid (Cst w11 (.slice ao8 n8 cap8) (fun c k => max (max (fa c k) (fb c k)) (fc c k)) 603) := Hx.out.touch t11
  replace Hy : Hid (Cst w11 (.slice ao9 n9 cap9) (fun c k => max (fb c k) (fc c k)) 241) := Hy.out.touch t11
  replace Hz : Hid (Cst w11 (.slice ao10 n10 cap10) (fun c k => max (fa c k) (max (fb c k) (fc c k))) 603) := Hz.out.touch t11
  replace HT : Hid (Touch (fun _ => False) w w11) := HT.out.trans t11
  clear t11 K
  clear Hx
  clear Hy
  clear Hz
  have K := meet_set Hm.out.lst Hc.out (by omega) (by omega)
  go_wp2_with fail
  refine K.mono ?_
  rintro e w12 ⟨v12, rfl, h12, t12⟩
  obtain ⟨ao12, n12, cap12, rfl⟩ := h12.shape
  replace Ha : Hid (Lst w12 (.slice aoa a.length capa) (fun c k => fa c k) 60) := Ha.out.touch t12
  replace Hb : Hid (Lst w12 (.slice aob b.length capb) (fun c k => fb c k) 60) := Hb.out.touch t12
  replace Hc : Hid (Lst w12 (.slice aoc c.length capc) (fun c k => fc c k) 60) := Hc.out.touch t12
  replace Hj : Hid (Cst w12 (.slice ao2 n2 cap2) (fun c k => max (fa c k) (fb c k)) 241) := Hj.out.touch t12
  replace Hm : Hid (Cst w12 (.slice ao3 n3 cap3) (fun c k => min (fa c k) (fb c k)) 241) := Hm.out.touch t12
  replace HT : Hid (Touch (fun _ => False) w w12) := HT.out.trans t12
  have Hx : Hid (Cst w12 (.slice ao12 n12 cap12) (fun c k => min (min (fa c k) (fb c k)) (fc c k)) 603) := h12
  clear h12 t12 K
  have K := meet_set Hb.out Hc.out (by omega) (by omega)
  go_wp2_with fail
  refine K.mono ?_
  rintro e w13 ⟨v13, rfl, h13, t13⟩
  obtain ⟨ao13, n13, cap13, rfl⟩ := h13.shape
  replace Ha : Hid (Lst w13 (.slice aoa a.length capa) (fun c k => fa c k) 60) := Ha.out.touch t13
  replace Hb : Hid (Lst w13 (.slice aob b.length capb) (fun c k => fb c k) 60) := Hb.out.touch t13
  replace Hc : Hid (Lst w13 (.slice aoc c.length capc) (fun c k => fc c k) 60) := Hc.out.touch t13
  replace Hj : Hid (Cst w13 (.slice ao2 n2 cap2) (fun c k => max (fa c k) (fb c k)) 241) := Hj.out.touch t13
  replace Hm : Hid (Cst w13 (.slice ao3 n3 cap3) (fun c k => min (fa c k) (fb c k)) 241) := Hm.out.touch t13
  replace Hx : Hid (Cst w13 (.slice ao12 n12 cap12) (fun c k => min (min (fa c k) (fb c k)) (fc c k)) 603) := Hx.out.touch t13
  replace HT : Hid (Touch (fun _ => False) w w13) := HT.out.trans t13
  have Hy : Hid (Cst w13 (.slice ao13 n13 cap13) (fun c k => min (fb c k) (fc c k)) 241) := h13
  clear h13 t13 K
  have K := meet_set Ha.out Hy.out.lst (by omega) (by omega)
  go_wp2_with fail
  refine K.mono ?_
  rintro e w14 ⟨v14, rfl, h14, t14⟩
  obtain ⟨ao14, n14, cap14, rfl⟩ := h14.shape
  replace Ha : Hid (Lst w14 (.slice aoa a.length capa) (fun c k => fa c k) 60) := Ha.out.touch t14
  replace Hb : Hid (Lst w14 (.slice aob b.length capb) (fun c k => fb c k) 60) := Hb.out.touch t14
  replace Hc : Hid (Lst w14 (.slice aoc c.length capc) (fun c k => fc c k) 60) := Hc.out.touch t14
  replace Hj : Hid (Cst w14 (.slice ao2 n2 cap2) (fun c k => max (fa c k) (fb c k)) 241) := Hj.out.touch t14
  replace Hm : Hid (Cst w14 (.slice ao3 n3 cap3) (fun c k => min (fa c k) (fb c k)) 241) := Hm.out.touch t14
  replace Hx : Hid (Cst w14 (.slice ao12 n12 cap12) (fun c k => min (min (fa c k) (fb c k)) (fc c k)) 603) := Hx.out.touch t14
  replace Hy : Hid (Cst w14 (.slice ao13 n13 cap13) (fun c k => min (fb c k) (fc c k)) 241) := Hy.out.touch t14
  replace HT : Hid (Touch (fun _ => False) w w14) := HT.out.trans t14
  have Hz : Hid (Cst w14 (.slice ao14 n14 cap14) (fun c k => min (fa c k) (min (fb c k) (fc c k))) 603) := h14
  clear h14 t14 K
  have K := same_set Hx.out Hz.out (fun c k => by rcases HF.out.1 c k with e | e <;> rcases HF.out.2.1 c k with f | f <;> rcases HF.out.2.2 c k with g | g <;> simp only [e, f, g, ifAb] <;> decide) (by omega)
  go_wp2_with fail
  refine K.mono ?_
  rintro e w15 ⟨rfl, t15⟩
  replace Ha : Hid (Lst w15 (.slice aoa a.length capa) (fun c k => fa c k) 60) := Ha.out.touch t15
  replace Hb : Hid (Lst w15 (.slice aob b.length capb) (fun c k => fb c k) 60) := Hb.out.touch t15
  replace Hc : Hid (Lst w15 (.slice aoc c.length capc) (fun c k => fc c k) 60) := Hc.out.touch t15
  replace Hj : Hid (Cst w15 (.slice ao2 n2 cap2) (fun c k => max (fa c k) (fb c k)) 241) := Hj.out.touch t15
  replace Hm : Hid (Cst w15 (.slice ao3 n3 cap3) (fun c k => min (fa c k) (fb c k)) 241) := Hm.out.touch t15
  replace Hx : Hid (Cst w15 (.slice ao12 n12 cap12) (fun c k => min (min (fa c k) (fb c k)) (fc c k)) 603) := Hx.out.touch t15
  replace Hy : Hid (Cst w15 (.slice ao13 n13 cap13) (fun c k => min (fb c k) (fc c k)) 241) := Hy.out.touch t15
  replace Hz : Hid (Cst w15 (.slice ao14 n14 cap14) (fun c k => min (fa c k) (min (fb c k) (fc c k))) 603) := Hz.out.touch t15
  replace HT : Hid (Touch (fun _ => False) w w15) := HT.out.trans t15
  clear t15 K
  clear Hx
  clear Hy
  clear Hz
  have K := minus_set Ha.out Hb.out (by omega) (by omega)
  go_wp2_with fail
  refine K.mono ?_
  rintro e w16 ⟨v16, rfl, h16, t16⟩
  obtain ⟨ao16, n16, cap16, rfl⟩ := h16.shape
  replace Ha : Hid (Lst w16 (.slice aoa a.length capa) (fun c k => fa c k) 60) := Ha.out.touch t16
  replace Hb : Hid (Lst w16 (.slice aob b.length capb) (fun c k => fb c k) 60) := Hb.out.touch t16
  replace Hc : Hid (Lst w16 (.slice aoc c.length capc) (fun c k => fc c k) 60) := Hc.out.touch t16
  replace Hj : Hid (Cst w16 (.slice ao2 n2 cap2) (fun c k => max (fa c k) (fb c k)) 241) := Hj.out.touch t16
  replace Hm : Hid (Cst w16 (.slice ao3 n3 cap3) (fun c k => min (fa c k) (fb c k)) 241) := Hm.out.touch t16
  replace HT : Hid (Touch (fun _ => False) w w16) := HT.out.trans t16
  have Hx : Hid (Cst w16 (.slice ao16 n16 cap16) (fun c k => ifAb (fa c k) (fb c k)) 241) := h16
  clear h16 t16 K
  have K := join_set Hx.out.lst Hm.out.lst (by omega) (by omega)
  go_wp2_with fail
  refine K.mono ?_
  rintro e w17 ⟨v17, rfl, h17, t17⟩
  obtain ⟨ao17, n17, cap17, rfl⟩ := h17.shape
  replace Ha : Hid (Lst w17 (.slice aoa a.length capa) (fun c k => fa c k) 60) := Ha.out.touch t17
  replace Hb : Hid (Lst w17 (.slice aob b.length capb) (fun c k => fb c k) 60) := Hb.out.touch t17
  replace Hc : Hid (Lst w17 (.slice aoc c.length capc) (fun c k => fc c k) 60) := Hc.out.touch t17
  replace Hj : Hid (Cst w17 (.slice ao2 n2 cap2) (fun c k => max (fa c k) (fb c k)) 241) := Hj.out.touch t17
  replace Hm : Hid (Cst w17 (.slice ao3 n3 cap3) (fun c k => min (fa c k) (fb c k)) 241) := Hm.out.touch t17
  replace Hx : Hid (Cst w17 (.slice ao16 n16 cap16) (fun c k => ifAb (fa c k) (fb c k)) 241) := Hx.out.touch t17
  replace HT : Hid (Touch (fun _ => False) w w17) := HT.out.trans t17
  have Hy : Hid (Cst w17 (.slice ao17 n17 cap17) (fun c k => max (ifAb (fa c k) (fb c k)) (min (fa c k) (fb c k))) 965) := h17
  clear h17 t17 K
  have K := clean_set Ha.out (by omega)
  go_wp2_with fail
  refine K.mono ?_
  rintro e w18 ⟨v18, rfl, h18, t18⟩
  obtain ⟨ao18, n18, cap18, rfl⟩ := h18.shape
  replace Ha : Hid (Lst w18 (.slice aoa a.length capa) (fun c k => fa c k) 60) := Ha.out.touch t18
  replace Hb : Hid (Lst w18 (.slice aob b.length capb) (fun c k => fb c k) 60) := Hb.out.touch t18
  replace Hc : Hid (Lst w18 (.slice aoc c.length capc) (fun c k => fc c k) 60) := Hc.out.touch t18
  replace Hj : Hid (Cst w18 (.slice ao2 n2 cap2) (fun c k => max (fa c k) (fb c k)) 241) := Hj.out.touch t18
  replace Hm : Hid (Cst w18 (.slice ao3 n3 cap3) (fun c k => min (fa c k) (fb c k)) 241) := Hm.out.touch t18
  replace Hx : Hid (Cst w18 (.slice ao16 n16 cap16) (fun c k => ifAb (fa c k) (fb c k)) 241) := Hx.out.touch t18
  replace Hy : Hid (Cst w18 (.slice ao17 n17 cap17) (fun c k => max (ifAb (fa c k) (fb c k)) (min (fa c k) (fb c k))) 965) := Hy.out.touch t18
  replace HT : Hid (Touch (fun _ => False) w w18) := HT.out.trans t18
  have Hz : Hid (Cst w18 (.slice ao18 n18 cap18) (fun c k => fa c k) 60) := h18
  clear h18 t18 K
  have K := same_set Hy.out Hz.out (fun c k => by rcases HF.out.1 c k with e | e <;> rcases HF.out.2.1 c k with f | f <;> rcases HF.out.2.2 c k with g | g <;> simp only [e, f, g, ifAb] <;> decide) (by omega)
  go_wp2_with fail
  refine K.mono ?_
  rintro e w19 ⟨rfl, t19⟩
  replace Ha : Hid (Lst w19 (.slice aoa a.length capa) (fun c k => fa c k) 60) := Ha.out.touch t19
  replace Hb : Hid (Lst w19 (.slice aob b.length capb) (fun c k => fb c k) 60) := Hb.out.touch t19
  replace Hc : Hid (Lst w19 (.slice aoc c.length capc) (fun c k => fc c k) 60) := Hc.out.touch t19
  replace Hj : Hid (Cst w19 (.slice ao2 n2 cap2) (fun c k => max (fa c k) (fb c k)) 241) := Hj.out.touch t19
  replace Hm : Hid (Cst w19 (.slice ao3 n3 cap3) (fun c k => min (fa c k) (fb c k)) 241) := Hm.out.touch t19
  replace Hx : Hid (Cst w19 (.slice ao16 n16 cap16) (fun c k => ifAb (fa c k) (fb c k)) 241) := Hx.out.touch t19
  replace Hy : Hid (Cst w19 (.slice ao17 n17 cap17) (fun c k => max (ifAb (fa c k) (fb c k)) (min (fa c k) (fb c k))) 965) := Hy.out.touch t19
  replace Hz : Hid (Cst w19 (.slice ao18 n18 cap18) (fun c k => fa c k) 60) := Hz.out.touch t19
  replace HT : Hid (Touch (fun _ => False) w w19) := HT.out.trans t19
  clear t19 K
  clear Hx
  clear Hy
  clear Hz
  have K := minus_set Ha.out Hb.out (by omega) (by omega)
  go_wp2_with fail
  refine K.mono ?_
  rintro e w20 ⟨v20, rfl, h20, t20⟩
  obtain ⟨ao20, n20, cap20, rfl⟩ := h20.shape
  replace Ha : Hid (Lst w20 (.slice aoa a.length capa) (fun c k => fa c k) 60) := Ha.out.touch t20
  replace Hb : Hid (Lst w20 (.slice aob b.length capb) (fun c k => fb c k) 60) := Hb.out.touch t20
  replace Hc : Hid (Lst w20 (.slice aoc c.length capc) (fun c k => fc c k) 60) := Hc.out.touch t20
  replace Hj : Hid (Cst w20 (.slice ao2 n2 cap2) (fun c k => max (fa c k) (fb c k)) 241) := Hj.out.touch t20
  replace Hm : Hid (Cst w20 (.slice ao3 n3 cap3) (fun c k => min (fa c k) (fb c k)) 241) := Hm.out.touch t20
  replace HT : Hid (Touch (fun _ => False) w w20) := HT.out.trans t20
  have Hx : Hid (Cst w20 (.slice ao20 n20 cap20) (fun c k => ifAb (fa c k) (fb c k)) 241) := h20
  clear h20 t20 K
  have K := meet_set Hx.out.lst Hb.out (by omega) (by omega)
  go_wp2_with fail
  refine K.mono ?_
  rintro e w21 ⟨v21, rfl, h21, t21⟩
  obtain ⟨ao21, n21, cap21, rfl⟩ := h21.shape
  replace Ha : Hid (Lst w21 (.slice aoa a.length capa) (fun c k => fa c k) 60) := Ha.out.touch t21
  replace Hb : Hid (Lst w21 (.slice aob b.length capb) (fun c k => fb c k) 60) := Hb.out.touch t21
  replace Hc : Hid (Lst w21 (.slice aoc c.length capc) (fun c k => fc c k) 60) := Hc.out.touch t21
  replace Hj : Hid (Cst w21 (.slice ao2 n2 cap2) (fun c k => max (fa c k) (fb c k)) 241) := Hj.out.touch t21
  replace Hm : Hid (Cst w21 (.slice ao3 n3 cap3) (fun c k => min (fa c k) (fb c k)) 241) := Hm.out.touch t21
  replace Hx : Hid (Cst w21 (.slice ao20 n20 cap20) (fun c k => ifAb (fa c k) (fb c k)) 241) := Hx.out.touch t21
  replace HT : Hid (Touch (fun _ => False) w w21) := HT.out.trans t21
  have Hy : Hid (Cst w21 (.slice ao21 n21 cap21) (fun c k => min (ifAb (fa c k) (fb c k)) (fb c k)) 603) := h21
  clear h21 t21 K
  have hz0 := Hy.out.zero (fun c k => by rcases HF.out.1 c k with e | e <;> rcases HF.out.2.1 c k with f | f <;> simp only [e, f, ifAb] <;> decide)
  subst hz0
  have K := join_set Hb.out Hc.out (by omega) (by omega)
  go_wp2_with fail
  refine K.mono ?_
  rintro e w22 ⟨v22, rfl, h22, t22⟩
  obtain ⟨ao22, n22, cap22, rfl⟩ := h22.shape
  replace Ha : Hid (Lst w22 (.slice aoa a.length capa) (fun c k => fa c k) 60) := Ha.out.touch t22
  replace Hb : Hid (Lst w22 (.slice aob b.length capb) (fun c k => fb c k) 60) := Hb.out.touch t22
  replace Hc : Hid (Lst w22 (.slice aoc c.length capc) (fun c k => fc c k) 60) := Hc.out.touch t22
  replace Hj : Hid (Cst w22 (.slice ao2 n2 cap2) (fun c k => max (fa c k) (fb c k)) 241) := Hj.out.touch t22
  replace Hm : Hid (Cst w22 (.slice ao3 n3 cap3) (fun c k => min (fa c k) (fb c k)) 241) := Hm.out.touch t22
  replace Hx : Hid (Cst w22 (.slice ao20 n20 cap20) (fun c k => ifAb (fa c k) (fb c k)) 241) := Hx.out.touch t22
  replace Hy : Hid (Cst w22 (.slice ao21 0 cap21) (fun c k => min (ifAb (fa c k) (fb c k)) (fb c k)) 603) := Hy.out.touch t22
  replace HT : Hid (Touch (fun _ => False) w w22) := HT.out.trans t22
  have Hp : Hid (Cst w22 (.slice ao22 n22 cap22) (fun c k => max (fb c k) (fc c k)) 241) := h22
  clear h22 t22 K
  have K := minus_set Ha.out Hp.out.lst (by omega) (by omega)
  go_wp2_with fail
  refine K.mono ?_
  rintro e w23 ⟨v23, rfl, h23, t23⟩
  obtain ⟨ao23, n23, cap23, rfl⟩ := h23.shape
  replace Ha : Hid (Lst w23 (.slice aoa a.length capa) (fun c k => fa c k) 60) := Ha.out.touch t23
  replace Hb : Hid (Lst w23 (.slice aob b.length capb) (fun c k => fb c k) 60) := Hb.out.touch t23
  replace Hc : Hid (Lst w23 (.slice aoc c.length capc) (fun c k => fc c k) 60) := Hc.out.touch t23
  replace Hj : Hid (Cst w23 (.slice ao2 n2 cap2) (fun c k => max (fa c k) (fb c k)) 241) := Hj.out.touch t23
  replace Hm : Hid (Cst w23 (.slice ao3 n3 cap3) (fun c k => min (fa c k) (fb c k)) 241) := Hm.out.touch t23
  replace Hx : Hid (Cst w23 (.slice ao20 n20 cap20) (fun c k => ifAb (fa c k) (fb c k)) 241) := Hx.out.touch t23
  replace Hy : Hid (Cst w23 (.slice ao21 0 cap21) (fun c k => min (ifAb (fa c k) (fb c k)) (fb c k)) 603) := Hy.out.touch t23
  replace Hp : Hid (Cst w23 (.slice ao22 n22 cap22) (fun c k => max (fb c k) (fc c k)) 241) := Hp.out.touch t23
  replace HT : Hid (Touch (fun _ => False) w w23) := HT.out.trans t23
  have Hq : Hid (Cst w23 (.slice ao23 n23 cap23) (fun c k => ifAb (fa c k) (max (fb c k) (fc c k))) 603) := h23
  clear h23 t23 K
  have K := minus_set Ha.out Hb.out (by omega) (by omega)
  go_wp2_with fail
  refine K.mono ?_
  rintro e w24 ⟨v24, rfl, h24, t24⟩
  obtain ⟨ao24, n24, cap24, rfl⟩ := h24.shape
  replace Ha : Hid (Lst w24 (.slice aoa a.length capa) (fun c k => fa c k) 60) := Ha.out.touch t24
  replace Hb : Hid (Lst w24 (.slice aob b.length capb) (fun c k => fb c k) 60) := Hb.out.touch t24
  replace Hc : Hid (Lst w24 (.slice aoc c.length capc) (fun c k => fc c k) 60) := Hc.out.touch t24
  replace Hj : Hid (Cst w24 (.slice ao2 n2 cap2) (fun c k => max (fa c k) (fb c k)) 241) := Hj.out.touch t24
  replace Hm : Hid (Cst w24 (.slice ao3 n3 cap3) (fun c k => min (fa c k) (fb c k)) 241) := Hm.out.touch t24
  replace Hx : Hid (Cst w24 (.slice ao20 n20 cap20) (fun c k => ifAb (fa c k) (fb c k)) 241) := Hx.out.touch t24
  replace Hy : Hid (Cst w24 (.slice ao21 0 cap21) (fun c k => min (ifAb (fa c k) (fb c k)) (fb c k)) 603) := Hy.out.touch t24
  replace Hp : Hid (Cst w24 (.slice ao22 n22 cap22) (fun c k => max (fb c k) (fc c k)) 241) := Hp.out.touch t24
  replace Hq : Hid (Cst w24 (.slice ao23 n23 cap23) (fun c k => ifAb (fa c k) (max (fb c k) (fc c k))) 603) := Hq.out.touch t24
  replace HT : Hid (Touch (fun _ => False) w w24) := HT.out.trans t24
  have Hr : Hid (Cst w24 (.slice ao24 n24 cap24) (fun c k => ifAb (fa c k) (fb c k)) 241) := h24
  clear h24 t24 K
  have K := minus_set Hr.out.lst Hc.out (by omega) (by omega)
  go_wp2_with fail
  refine K.mono ?_
  rintro e w25 ⟨v25, rfl, h25, t25⟩
  obtain ⟨ao25, n25, cap25, rfl⟩ := h25.shape
  replace Ha : Hid (Lst w25 (.slice aoa a.length capa) (fun c k => fa c k) 60) := Ha.out.touch t25
  replace Hb : Hid (Lst w25 (.slice aob b.length capb) (fun c k => fb c k) 60) := Hb.out.touch t25
  replace Hc : Hid (Lst w25 (.slice aoc c.length capc) (fun c k => fc c k) 60) := Hc.out.touch t25
  replace Hj : Hid (Cst w25 (.slice ao2 n2 cap2) (fun c k => max (fa c k) (fb c k)) 241) := Hj.out.touch t25
  replace Hm : Hid (Cst w25 (.slice ao3 n3 cap3) (fun c k => min (fa c k) (fb c k)) 241) := Hm.out.touch t25
  replace Hx : Hid (Cst w25 (.slice ao20 n20 cap20) (fun c k => ifAb (fa c k) (fb c k)) 241) := Hx.out.touch t25
  replace Hy : Hid (Cst w25 (.slice ao21 0 cap21) (fun c k => min (ifAb (fa c k) (fb c k)) (fb c k)) 603) := Hy.out.touch t25
  replace Hp : Hid (Cst w25 (.slice ao22 n22 cap22) (fun c k => max (fb c k) (fc c k)) 241) := Hp.out.touch t25
  replace Hq : Hid (Cst w25 (.slice ao23 n23 cap23) (fun c k => ifAb (fa c k) (max (fb c k) (fc c k))) 603) := Hq.out.touch t25
  replace Hr : Hid (Cst w25 (.slice ao24 n24 cap24) (fun c k => ifAb (fa c k) (fb c k)) 241) := Hr.out.touch t25
  replace HT : Hid (Touch (fun _ => False) w w25) := HT.out.trans t25
  have Hs : Hid (Cst w25 (.slice ao25 n25 cap25) (fun c k => ifAb (ifAb (fa c k) (fb c k)) (fc c k)) 603) := h25
  clear h25 t25 K
  have K := same_set Hq.out Hs.out (fun c k => by rcases HF.out.1 c k with e | e <;> rcases HF.out.2.1 c k with f | f <;> rcases HF.out.2.2 c k with g | g <;> simp only [e, f, g, ifAb] <;> decide) (by omega)
  go_wp2_with fail
  refine K.mono ?_
  rintro e w26 ⟨rfl, t26⟩
  replace Ha : Hid (Lst w26 (.slice aoa a.length capa) (fun c k => fa c k) 60) := Ha.out.touch t26
  replace Hb : Hid (Lst w26 (.slice aob b.length capb) (fun c k => fb c k) 60) := Hb.out.touch t26
  replace Hc : Hid (Lst w26 (.slice aoc c.length capc) (fun c k => fc c k) 60) := Hc.out.touch t26
  replace Hj : Hid (Cst w26 (.slice ao2 n2 cap2) (fun c k => max (fa c k) (fb c k)) 241) := Hj.out.touch t26
  replace Hm : Hid (Cst w26 (.slice ao3 n3 cap3) (fun c k => min (fa c k) (fb c k)) 241) := Hm.out.touch t26
  replace Hx : Hid (Cst w26 (.slice ao20 n20 cap20) (fun c k => ifAb (fa c k) (fb c k)) 241) := Hx.out.touch t26
  replace Hy : Hid (Cst w26 (.slice ao21 0 cap21) (fun c k => min (ifAb (fa c k) (fb c k)) (fb c k)) 603) := Hy.out.touch t26
  replace Hp : Hid (Cst w26 (.slice ao22 n22 cap22) (fun c k => max (fb c k) (fc c k)) 241) := Hp.out.touch t26
  replace Hq : Hid (Cst w26 (.slice ao23 n23 cap23) (fun c k => ifAb (fa c k) (max (fb c k) (fc c k))) 603) := Hq.out.touch t26
  replace Hr : Hid (Cst w26 (.slice ao24 n24 cap24) (fun c k => ifAb (fa c k) (fb c k)) 241) := Hr.out.touch t26
  replace Hs : Hid (Cst w26 (.slice ao25 n25 cap25) (fun c k => ifAb (ifAb (fa c k) (fb c k)) (fc c k)) 603) := Hs.out.touch t26
  replace HT : Hid (Touch (fun _ => False) w w26) := HT.out.trans t26
  clear t26 K
  clear Hx
  clear Hy
  clear Hp
  clear Hq
  clear Hr
  clear Hs
  obtain ⟨mj, Ej⟩ : ∃ mj, many (fun c k => max (fa c k) (fb c k)) = mj := ⟨_, rfl⟩
  obtain ⟨mx, Ex⟩ : ∃ mx, many (fun c k => ifAb (fa c k) (fb c k)) = mx := ⟨_, rfl⟩
  obtain ⟨my, Ey⟩ : ∃ my, many (fun c k => ifAb (fb c k) (fa c k)) = my := ⟨_, rfl⟩
  obtain ⟨mz, Ez⟩ : ∃ mz, many (fun c k => min (fa c k) (fb c k)) = mz := ⟨_, rfl⟩
  have hsum : mj = mx + my + mz := by
    rw [← Ej, ← Ex, ← Ey, ← Ez, ← many_add (H := fun c k => ifAb (fa c k) (fb c k) + ifAb (fb c k) (fa c k)) (fun c k => rfl)]
    exact many_add fun c k => by rcases HF.out.1 c k with e | e <;> rcases HF.out.2.1 c k with f | f <;> simp only [e, f, ifAb] <;> decide
  subst hsum
  have Mj : Hid (many (fun c k => max (fa c k) (fb c k)) = mx + my + mz) := Ej
  have Mx : Hid (many (fun c k => ifAb (fa c k) (fb c k)) = mx) := Ex
  have My : Hid (many (fun c k => ifAb (fb c k) (fa c k)) = my) := Ey
  have Mz : Hid (many (fun c k => min (fa c k) (fb c k)) = mz) := Ez
  clear Ej Ex Ey Ez
  have K := count_set Hj.out.lst (by omega)
  rw [Mj.out] at K
  go_wp2_with fail
  refine K.mono ?_
  rintro e w27 ⟨rfl, b27, t27⟩
  replace Ha : Hid (Lst w27 (.slice aoa a.length capa) (fun c k => fa c k) 60) := Ha.out.touch t27
  replace Hb : Hid (Lst w27 (.slice aob b.length capb) (fun c k => fb c k) 60) := Hb.out.touch t27
  replace Hc : Hid (Lst w27 (.slice aoc c.length capc) (fun c k => fc c k) 60) := Hc.out.touch t27
  replace Hj : Hid (Cst w27 (.slice ao2 n2 cap2) (fun c k => max (fa c k) (fb c k)) 241) := Hj.out.touch t27
  replace Hm : Hid (Cst w27 (.slice ao3 n3 cap3) (fun c k => min (fa c k) (fb c k)) 241) := Hm.out.touch t27
  replace HT : Hid (Touch (fun _ => False) w w27) := HT.out.trans t27
  clear t27 K
  have K := minus_set Ha.out Hb.out (by omega) (by omega)
  go_wp2_with fail
  refine K.mono ?_
  rintro e w28 ⟨v28, rfl, h28, t28⟩
  obtain ⟨ao28, n28, cap28, rfl⟩ := h28.shape
  replace Ha : Hid (Lst w28 (.slice aoa a.length capa) (fun c k => fa c k) 60) := Ha.out.touch t28
  replace Hb : Hid (Lst w28 (.slice aob b.length capb) (fun c k => fb c k) 60) := Hb.out.touch t28
  replace Hc : Hid (Lst w28 (.slice aoc c.length capc) (fun c k => fc c k) 60) := Hc.out.touch t28
  replace Hj : Hid (Cst w28 (.slice ao2 n2 cap2) (fun c k => max (fa c k) (fb c k)) 241) := Hj.out.touch t28
  replace Hm : Hid (Cst w28 (.slice ao3 n3 cap3) (fun c k => min (fa c k) (fb c k)) 241) := Hm.out.touch t28
  replace HT : Hid (Touch (fun _ => False) w w28) := HT.out.trans t28
  have Hx : Hid (Cst w28 (.slice ao28 n28 cap28) (fun c k => ifAb (fa c k) (fb c k)) 241) := h28
  clear h28 t28 K
  have K := count_set Hx.out.lst (by omega)
  rw [Mx.out] at K
  go_wp2_with fail
  refine K.mono ?_
  rintro e w29 ⟨rfl, b29, t29⟩
  replace Ha : Hid (Lst w29 (.slice aoa a.length capa) (fun c k => fa c k) 60) := Ha.out.touch t29
  replace Hb : Hid (Lst w29 (.slice aob b.length capb) (fun c k => fb c k) 60) := Hb.out.touch t29
  replace Hc : Hid (Lst w29 (.slice aoc c.length capc) (fun c k => fc c k) 60) := Hc.out.touch t29
  replace Hj : Hid (Cst w29 (.slice ao2 n2 cap2) (fun c k => max (fa c k) (fb c k)) 241) := Hj.out.touch t29
  replace Hm : Hid (Cst w29 (.slice ao3 n3 cap3) (fun c k => min (fa c k) (fb c k)) 241) := Hm.out.touch t29
  replace Hx : Hid (Cst w29 (.slice ao28 n28 cap28) (fun c k => ifAb (fa c k) (fb c k)) 241) := Hx.out.touch t29
  replace HT : Hid (Touch (fun _ => False) w w29) := HT.out.trans t29
  clear t29 K
  have K := minus_set Hb.out Ha.out (by omega) (by omega)
  go_wp2_with fail
  refine K.mono ?_
  rintro e w30 ⟨v30, rfl, h30, t30⟩
  obtain ⟨ao30, n30, cap30, rfl⟩ := h30.shape
  replace Ha : Hid (Lst w30 (.slice aoa a.length capa) (fun c k => fa c k) 60) := Ha.out.touch t30
  replace Hb : Hid (Lst w30 (.slice aob b.length capb) (fun c k => fb c k) 60) := Hb.out.touch t30
  replace Hc : Hid (Lst w30 (.slice aoc c.length capc) (fun c k => fc c k) 60) := Hc.out.touch t30
  replace Hj : Hid (Cst w30 (.slice ao2 n2 cap2) (fun c k => max (fa c k) (fb c k)) 241) := Hj.out.touch t30
  replace Hm : Hid (Cst w30 (.slice ao3 n3 cap3) (fun c k => min (fa c k) (fb c k)) 241) := Hm.out.touch t30
  replace Hx : Hid (Cst w30 (.slice ao28 n28 cap28) (fun c k => ifAb (fa c k) (fb c k)) 241) := Hx.out.touch t30
  replace HT : Hid (Touch (fun _ => False) w w30) := HT.out.trans t30
  have Hy : Hid (Cst w30 (.slice ao30 n30 cap30) (fun c k => ifAb (fb c k) (fa c k)) 241) := h30
  clear h30 t30 K
  have K := count_set Hy.out.lst (by omega)
  rw [My.out] at K
  go_wp2_with fail
  refine K.mono ?_
  rintro e w31 ⟨rfl, b31, t31⟩
  replace Ha : Hid (Lst w31 (.slice aoa a.length capa) (fun c k => fa c k) 60) := Ha.out.touch t31
  replace Hb : Hid (Lst w31 (.slice aob b.length capb) (fun c k => fb c k) 60) := Hb.out.touch t31
  replace Hc : Hid (Lst w31 (.slice aoc c.length capc) (fun c k => fc c k) 60) := Hc.out.touch t31
  replace Hj : Hid (Cst w31 (.slice ao2 n2 cap2) (fun c k => max (fa c k) (fb c k)) 241) := Hj.out.touch t31
  replace Hm : Hid (Cst w31 (.slice ao3 n3 cap3) (fun c k => min (fa c k) (fb c k)) 241) := Hm.out.touch t31
  replace Hx : Hid (Cst w31 (.slice ao28 n28 cap28) (fun c k => ifAb (fa c k) (fb c k)) 241) := Hx.out.touch t31
  replace Hy : Hid (Cst w31 (.slice ao30 n30 cap30) (fun c k => ifAb (fb c k) (fa c k)) 241) := Hy.out.touch t31
  replace HT : Hid (Touch (fun _ => False) w w31) := HT.out.trans t31
  clear t31 K
  have K := count_set Hm.out.lst (by omega)
  rw [Mz.out] at K
  go_wp2_with fail
  refine K.mono ?_
  rintro e w32 ⟨rfl, b32, t32⟩
  replace Ha : Hid (Lst w32 (.slice aoa a.length capa) (fun c k => fa c k) 60) := Ha.out.touch t32
  replace Hb : Hid (Lst w32 (.slice aob b.length capb) (fun c k => fb c k) 60) := Hb.out.touch t32
  replace Hc : Hid (Lst w32 (.slice aoc c.length capc) (fun c k => fc c k) 60) := Hc.out.touch t32
  replace Hj : Hid (Cst w32 (.slice ao2 n2 cap2) (fun c k => max (fa c k) (fb c k)) 241) := Hj.out.touch t32
  replace Hm : Hid (Cst w32 (.slice ao3 n3 cap3) (fun c k => min (fa c k) (fb c k)) 241) := Hm.out.touch t32
  replace Hx : Hid (Cst w32 (.slice ao28 n28 cap28) (fun c k => ifAb (fa c k) (fb c k)) 241) := Hx.out.touch t32
  replace Hy : Hid (Cst w32 (.slice ao30 n30 cap30) (fun c k => ifAb (fb c k) (fa c k)) 241) := Hy.out.touch t32
  replace HT : Hid (Touch (fun _ => False) w w32) := HT.out.trans t32
  clear t32 K
  clear Hx
  clear Hy
  have K := join_set Hb.out Hc.out (by omega) (by omega)
  go_wp2_with fail
  refine K.mono ?_
  rintro e w33 ⟨v33, rfl, h33, t33⟩
  obtain ⟨ao33, n33, cap33, rfl⟩ := h33.shape
  replace Ha : Hid (Lst w33 (.slice aoa a.length capa) (fun c k => fa c k) 60) := Ha.out.touch t33
  replace Hb : Hid (Lst w33 (.slice aob b.length capb) (fun c k => fb c k) 60) := Hb.out.touch t33
  replace Hc : Hid (Lst w33 (.slice aoc c.length capc) (fun c k => fc c k) 60) := Hc.out.touch t33
  replace Hj : Hid (Cst w33 (.slice ao2 n2 cap2) (fun c k => max (fa c k) (fb c k)) 241) := Hj.out.touch t33
  replace Hm : Hid (Cst w33 (.slice ao3 n3 cap3) (fun c k => min (fa c k) (fb c k)) 241) := Hm.out.touch t33
  replace HT : Hid (Touch (fun _ => False) w w33) := HT.out.trans t33
  have Hp : Hid (Cst w33 (.slice ao33 n33 cap33) (fun c k => max (fb c k) (fc c k)) 241) := h33
  clear h33 t33 K
  have K := meet_set Ha.out Hp.out.lst (by omega) (by omega)
  go_wp2_with fail
  refine K.mono ?_
  rintro e w34 ⟨v34, rfl, h34, t34⟩
  obtain ⟨ao34, n34, cap34, rfl⟩ := h34.shape
  replace Ha : Hid (Lst w34 (.slice aoa a.length capa) (fun c k => fa c k) 60) := Ha.out.touch t34
  replace Hb : Hid (Lst w34 (.slice aob b.length capb) (fun c k => fb c k) 60) := Hb.out.touch t34
  replace Hc : Hid (Lst w34 (.slice aoc c.length capc) (fun c k => fc c k) 60) := Hc.out.touch t34
  replace Hj : Hid (Cst w34 (.slice ao2 n2 cap2) (fun c k => max (fa c k) (fb c k)) 241) := Hj.out.touch t34
  replace Hm : Hid (Cst w34 (.slice ao3 n3 cap3) (fun c k => min (fa c k) (fb c k)) 241) := Hm.out.touch t34
  replace Hp : Hid (Cst w34 (.slice ao33 n33 cap33) (fun c k => max (fb c k) (fc c k)) 241) := Hp.out.touch t34
  replace HT : Hid (Touch (fun _ => False) w w34) := HT.out.trans t34
  have Hq : Hid (Cst w34 (.slice ao34 n34 cap34) (fun c k => min (fa c k) (max (fb c k) (fc c k))) 603) := h34
  clear h34 t34 K
  have K := meet_set Ha.out Hc.out (by omega) (by omega)
  go_wp2_with fail
  refine K.mono ?_
  rintro e w35 ⟨v35, rfl, h35, t35⟩
  obtain ⟨ao35, n35, cap35, rfl⟩ := h35.shape
  replace Ha : Hid (Lst w35 (.slice aoa a.length capa) (fun c k => fa c k) 60) := Ha.out.touch t35
  replace Hb : Hid (Lst w35 (.slice aob b.length capb) (fun c k => fb c k) 60) := Hb.out.touch t35
  replace Hc : Hid (Lst w35 (.slice aoc c.length capc) (fun c k => fc c k) 60) := Hc.out.touch t35
  replace Hj : Hid (Cst w35 (.slice ao2 n2 cap2) (fun c k => max (fa c k) (fb c k)) 241) := Hj.out.touch t35
  replace Hm : Hid (Cst w35 (.slice ao3 n3 cap3) (fun c k => min (fa c k) (fb c k)) 241) := Hm.out.touch t35
  replace Hp : Hid (Cst w35 (.slice ao33 n33 cap33) (fun c k => max (fb c k) (fc c k)) 241) := Hp.out.touch t35
  replace Hq : Hid (Cst w35 (.slice ao34 n34 cap34) (fun c k => min (fa c k) (max (fb c k) (fc c k))) 603) := Hq.out.touch t35
  replace HT : Hid (Touch (fun _ => False) w w35) := HT.out.trans t35
  have Hr : Hid (Cst w35 (.slice ao35 n35 cap35) (fun c k => min (fa c k) (fc c k)) 241) := h35
  clear h35 t35 K
  have K := join_set Hm.out.lst Hr.out.lst (by omega) (by omega)
  go_wp2_with fail
  refine K.mono ?_
  rintro e w36 ⟨v36, rfl, h36, t36⟩
  obtain ⟨ao36, n36, cap36, rfl⟩ := h36.shape
  replace Ha : Hid (Lst w36 (.slice aoa a.length capa) (fun c k => fa c k) 60) := Ha.out.touch t36
  replace Hb : Hid (Lst w36 (.slice aob b.length capb) (fun c k => fb c k) 60) := Hb.out.touch t36
  replace Hc : Hid (Lst w36 (.slice aoc c.length capc) (fun c k => fc c k) 60) := Hc.out.touch t36
  replace Hj : Hid (Cst w36 (.slice ao2 n2 cap2) (fun c k => max (fa c k) (fb c k)) 241) := Hj.out.touch t36
  replace Hm : Hid (Cst w36 (.slice ao3 n3 cap3) (fun c k => min (fa c k) (fb c k)) 241) := Hm.out.touch t36
  replace Hp : Hid (Cst w36 (.slice ao33 n33 cap33) (fun c k => max (fb c k) (fc c k)) 241) := Hp.out.touch t36
  replace Hq : Hid (Cst w36 (.slice ao34 n34 cap34) (fun c k => min (fa c k) (max (fb c k) (fc c k))) 603) := Hq.out.touch t36
  replace Hr : Hid (Cst w36 (.slice ao35 n35 cap35) (fun c k => min (fa c k) (fc c k)) 241) := Hr.out.touch t36
  replace HT : Hid (Touch (fun _ => False) w w36) := HT.out.trans t36
  have Hs : Hid (Cst w36 (.slice ao36 n36 cap36) (fun c k => max (min (fa c k) (fb c k)) (min (fa c k) (fc c k))) 965) := h36
  clear h36 t36 K
  have K := same_set Hq.out Hs.out (fun c k => by rcases HF.out.1 c k with e | e <;> rcases HF.out.2.1 c k with f | f <;> rcases HF.out.2.2 c k with g | g <;> simp only [e, f, g, ifAb] <;> decide) (by omega)
  go_wp2_with fail
  refine K.mono ?_
  rintro e w37 ⟨rfl, t37⟩
  replace Ha : Hid (Lst w37 (.slice aoa a.length capa) (fun c k => fa c k) 60) := Ha.out.touch t37
  replace Hb : Hid (Lst w37 (.slice aob b.length capb) (fun c k => fb c k) 60) := Hb.out.touch t37
  replace Hc : Hid (Lst w37 (.slice aoc c.length capc) (fun c k => fc c k) 60) := Hc.out.touch t37
  replace Hj : Hid (Cst w37 (.slice ao2 n2 cap2) (fun c k => max (fa c k) (fb c k)) 241) := Hj.out.touch t37
  replace Hm : Hid (Cst w37 (.slice ao3 n3 cap3) (fun c k => min (fa c k) (fb c k)) 241) := Hm.out.touch t37
  replace Hp : Hid (Cst w37 (.slice ao33 n33 cap33) (fun c k => max (fb c k) (fc c k)) 241) := Hp.out.touch t37
  replace Hq : Hid (Cst w37 (.slice ao34 n34 cap34) (fun c k => min (fa c k) (max (fb c k) (fc c k))) 603) := Hq.out.touch t37
  replace Hr : Hid (Cst w37 (.slice ao35 n35 cap35) (fun c k => min (fa c k) (fc c k)) 241) := Hr.out.touch t37
  replace Hs : Hid (Cst w37 (.slice ao36 n36 cap36) (fun c k => max (min (fa c k) (fb c k)) (min (fa c k) (fc c k))) 965) := Hs.out.touch t37
  replace HT : Hid (Touch (fun _ => False) w w37) := HT.out.trans t37
  clear t37 K
  go_wp2_with fail
  go_ret
  exact ⟨rfl, HT.out⟩
end Go.Proofs.Ytipncloegjcjfaa
