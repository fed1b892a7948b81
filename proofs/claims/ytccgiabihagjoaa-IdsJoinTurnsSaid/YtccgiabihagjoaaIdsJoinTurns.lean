/- quirelaw6.IdsJoinTurns. -/
import Derived.Test.YtccgiabihagjoaaRtB
import Derived.Test.YtccgiabihagjoaaArgT
namespace Go.Proofs.Ytccgiabihagjoaa
open Go.RowKit Go.Maps
set_option linter.unusedVariables false
set_option linter.unusedSimpArgs false
set_option maxRecDepth 100000

set_option maxHeartbeats 16000000 in
theorem idsJoinTurns_any (w : World) (va : Value) (a : List Tn) (sa : SlT w va a) (ga : ∀ r ∈ a, fitsT r) (vb : Value) (b : List Tn) (sb : SlT w vb b) (gb : ∀ r ∈ b, fitsT r) (vc : Value) (c : List Tn) (sc : SlT w vc c) (gc : ∀ r ∈ c, fitsT r) (ic ik : Int) :
    Calls Try.prog 4 #[va, vb, vc, idV ic ik] w fun e w' => e = .returned (.bool true) ∧ Touch (fun _ => False) w w' := by
  have Sa : Hid (SlT w va a) := sa
  have Sb : Hid (SlT w vb b) := sb
  have Sc : Hid (SlT w vc c) := sc
  obtain ⟨aoa, capa, rfl, _⟩ := sa
  obtain ⟨aob, capb, rfl, _⟩ := sb
  obtain ⟨aoc, capc, rfl, _⟩ := sc
  clear ga gb gc
  obtain ⟨fa, Ea⟩ : ∃ fa, Hid (turnOf a = fa) := ⟨_, rfl⟩
  obtain ⟨fb, Eb⟩ : ∃ fb, Hid (turnOf b = fb) := ⟨_, rfl⟩
  obtain ⟨fc, Ec⟩ : ∃ fc, Hid (turnOf c = fc) := ⟨_, rfl⟩
  have HP : Hid ((∀ c k, 0 ≤ fa c k) ∧ (∀ c k, 0 ≤ fb c k) ∧ ∀ c k, 0 ≤ fc c k) := ⟨fun x y => by rw [← Ea.out]; exact (turnOf_pos a x y).1, fun x y => by rw [← Eb.out]; exact (turnOf_pos b x y).1, fun x y => by rw [← Ec.out]; exact (turnOf_pos c x y).1⟩
  have KN := turned_any (w.alloc (idO ic ik))
  have L0 := fun W => few_any a.length aoa capa W
  have L1 := fun W => few_any b.length aob capb W
  have L2 := fun W => few_any c.length aoc capc W
  have HB0 : Hid ((w.alloc (idO ic ik)).heap[w.heap.size]? = some (idO ic ik)) := heap_alloc_new w _
  have HT0 : Hid (Touch (fun _ => False) w (w.alloc (idO ic ik))) := (Touch.refl _ w).alloc _
  go_enter Try.func4, Try.ntmps4
  go_wp2_with fail
  refine KN.mono ?_
  rintro e w1 ⟨rfl, t1⟩
  have HT : Hid (Touch (fun _ => False) w w1) := HT0.out.trans t1
  have HBx : Hid (w1.heap[w.heap.size]? = some (idO ic ik)) := (t1.block _ (lt_of_heap HB0.out) id).trans HB0.out
  clear t1 KN HB0 HT0
  cases hd0 : decide (a.length ≤ 60) with
  | false =>
    rw [hd0] at L0
    go_wp2_with fail
    refine (L0 _).mono ?_
    rintro e w2 ⟨rfl, rfl⟩
    go_wp2_with fail
    go_ret
    exact ⟨rfl, HT.out⟩
  | true =>
  rw [hd0] at L0
  go_wp2_with fail
  refine (L0 _).mono ?_
  rintro e w2 ⟨rfl, hw⟩
  rw [hw]
  clear hw w2
  cases hd1 : decide (b.length ≤ 60) with
  | false =>
    rw [hd1] at L1
    go_wp2_with fail
    refine (L1 _).mono ?_
    rintro e w2 ⟨rfl, rfl⟩
    go_wp2_with fail
    go_ret
    exact ⟨rfl, HT.out⟩
  | true =>
  rw [hd1] at L1
  go_wp2_with fail
  refine (L1 _).mono ?_
  rintro e w2 ⟨rfl, hw⟩
  rw [hw]
  clear hw w2
  cases hd2 : decide (c.length ≤ 60) with
  | false =>
    rw [hd2] at L2
    go_wp2_with fail
    refine (L2 _).mono ?_
    rintro e w2 ⟨rfl, rfl⟩
    go_wp2_with fail
    go_ret
    exact ⟨rfl, HT.out⟩
  | true =>
  rw [hd2] at L2
  go_wp2_with fail
  refine (L2 _).mono ?_
  rintro e w2 ⟨rfl, hw⟩
  rw [hw]
  clear hw w2
  clear L0 L1 L2
  have ha60 : a.length ≤ 60 := by simpa using hd0
  have Ha : Hid (TLst w1 (.slice aoa a.length capa) (fun c k => fa c k) 60) := ⟨a, Sa.out.touch HT.out, fun c k => by rw [Ea.out], .inl ha60, ha60⟩
  have hb60 : b.length ≤ 60 := by simpa using hd1
  have Hb : Hid (TLst w1 (.slice aob b.length capb) (fun c k => fb c k) 60) := ⟨b, Sb.out.touch HT.out, fun c k => by rw [Eb.out], .inl hb60, hb60⟩
  have hc60 : c.length ≤ 60 := by simpa using hd2
  have Hc : Hid (TLst w1 (.slice aoc c.length capc) (fun c k => fc c k) 60) := ⟨c, Sc.out.touch HT.out, fun c k => by rw [Ec.out], .inl hc60, hc60⟩
  clear Sa Sb Sc Ea Eb Ec
  have K := joinT_set Ha.out Hb.out (by omega) (by omega)
  go_wp2_with fail
  refine K.mono ?_
  rintro e w2 ⟨v2, rfl, h2, t2⟩
  obtain ⟨ao2, n2, cap2, rfl⟩ := h2.shape
  replace Ha : Hid (TLst w2 (.slice aoa a.length capa) (fun c k => fa c k) 60) := Ha.out.touch t2
  replace Hb : Hid (TLst w2 (.slice aob b.length capb) (fun c k => fb c k) 60) := Hb.out.touch t2
  replace Hc : Hid (TLst w2 (.slice aoc c.length capc) (fun c k => fc c k) 60) := Hc.out.touch t2
  replace HT : Hid (Touch (fun _ => False) w w2) := HT.out.trans t2
  replace HBx : Hid (w2.heap[w.heap.size]? = some (idO ic ik)) := (t2.block _ (lt_of_heap HBx.out) id).trans HBx.out
  have Hj : Hid (TCst w2 (.slice ao2 n2 cap2) (fun c k => max (fa c k) (fb c k)) 29041) := h2
  clear h2 t2 K
  have K := aboveT_set Ha.out Hb.out (by omega) (by omega)
  go_wp2_with fail
  refine K.mono ?_
  rintro e w3 ⟨v3, rfl, h3, t3⟩
  obtain ⟨ao3, n3, cap3, rfl⟩ := h3.shape
  replace Ha : Hid (TLst w3 (.slice aoa a.length capa) (fun c k => fa c k) 60) := Ha.out.touch t3
  replace Hb : Hid (TLst w3 (.slice aob b.length capb) (fun c k => fb c k) 60) := Hb.out.touch t3
  replace Hc : Hid (TLst w3 (.slice aoc c.length capc) (fun c k => fc c k) 60) := Hc.out.touch t3
  replace Hj : Hid (TCst w3 (.slice ao2 n2 cap2) (fun c k => max (fa c k) (fb c k)) 29041) := Hj.out.touch t3
  replace HT : Hid (Touch (fun _ => False) w w3) := HT.out.trans t3
  replace HBx : Hid (w3.heap[w.heap.size]? = some (idO ic ik)) := (t3.block _ (lt_of_heap HBx.out) id).trans HBx.out
  have Ho : Hid (TCst w3 (.slice ao3 n3 cap3) (fun c k => ifAb (fa c k) (fb c k)) 29041) := h3
  clear h3 t3 K
  have K := rjoinT_set Ha.out Hb.out
  go_wp2_with fail
  refine K.mono ?_
  rintro e w4 ⟨v4, rfl, h4, t4⟩
  obtain ⟨ao4, n4, cap4, rfl⟩ := h4.shape
  replace Ha : Hid (TLst w4 (.slice aoa a.length capa) (fun c k => fa c k) 60) := Ha.out.touch t4
  replace Hb : Hid (TLst w4 (.slice aob b.length capb) (fun c k => fb c k) 60) := Hb.out.touch t4
  replace Hc : Hid (TLst w4 (.slice aoc c.length capc) (fun c k => fc c k) 60) := Hc.out.touch t4
  replace Hj : Hid (TCst w4 (.slice ao2 n2 cap2) (fun c k => max (fa c k) (fb c k)) 29041) := Hj.out.touch t4
  replace Ho : Hid (TCst w4 (.slice ao3 n3 cap3) (fun c k => ifAb (fa c k) (fb c k)) 29041) := Ho.out.touch t4
  replace HT : Hid (Touch (fun _ => False) w w4) := HT.out.trans t4
  replace HBx : Hid (w4.heap[w.heap.size]? = some (idO ic ik)) := (t4.block _ (lt_of_heap HBx.out) id).trans HBx.out
  have Hy : Hid (TRef w4 (.slice ao4 n4 cap4) (fun c k => max (fa c k) (fb c k))) := h4
  clear h4 t4 K
  have K := sameT_ref Hj.out Hy.out (fun c k => by have h1 := HP.out.1 c k; have h2 := HP.out.2.1 c k; have h3 := HP.out.2.2 c k; first | rfl | omega | (simp only [ifAb]; split <;> omega) | (simp only [ifAb]; split <;> split <;> omega)) (by omega)
  go_wp2_with fail
  refine K.mono ?_
  rintro e w5 ⟨rfl, t5⟩
  replace Ha : Hid (TLst w5 (.slice aoa a.length capa) (fun c k => fa c k) 60) := Ha.out.touch t5
  replace Hb : Hid (TLst w5 (.slice aob b.length capb) (fun c k => fb c k) 60) := Hb.out.touch t5
  replace Hc : Hid (TLst w5 (.slice aoc c.length capc) (fun c k => fc c k) 60) := Hc.out.touch t5
  replace Hj : Hid (TCst w5 (.slice ao2 n2 cap2) (fun c k => max (fa c k) (fb c k)) 29041) := Hj.out.touch t5
  replace Ho : Hid (TCst w5 (.slice ao3 n3 cap3) (fun c k => ifAb (fa c k) (fb c k)) 29041) := Ho.out.touch t5
  replace Hy : Hid (TRef w5 (.slice ao4 n4 cap4) (fun c k => max (fa c k) (fb c k))) := Hy.out.touch t5
  replace HT : Hid (Touch (fun _ => False) w w5) := HT.out.trans t5
  replace HBx : Hid (w5.heap[w.heap.size]? = some (idO ic ik)) := (t5.block _ (lt_of_heap HBx.out) id).trans HBx.out
  clear t5 K
  clear Hy
  have K := rabove_set Ha.out Hb.out
  go_wp2_with fail
  refine K.mono ?_
  rintro e w6 ⟨v6, rfl, h6, t6⟩
  obtain ⟨ao6, n6, cap6, rfl⟩ := h6.shape
  replace Ha : Hid (TLst w6 (.slice aoa a.length capa) (fun c k => fa c k) 60) := Ha.out.touch t6
  replace Hb : Hid (TLst w6 (.slice aob b.length capb) (fun c k => fb c k) 60) := Hb.out.touch t6
  replace Hc : Hid (TLst w6 (.slice aoc c.length capc) (fun c k => fc c k) 60) := Hc.out.touch t6
  replace Hj : Hid (TCst w6 (.slice ao2 n2 cap2) (fun c k => max (fa c k) (fb c k)) 29041) := Hj.out.touch t6
  replace Ho : Hid (TCst w6 (.slice ao3 n3 cap3) (fun c k => ifAb (fa c k) (fb c k)) 29041) := Ho.out.touch t6
  replace HT : Hid (Touch (fun _ => False) w w6) := HT.out.trans t6
  replace HBx : Hid (w6.heap[w.heap.size]? = some (idO ic ik)) := (t6.block _ (lt_of_heap HBx.out) id).trans HBx.out
  have Hy : Hid (TRef w6 (.slice ao6 n6 cap6) (fun c k => ifAb (fa c k) (fb c k))) := h6
  clear h6 t6 K
  have K := sameT_ref Ho.out Hy.out (fun c k => by have h1 := HP.out.1 c k; have h2 := HP.out.2.1 c k; have h3 := HP.out.2.2 c k; first | rfl | omega | (simp only [ifAb]; split <;> omega) | (simp only [ifAb]; split <;> split <;> omega)) (by omega)
  go_wp2_with fail
  refine K.mono ?_
  rintro e w7 ⟨rfl, t7⟩
  replace Ha : Hid (TLst w7 (.slice aoa a.length capa) (fun c k => fa c k) 60) := Ha.out.touch t7
  replace Hb : Hid (TLst w7 (.slice aob b.length capb) (fun c k => fb c k) 60) := Hb.out.touch t7
  replace Hc : Hid (TLst w7 (.slice aoc c.length capc) (fun c k => fc c k) 60) := Hc.out.touch t7
  replace Hj : Hid (TCst w7 (.slice ao2 n2 cap2) (fun c k => max (fa c k) (fb c k)) 29041) := Hj.out.touch t7
  replace Ho : Hid (TCst w7 (.slice ao3 n3 cap3) (fun c k => ifAb (fa c k) (fb c k)) 29041) := Ho.out.touch t7
  replace Hy : Hid (TRef w7 (.slice ao6 n6 cap6) (fun c k => ifAb (fa c k) (fb c k))) := Hy.out.touch t7
  replace HT : Hid (Touch (fun _ => False) w w7) := HT.out.trans t7
  replace HBx : Hid (w7.heap[w.heap.size]? = some (idO ic ik)) := (t7.block _ (lt_of_heap HBx.out) id).trans HBx.out
  clear t7 K
  clear Hy
  have K := joinT_set Hb.out Ha.out (by omega) (by omega)
  go_wp2_with fail
  refine K.mono ?_
  rintro e w8 ⟨v8, rfl, h8, t8⟩
  obtain ⟨ao8, n8, cap8, rfl⟩ := h8.shape
  replace Ha : Hid (TLst w8 (.slice aoa a.length capa) (fun c k => fa c k) 60) := Ha.out.touch t8
  replace Hb : Hid (TLst w8 (.slice aob b.length capb) (fun c k => fb c k) 60) := Hb.out.touch t8
  replace Hc : Hid (TLst w8 (.slice aoc c.length capc) (fun c k => fc c k) 60) := Hc.out.touch t8
  replace Hj : Hid (TCst w8 (.slice ao2 n2 cap2) (fun c k => max (fa c k) (fb c k)) 29041) := Hj.out.touch t8
  replace Ho : Hid (TCst w8 (.slice ao3 n3 cap3) (fun c k => ifAb (fa c k) (fb c k)) 29041) := Ho.out.touch t8
  replace HT : Hid (Touch (fun _ => False) w w8) := HT.out.trans t8
  replace HBx : Hid (w8.heap[w.heap.size]? = some (idO ic ik)) := (t8.block _ (lt_of_heap HBx.out) id).trans HBx.out
  have Hy : Hid (TCst w8 (.slice ao8 n8 cap8) (fun c k => max (fb c k) (fa c k)) 29041) := h8
  clear h8 t8 K
  have K := sameT_ref Hj.out Hy.out.ref (fun c k => by have h1 := HP.out.1 c k; have h2 := HP.out.2.1 c k; have h3 := HP.out.2.2 c k; first | rfl | omega | (simp only [ifAb]; split <;> omega) | (simp only [ifAb]; split <;> split <;> omega)) (by omega)
  go_wp2_with fail
  refine K.mono ?_
  rintro e w9 ⟨rfl, t9⟩
  replace Ha : Hid (TLst w9 (.slice aoa a.length capa) (fun c k => fa c k) 60) := Ha.out.touch t9
  replace Hb : Hid (TLst w9 (.slice aob b.length capb) (fun c k => fb c k) 60) := Hb.out.touch t9
  replace Hc : Hid (TLst w9 (.slice aoc c.length capc) (fun c k => fc c k) 60) := Hc.out.touch t9
  replace Hj : Hid (TCst w9 (.slice ao2 n2 cap2) (fun c k => max (fa c k) (fb c k)) 29041) := Hj.out.touch t9
  replace Ho : Hid (TCst w9 (.slice ao3 n3 cap3) (fun c k => ifAb (fa c k) (fb c k)) 29041) := Ho.out.touch t9
  replace Hy : Hid (TCst w9 (.slice ao8 n8 cap8) (fun c k => max (fb c k) (fa c k)) 29041) := Hy.out.touch t9
  replace HT : Hid (Touch (fun _ => False) w w9) := HT.out.trans t9
  replace HBx : Hid (w9.heap[w.heap.size]? = some (idO ic ik)) := (t9.block _ (lt_of_heap HBx.out) id).trans HBx.out
  clear t9 K
  clear Hy
  have K := joinT_set Hj.out.lst Hc.out (by omega) (by omega)
  go_wp2_with fail
  refine K.mono ?_
  rintro e w10 ⟨v10, rfl, h10, t10⟩
  obtain ⟨ao10, n10, cap10, rfl⟩ := h10.shape
  replace Ha : Hid (TLst w10 (.slice aoa a.length capa) (fun c k => fa c k) 60) := Ha.out.touch t10
  replace Hb : Hid (TLst w10 (.slice aob b.length capb) (fun c k => fb c k) 60) := Hb.out.touch t10
  replace Hc : Hid (TLst w10 (.slice aoc c.length capc) (fun c k => fc c k) 60) := Hc.out.touch t10
  replace Hj : Hid (TCst w10 (.slice ao2 n2 cap2) (fun c k => max (fa c k) (fb c k)) 29041) := Hj.out.touch t10
  replace Ho : Hid (TCst w10 (.slice ao3 n3 cap3) (fun c k => ifAb (fa c k) (fb c k)) 29041) := Ho.out.touch t10
  replace HT : Hid (Touch (fun _ => False) w w10) := HT.out.trans t10
  replace HBx : Hid (w10.heap[w.heap.size]? = some (idO ic ik)) := (t10.block _ (lt_of_heap HBx.out) id).trans HBx.out
  have Hp : Hid (TCst w10 (.slice ao10 n10 cap10) (fun c k => max (max (fa c k) (fb c k)) (fc c k)) 87003) := h10
  clear h10 t10 K
  have K := joinT_set Hb.out Hc.out (by omega) (by omega)
  go_wp2_with fail
  refine K.mono ?_
  rintro e w11 ⟨v11, rfl, h11, t11⟩
  obtain ⟨ao11, n11, cap11, rfl⟩ := h11.shape
  replace Ha : Hid (TLst w11 (.slice aoa a.length capa) (fun c k => fa c k) 60) := Ha.out.touch t11
  replace Hb : Hid (TLst w11 (.slice aob b.length capb) (fun c k => fb c k) 60) := Hb.out.touch t11
  replace Hc : Hid (TLst w11 (.slice aoc c.length capc) (fun c k => fc c k) 60) := Hc.out.touch t11
  replace Hj : Hid (TCst w11 (.slice ao2 n2 cap2) (fun c k => max (fa c k) (fb c k)) 29041) := Hj.out.touch t11
  replace Ho : Hid (TCst w11 (.slice ao3 n3 cap3) (fun c k => ifAb (fa c k) (fb c k)) 29041) := Ho.out.touch t11
  replace Hp : Hid (TCst w11 (.slice ao10 n10 cap10) (fun c k => max (max (fa c k) (fb c k)) (fc c k)) 87003) := Hp.out.touch t11
  replace HT : Hid (Touch (fun _ => False) w w11) := HT.out.trans t11
  replace HBx : Hid (w11.heap[w.heap.size]? = some (idO ic ik)) := (t11.block _ (lt_of_heap HBx.out) id).trans HBx.out
  have Hq : Hid (TCst w11 (.slice ao11 n11 cap11) (fun c k => max (fb c k) (fc c k)) 29041) := h11
  clear h11 t11 K
  have K := joinT_set Ha.out Hq.out.lst (by omega) (by omega)
  go_wp2_with fail
  refine K.mono ?_
  rintro e w12 ⟨v12, rfl, h12, t12⟩
  obtain ⟨ao12, n12, cap12, rfl⟩ := h12.shape
  replace Ha : Hid (TLst w12 (.slice aoa a.length capa) (fun c k => fa c k) 60) := Ha.out.touch t12
  replace Hb : Hid (TLst w12 (.slice aob b.length capb) (fun c k => fb c k) 60) := Hb.out.touch t12
  replace Hc : Hid (TLst w12 (.slice aoc c.length capc) (fun c k => fc c k) 60) := Hc.out.touch t12
  replace Hj : Hid (TCst w12 (.slice ao2 n2 cap2) (fun c k => max (fa c k) (fb c k)) 29041) := Hj.out.touch t12
  replace Ho : Hid (TCst w12 (.slice ao3 n3 cap3) (fun c k => ifAb (fa c k) (fb c k)) 29041) := Ho.out.touch t12
  replace Hp : Hid (TCst w12 (.slice ao10 n10 cap10) (fun c k => max (max (fa c k) (fb c k)) (fc c k)) 87003) := Hp.out.touch t12
  replace Hq : Hid (TCst w12 (.slice ao11 n11 cap11) (fun c k => max (fb c k) (fc c k)) 29041) := Hq.out.touch t12
  replace HT : Hid (Touch (fun _ => False) w w12) := HT.out.trans t12
  replace HBx : Hid (w12.heap[w.heap.size]? = some (idO ic ik)) := (t12.block _ (lt_of_heap HBx.out) id).trans HBx.out
  have Hr : Hid (TCst w12 (.slice ao12 n12 cap12) (fun c k => max (fa c k) (max (fb c k) (fc c k))) 87003) := h12
  clear h12 t12 K
  have K := sameT_ref Hp.out Hr.out.ref (fun c k => by have h1 := HP.out.1 c k; have h2 := HP.out.2.1 c k; have h3 := HP.out.2.2 c k; first | rfl | omega | (simp only [ifAb]; split <;> omega) | (simp only [ifAb]; split <;> split <;> omega)) (by omega)
  go_wp2_with fail
  refine K.mono ?_
  rintro e w13 ⟨rfl, t13⟩
  replace Ha : Hid (TLst w13 (.slice aoa a.length capa) (fun c k => fa c k) 60) := Ha.out.touch t13
  replace Hb : Hid (TLst w13 (.slice aob b.length capb) (fun c k => fb c k) 60) := Hb.out.touch t13
  replace Hc : Hid (TLst w13 (.slice aoc c.length capc) (fun c k => fc c k) 60) := Hc.out.touch t13
  replace Hj : Hid (TCst w13 (.slice ao2 n2 cap2) (fun c k => max (fa c k) (fb c k)) 29041) := Hj.out.touch t13
  replace Ho : Hid (TCst w13 (.slice ao3 n3 cap3) (fun c k => ifAb (fa c k) (fb c k)) 29041) := Ho.out.touch t13
  replace Hp : Hid (TCst w13 (.slice ao10 n10 cap10) (fun c k => max (max (fa c k) (fb c k)) (fc c k)) 87003) := Hp.out.touch t13
  replace Hq : Hid (TCst w13 (.slice ao11 n11 cap11) (fun c k => max (fb c k) (fc c k)) 29041) := Hq.out.touch t13
  replace Hr : Hid (TCst w13 (.slice ao12 n12 cap12) (fun c k => max (fa c k) (max (fb c k) (fc c k))) 87003) := Hr.out.touch t13
  replace HT : Hid (Touch (fun _ => False) w w13) := HT.out.trans t13
  replace HBx : Hid (w13.heap[w.heap.size]? = some (idO ic ik)) := (t13.block _ (lt_of_heap HBx.out) id).trans HBx.out
  clear t13 K
  clear Hp
  clear Hq
  clear Hr
  have K := joinT_set Hj.out.lst Ha.out (by omega) (by omega)
  go_wp2_with fail
  refine K.mono ?_
  rintro e w14 ⟨v14, rfl, h14, t14⟩
  obtain ⟨ao14, n14, cap14, rfl⟩ := h14.shape
  replace Ha : Hid (TLst w14 (.slice aoa a.length capa) (fun c k => fa c k) 60) := Ha.out.touch t14
  replace Hb : Hid (TLst w14 (.slice aob b.length capb) (fun c k => fb c k) 60) := Hb.out.touch t14
  replace Hc : Hid (TLst w14 (.slice aoc c.length capc) (fun c k => fc c k) 60) := Hc.out.touch t14
  replace Hj : Hid (TCst w14 (.slice ao2 n2 cap2) (fun c k => max (fa c k) (fb c k)) 29041) := Hj.out.touch t14
  replace Ho : Hid (TCst w14 (.slice ao3 n3 cap3) (fun c k => ifAb (fa c k) (fb c k)) 29041) := Ho.out.touch t14
  replace HT : Hid (Touch (fun _ => False) w w14) := HT.out.trans t14
  replace HBx : Hid (w14.heap[w.heap.size]? = some (idO ic ik)) := (t14.block _ (lt_of_heap HBx.out) id).trans HBx.out
  have Hp : Hid (TCst w14 (.slice ao14 n14 cap14) (fun c k => max (max (fa c k) (fb c k)) (fa c k)) 87003) := h14
  clear h14 t14 K
  have K := sameT_ref Hp.out Hj.out.ref (fun c k => by have h1 := HP.out.1 c k; have h2 := HP.out.2.1 c k; have h3 := HP.out.2.2 c k; first | rfl | omega | (simp only [ifAb]; split <;> omega) | (simp only [ifAb]; split <;> split <;> omega)) (by omega)
  go_wp2_with fail
  refine K.mono ?_
  rintro e w15 ⟨rfl, t15⟩
  replace Ha : Hid (TLst w15 (.slice aoa a.length capa) (fun c k => fa c k) 60) := Ha.out.touch t15
  replace Hb : Hid (TLst w15 (.slice aob b.length capb) (fun c k => fb c k) 60) := Hb.out.touch t15
  replace Hc : Hid (TLst w15 (.slice aoc c.length capc) (fun c k => fc c k) 60) := Hc.out.touch t15
  replace Hj : Hid (TCst w15 (.slice ao2 n2 cap2) (fun c k => max (fa c k) (fb c k)) 29041) := Hj.out.touch t15
  replace Ho : Hid (TCst w15 (.slice ao3 n3 cap3) (fun c k => ifAb (fa c k) (fb c k)) 29041) := Ho.out.touch t15
  replace Hp : Hid (TCst w15 (.slice ao14 n14 cap14) (fun c k => max (max (fa c k) (fb c k)) (fa c k)) 87003) := Hp.out.touch t15
  replace HT : Hid (Touch (fun _ => False) w w15) := HT.out.trans t15
  replace HBx : Hid (w15.heap[w.heap.size]? = some (idO ic ik)) := (t15.block _ (lt_of_heap HBx.out) id).trans HBx.out
  clear t15 K
  clear Hp
  clear Hc
  have HKi : Hid (∀ W, Touch (fun _ => False) w15 W → W.cell? ⟨w.heap.size, 0, none⟩ = some (.int .u64 ic) ∧ W.cell? ⟨w.heap.size, 1, none⟩ = some (.int .u64 ik)) := fun W t => by
    have h := (t.block _ (lt_of_heap HBx.out) id).trans HBx.out
    exact ⟨by rw [cell_of_block h]; rfl, by rw [cell_of_block h]; rfl⟩
  have KA1 := turnOf_set Ha.out ic ik (by omega)
  have KA2 := turnOf_set (Ha.out.touch (Touch.refl _ _).drew) ic ik (by omega)
  have HTB : Hid (∀ W, Touch (fun _ => False) w15 W → _) := fun W t => turnOf_set (Hb.out.touch t) ic ik (by omega)
  have S0 := HKi.out _ (Touch.refl _ w15)
  have S1 := HKi.out _ (Touch.refl _ w15).drew
  go_upto_region 8 with fail
  go_cut [11, 12] (fun t u wz => t = .int .u64 (fa ic ik) ∧ u = .int .u64 (fb ic ik) ∧ Hid (Touch (fun _ => False) w15 wz))
  case first =>
    go_wp2_with fail
    go_region_held3 (fun W => W.cell? ⟨w.heap.size, 0, none⟩ = some (.int .u64 ic) ∧ W.cell? ⟨w.heap.size, 1, none⟩ = some (.int .u64 ik)) (first | assumption)
      (first | (go_at_call 8; first | ((with_reducible refine KA1.mono ?_); rintro e x8 ⟨rfl, t8⟩; (have T8 : Hid (Touch (fun _ => False) w15 x8) := t8); (have S8 := HKi.out x8 T8.out); (have KB3 := HTB.out x8 T8.out); clear t8) | ((with_reducible refine KA2.mono ?_); rintro e x8 ⟨rfl, t8⟩; (have T8 : Hid (Touch (fun _ => False) w15 x8) := (Touch.refl _ w15).drew.trans t8); (have S8 := HKi.out x8 T8.out); (have KB3 := HTB.out x8 T8.out); clear t8) | ((with_reducible refine KB3.mono ?_); rintro e x9 ⟨rfl, t9⟩; (have T9 : Hid (Touch (fun _ => False) w15 x9) := T8.out.trans t9); (have S9 := HKi.out x9 T9.out); clear t9)))
    all_goals (try go_wp2_with fail)
    all_goals go_meet
    all_goals (case rel => exact ⟨rfl, rfl, T9⟩)
  case rest =>
    obtain ⟨rfl, rfl, HZ⟩ := hcut
    clear S0 S1 KA1 KA2 HTB HKi
    obtain ⟨w16, hwz⟩ : ∃ z, z = wc := ⟨_, rfl⟩
    subst hwz
    have t16 := HZ.out
    replace Ha : Hid (TLst w16 (.slice aoa a.length capa) (fun c k => fa c k) 60) := Ha.out.touch t16
    replace Hb : Hid (TLst w16 (.slice aob b.length capb) (fun c k => fb c k) 60) := Hb.out.touch t16
    replace Hj : Hid (TCst w16 (.slice ao2 n2 cap2) (fun c k => max (fa c k) (fb c k)) 29041) := Hj.out.touch t16
    replace Ho : Hid (TCst w16 (.slice ao3 n3 cap3) (fun c k => ifAb (fa c k) (fb c k)) 29041) := Ho.out.touch t16
    replace HT : Hid (Touch (fun _ => False) w w16) := HT.out.trans t16
    replace HBx : Hid (w16.heap[w.heap.size]? = some (idO ic ik)) := (t16.block _ (lt_of_heap HBx.out) id).trans HBx.out
    clear t16 HZ
    have hab := HP.out.1 ic ik
    have hbb := HP.out.2.1 ic ik
    by_cases hxy : fb ic ik < fa ic ik
    · have hmx : max (fa ic ik) (fb ic ik) = fa ic ik := by omega
      have hif : ifAb (fa ic ik) (fb ic ik) = fa ic ik := by unfold ifAb; split <;> omega
      have b0 : w16.cell? ⟨w.heap.size, 0, none⟩ = some (.int .u64 ic) := by rw [cell_of_block HBx.out]; rfl
      have b1 : w16.cell? ⟨w.heap.size, 1, none⟩ = some (.int .u64 ik) := by rw [cell_of_block HBx.out]; rfl
      have K := turnOf_set Hj.out.lst ic ik (by omega)
      rw [hmx] at K
      go_wp2_with fail
      refine K.mono ?_
      rintro e w17 ⟨rfl, t17⟩
      replace Ha : Hid (TLst w17 (.slice aoa a.length capa) (fun c k => fa c k) 60) := Ha.out.touch t17
      replace Hb : Hid (TLst w17 (.slice aob b.length capb) (fun c k => fb c k) 60) := Hb.out.touch t17
      replace Hj : Hid (TCst w17 (.slice ao2 n2 cap2) (fun c k => max (fa c k) (fb c k)) 29041) := Hj.out.touch t17
      replace Ho : Hid (TCst w17 (.slice ao3 n3 cap3) (fun c k => ifAb (fa c k) (fb c k)) 29041) := Ho.out.touch t17
      replace HT : Hid (Touch (fun _ => False) w w17) := HT.out.trans t17
      replace HBx : Hid (w17.heap[w.heap.size]? = some (idO ic ik)) := (t17.block _ (lt_of_heap HBx.out) id).trans HBx.out
      clear t17 K
      clear b0 b1
      have b0 : w17.cell? ⟨w.heap.size, 0, none⟩ = some (.int .u64 ic) := by rw [cell_of_block HBx.out]; rfl
      have b1 : w17.cell? ⟨w.heap.size, 1, none⟩ = some (.int .u64 ik) := by rw [cell_of_block HBx.out]; rfl
      have K := turnOf_set Ho.out.lst ic ik (by omega)
      rw [hif] at K
      go_wp2_with fail
      refine K.mono ?_
      rintro e w18 ⟨rfl, t18⟩
      replace Ha : Hid (TLst w18 (.slice aoa a.length capa) (fun c k => fa c k) 60) := Ha.out.touch t18
      replace Hb : Hid (TLst w18 (.slice aob b.length capb) (fun c k => fb c k) 60) := Hb.out.touch t18
      replace Hj : Hid (TCst w18 (.slice ao2 n2 cap2) (fun c k => max (fa c k) (fb c k)) 29041) := Hj.out.touch t18
      replace Ho : Hid (TCst w18 (.slice ao3 n3 cap3) (fun c k => ifAb (fa c k) (fb c k)) 29041) := Ho.out.touch t18
      replace HT : Hid (Touch (fun _ => False) w w18) := HT.out.trans t18
      replace HBx : Hid (w18.heap[w.heap.size]? = some (idO ic ik)) := (t18.block _ (lt_of_heap HBx.out) id).trans HBx.out
      clear t18 K
      clear b0 b1
      have K := joinT_set Hb.out Ho.out.lst (by omega) (by omega)
      go_wp2_with fail
      refine K.mono ?_
      rintro e w19 ⟨v19, rfl, h19, t19⟩
      obtain ⟨ao19, n19, cap19, rfl⟩ := h19.shape
      replace Ha : Hid (TLst w19 (.slice aoa a.length capa) (fun c k => fa c k) 60) := Ha.out.touch t19
      replace Hb : Hid (TLst w19 (.slice aob b.length capb) (fun c k => fb c k) 60) := Hb.out.touch t19
      replace Hj : Hid (TCst w19 (.slice ao2 n2 cap2) (fun c k => max (fa c k) (fb c k)) 29041) := Hj.out.touch t19
      replace Ho : Hid (TCst w19 (.slice ao3 n3 cap3) (fun c k => ifAb (fa c k) (fb c k)) 29041) := Ho.out.touch t19
      replace HT : Hid (Touch (fun _ => False) w w19) := HT.out.trans t19
      replace HBx : Hid (w19.heap[w.heap.size]? = some (idO ic ik)) := (t19.block _ (lt_of_heap HBx.out) id).trans HBx.out
      have Ht : Hid (TCst w19 (.slice ao19 n19 cap19) (fun c k => max (fb c k) (ifAb (fa c k) (fb c k))) 87003) := h19
      clear h19 t19 K
      have K := sameT_ref Ht.out Hj.out.ref (fun c k => by have h1 := HP.out.1 c k; have h2 := HP.out.2.1 c k; have h3 := HP.out.2.2 c k; first | rfl | omega | (simp only [ifAb]; split <;> omega) | (simp only [ifAb]; split <;> split <;> omega)) (by omega)
      go_wp2_with fail
      refine K.mono ?_
      rintro e w20 ⟨rfl, t20⟩
      replace Ha : Hid (TLst w20 (.slice aoa a.length capa) (fun c k => fa c k) 60) := Ha.out.touch t20
      replace Hb : Hid (TLst w20 (.slice aob b.length capb) (fun c k => fb c k) 60) := Hb.out.touch t20
      replace Hj : Hid (TCst w20 (.slice ao2 n2 cap2) (fun c k => max (fa c k) (fb c k)) 29041) := Hj.out.touch t20
      replace Ho : Hid (TCst w20 (.slice ao3 n3 cap3) (fun c k => ifAb (fa c k) (fb c k)) 29041) := Ho.out.touch t20
      replace Ht : Hid (TCst w20 (.slice ao19 n19 cap19) (fun c k => max (fb c k) (ifAb (fa c k) (fb c k))) 87003) := Ht.out.touch t20
      replace HT : Hid (Touch (fun _ => False) w w20) := HT.out.trans t20
      replace HBx : Hid (w20.heap[w.heap.size]? = some (idO ic ik)) := (t20.block _ (lt_of_heap HBx.out) id).trans HBx.out
      clear t20 K
      clear Ht
      have K := aboveT_set Ha.out Hj.out.lst (by omega) (by omega)
      go_wp2_with fail
      refine K.mono ?_
      rintro e w21 ⟨v21, rfl, h21, t21⟩
      obtain ⟨ao21, n21, cap21, rfl⟩ := h21.shape
      replace Ha : Hid (TLst w21 (.slice aoa a.length capa) (fun c k => fa c k) 60) := Ha.out.touch t21
      replace Hb : Hid (TLst w21 (.slice aob b.length capb) (fun c k => fb c k) 60) := Hb.out.touch t21
      replace Hj : Hid (TCst w21 (.slice ao2 n2 cap2) (fun c k => max (fa c k) (fb c k)) 29041) := Hj.out.touch t21
      replace Ho : Hid (TCst w21 (.slice ao3 n3 cap3) (fun c k => ifAb (fa c k) (fb c k)) 29041) := Ho.out.touch t21
      replace HT : Hid (Touch (fun _ => False) w w21) := HT.out.trans t21
      replace HBx : Hid (w21.heap[w.heap.size]? = some (idO ic ik)) := (t21.block _ (lt_of_heap HBx.out) id).trans HBx.out
      have Hu : Hid (TCst w21 (.slice ao21 n21 cap21) (fun c k => ifAb (fa c k) (max (fa c k) (fb c k))) 87003) := h21
      clear h21 t21 K
      have hz0 : n21 = 0 := Hu.out.zero (fun c k => by have h1 := HP.out.1 c k; have h2 := HP.out.2.1 c k; simp only [ifAb]; split <;> omega)
      subst hz0
      go_wp2_with fail
      go_ret
      exact ⟨by first | rfl | simp_all, HT.out⟩
    · have hxy2 : decide (fb ic ik < fa ic ik) = false := by simpa using hxy
      have hmx : max (fa ic ik) (fb ic ik) = fb ic ik := by omega
      have hif : ifAb (fa ic ik) (fb ic ik) = 0 := by unfold ifAb; split <;> omega
      have b0 : w16.cell? ⟨w.heap.size, 0, none⟩ = some (.int .u64 ic) := by rw [cell_of_block HBx.out]; rfl
      have b1 : w16.cell? ⟨w.heap.size, 1, none⟩ = some (.int .u64 ik) := by rw [cell_of_block HBx.out]; rfl
      have K := turnOf_set Hj.out.lst ic ik (by omega)
      rw [hmx] at K
      go_wp2_with fail
      refine K.mono ?_
      rintro e w17 ⟨rfl, t17⟩
      replace Ha : Hid (TLst w17 (.slice aoa a.length capa) (fun c k => fa c k) 60) := Ha.out.touch t17
      replace Hb : Hid (TLst w17 (.slice aob b.length capb) (fun c k => fb c k) 60) := Hb.out.touch t17
      replace Hj : Hid (TCst w17 (.slice ao2 n2 cap2) (fun c k => max (fa c k) (fb c k)) 29041) := Hj.out.touch t17
      replace Ho : Hid (TCst w17 (.slice ao3 n3 cap3) (fun c k => ifAb (fa c k) (fb c k)) 29041) := Ho.out.touch t17
      replace HT : Hid (Touch (fun _ => False) w w17) := HT.out.trans t17
      replace HBx : Hid (w17.heap[w.heap.size]? = some (idO ic ik)) := (t17.block _ (lt_of_heap HBx.out) id).trans HBx.out
      clear t17 K
      clear b0 b1
      have b0 : w17.cell? ⟨w.heap.size, 0, none⟩ = some (.int .u64 ic) := by rw [cell_of_block HBx.out]; rfl
      have b1 : w17.cell? ⟨w.heap.size, 1, none⟩ = some (.int .u64 ik) := by rw [cell_of_block HBx.out]; rfl
      have K := turnOf_set Ho.out.lst ic ik (by omega)
      rw [hif] at K
      go_wp2_with fail
      refine K.mono ?_
      rintro e w18 ⟨rfl, t18⟩
      replace Ha : Hid (TLst w18 (.slice aoa a.length capa) (fun c k => fa c k) 60) := Ha.out.touch t18
      replace Hb : Hid (TLst w18 (.slice aob b.length capb) (fun c k => fb c k) 60) := Hb.out.touch t18
      replace Hj : Hid (TCst w18 (.slice ao2 n2 cap2) (fun c k => max (fa c k) (fb c k)) 29041) := Hj.out.touch t18
      replace Ho : Hid (TCst w18 (.slice ao3 n3 cap3) (fun c k => ifAb (fa c k) (fb c k)) 29041) := Ho.out.touch t18
      replace HT : Hid (Touch (fun _ => False) w w18) := HT.out.trans t18
      replace HBx : Hid (w18.heap[w.heap.size]? = some (idO ic ik)) := (t18.block _ (lt_of_heap HBx.out) id).trans HBx.out
      clear t18 K
      clear b0 b1
      have K := joinT_set Hb.out Ho.out.lst (by omega) (by omega)
      go_wp2_with fail
      refine K.mono ?_
      rintro e w19 ⟨v19, rfl, h19, t19⟩
      obtain ⟨ao19, n19, cap19, rfl⟩ := h19.shape
      replace Ha : Hid (TLst w19 (.slice aoa a.length capa) (fun c k => fa c k) 60) := Ha.out.touch t19
      replace Hb : Hid (TLst w19 (.slice aob b.length capb) (fun c k => fb c k) 60) := Hb.out.touch t19
      replace Hj : Hid (TCst w19 (.slice ao2 n2 cap2) (fun c k => max (fa c k) (fb c k)) 29041) := Hj.out.touch t19
      replace Ho : Hid (TCst w19 (.slice ao3 n3 cap3) (fun c k => ifAb (fa c k) (fb c k)) 29041) := Ho.out.touch t19
      replace HT : Hid (Touch (fun _ => False) w w19) := HT.out.trans t19
      replace HBx : Hid (w19.heap[w.heap.size]? = some (idO ic ik)) := (t19.block _ (lt_of_heap HBx.out) id).trans HBx.out
      have Ht : Hid (TCst w19 (.slice ao19 n19 cap19) (fun c k => max (fb c k) (ifAb (fa c k) (fb c k))) 87003) := h19
      clear h19 t19 K
      have K := sameT_ref Ht.out Hj.out.ref (fun c k => by have h1 := HP.out.1 c k; have h2 := HP.out.2.1 c k; have h3 := HP.out.2.2 c k; first | rfl | omega | (simp only [ifAb]; split <;> omega) | (simp only [ifAb]; split <;> split <;> omega)) (by omega)
      go_wp2_with fail
      refine K.mono ?_
      rintro e w20 ⟨rfl, t20⟩
      replace Ha : Hid (TLst w20 (.slice aoa a.length capa) (fun c k => fa c k) 60) := Ha.out.touch t20
      replace Hb : Hid (TLst w20 (.slice aob b.length capb) (fun c k => fb c k) 60) := Hb.out.touch t20
      replace Hj : Hid (TCst w20 (.slice ao2 n2 cap2) (fun c k => max (fa c k) (fb c k)) 29041) := Hj.out.touch t20
      replace Ho : Hid (TCst w20 (.slice ao3 n3 cap3) (fun c k => ifAb (fa c k) (fb c k)) 29041) := Ho.out.touch t20
      replace Ht : Hid (TCst w20 (.slice ao19 n19 cap19) (fun c k => max (fb c k) (ifAb (fa c k) (fb c k))) 87003) := Ht.out.touch t20
      replace HT : Hid (Touch (fun _ => False) w w20) := HT.out.trans t20
      replace HBx : Hid (w20.heap[w.heap.size]? = some (idO ic ik)) := (t20.block _ (lt_of_heap HBx.out) id).trans HBx.out
      clear t20 K
      clear Ht
      have K := aboveT_set Ha.out Hj.out.lst (by omega) (by omega)
      go_wp2_with fail
      refine K.mono ?_
      rintro e w21 ⟨v21, rfl, h21, t21⟩
      obtain ⟨ao21, n21, cap21, rfl⟩ := h21.shape
      replace Ha : Hid (TLst w21 (.slice aoa a.length capa) (fun c k => fa c k) 60) := Ha.out.touch t21
      replace Hb : Hid (TLst w21 (.slice aob b.length capb) (fun c k => fb c k) 60) := Hb.out.touch t21
      replace Hj : Hid (TCst w21 (.slice ao2 n2 cap2) (fun c k => max (fa c k) (fb c k)) 29041) := Hj.out.touch t21
      replace Ho : Hid (TCst w21 (.slice ao3 n3 cap3) (fun c k => ifAb (fa c k) (fb c k)) 29041) := Ho.out.touch t21
      replace HT : Hid (Touch (fun _ => False) w w21) := HT.out.trans t21
      replace HBx : Hid (w21.heap[w.heap.size]? = some (idO ic ik)) := (t21.block _ (lt_of_heap HBx.out) id).trans HBx.out
      have Hu : Hid (TCst w21 (.slice ao21 n21 cap21) (fun c k => ifAb (fa c k) (max (fa c k) (fb c k))) 87003) := h21
      clear h21 t21 K
      have hz0 : n21 = 0 := Hu.out.zero (fun c k => by have h1 := HP.out.1 c k; have h2 := HP.out.2.1 c k; simp only [ifAb]; split <;> omega)
      subst hz0
      go_wp2_with fail
      go_ret
      exact ⟨by first | rfl | simp_all, HT.out⟩
end Go.Proofs.Ytccgiabihagjoaa
