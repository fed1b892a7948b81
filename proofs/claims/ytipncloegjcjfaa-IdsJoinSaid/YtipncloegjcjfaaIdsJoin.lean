/- quirelaw6.IdsJoin. -/
import Derived.Test.YtipncloegjcjfaaRfO
import Derived.Test.YtipncloegjcjfaaArgR
namespace Go.Proofs.Ytipncloegjcjfaa
open Go.RowKit Go.Maps
set_option linter.unusedVariables false
set_option linter.unusedSimpArgs false
set_option maxRecDepth 100000
section
variable {W : World} {va vb : Value} {F G : Int → Int → Int} {N M : Nat}
theorem rjoin_set (ha : Lst W va F N) (hb : Lst W vb G M) (hN : N ≤ 1000) (hM : M ≤ 1000) : Calls Try.prog 23 #[va, vb] W fun e w' => ∃ v' K, e = .returned v' ∧ Cst w' v' (fun c k => max (F c k) (G c k)) K ∧ Touch (fun _ => False) W w' := by
  obtain ⟨a, a1, a2, a3⟩ := ha
  obtain ⟨b, b1, b2, b3⟩ := hb
  refine (rjoin_any a b va vb W a1 b1 (by omega) (by omega)).mono ?_
  rintro e w' ⟨v', out, rfl, hN, hF⟩
  exact ⟨v', out.length, rfl, ⟨out, hN.sl, hF.of fun c k => by rw [a2, b2], Nat.le_refl _⟩, hN.touch⟩
theorem rmeet_set (ha : Lst W va F N) (hb : Lst W vb G M) (hN : N ≤ 1000) (hM : M ≤ 1000) : Calls Try.prog 24 #[va, vb] W fun e w' => ∃ v' K, e = .returned v' ∧ Cst w' v' (fun c k => min (F c k) (G c k)) K ∧ Touch (fun _ => False) W w' := by
  obtain ⟨a, a1, a2, a3⟩ := ha
  obtain ⟨b, b1, b2, b3⟩ := hb
  refine (rmeet_any a b va vb W a1 b1 (by omega) (by omega)).mono ?_
  rintro e w' ⟨v', out, rfl, hN, hF⟩
  exact ⟨v', out.length, rfl, ⟨out, hN.sl, hF.of fun c k => by rw [a2, b2], Nat.le_refl _⟩, hN.touch⟩
theorem rminus_set (ha : Lst W va F N) (hb : Lst W vb G M) (hN : N ≤ 1000) (hM : M ≤ 1000) : Calls Try.prog 25 #[va, vb] W fun e w' => ∃ v' K, e = .returned v' ∧ Cst w' v' (fun c k => ifAb (F c k) (G c k)) K ∧ Touch (fun _ => False) W w' := by
  obtain ⟨a, a1, a2, a3⟩ := ha
  obtain ⟨b, b1, b2, b3⟩ := hb
  refine (rminus_any a b va vb W a1 b1 (by omega) (by omega)).mono ?_
  rintro e w' ⟨v', out, rfl, hN, ht, hF⟩
  exact ⟨v', out.length, rfl, ⟨out, hN, hF.of fun c k => by rw [a2, b2], Nat.le_refl _⟩, ht⟩
theorem has_set (ha : Lst W va F N) (hN : N ≤ 33554432) (c k : Int) : Calls Try.prog 14 #[va, idV c k] W fun e w' => e = .returned (.bool (decide (F c k = 1))) ∧ Touch (fun _ => False) W w' := by
  obtain ⟨a, a1, a2, a3⟩ := ha
  have := has_any a va c k W a1 (by omega)
  rw [hasB_turn, a2] at this; exact this
end
set_option maxHeartbeats 8000000 in
theorem idsJoin_any (w : World) (va : Value) (a : List Rg) (sa : SlR w va a) (ga : ∀ r ∈ a, fitsR r) (vb : Value) (b : List Rg) (sb : SlR w vb b) (gb : ∀ r ∈ b, fitsR r) (ic ik : Int) :
    Calls Try.prog 4 #[va, vb, idV ic ik] w fun e w' => e = .returned (.bool true) ∧ Touch (fun _ => False) w w' := by
  have Sa : Hid (SlR w va a) := sa
  have Sb : Hid (SlR w vb b) := sb
  obtain ⟨aoa, capa, rfl, _⟩ := sa
  obtain ⟨aob, capb, rfl, _⟩ := sb
  clear ga gb
  obtain ⟨fa, Fa⟩ : ∃ fa, turnOf (tns a) = fa := ⟨_, rfl⟩
  obtain ⟨fb, Fb⟩ : ∃ fb, turnOf (tns b) = fb := ⟨_, rfl⟩
  have HF : Hid ((∀ c k, fa c k = 0 ∨ fa c k = 1) ∧ (∀ c k, fb c k = 0 ∨ fb c k = 1)) := ⟨fun x y => by rw [← Fa]; exact turnOf_tns a x y, fun x y => by rw [← Fb]; exact turnOf_tns b x y⟩
  have Ea : Hid (turnOf (tns a) = fa) := Fa
  have Eb : Hid (turnOf (tns b) = fb) := Fb
  have HB0 : Hid ((w.alloc (idO ic ik)).heap[w.heap.size]? = some (idO ic ik)) := heap_alloc_new w _
  have HT0 : Hid (Touch (fun _ => False) w (w.alloc (idO ic ik))) := (Touch.refl _ w).alloc _
  have KN := known_any (w.alloc (idO ic ik))
  have L0 := fun W => light_any a.length aoa capa W
  have L1 := fun W => light_any b.length aob capb W
  clear Fa Fb
  go_enter Try.func4, Try.ntmps4
  go_wp2_with fail
  refine KN.mono ?_
  rintro e w1 ⟨rfl, t1⟩
  have HT : Hid (Touch (fun _ => False) w w1) := HT0.out.trans t1
  have HX : Hid (w1.heap[w.heap.size]? = some (idO ic ik)) := (t1.block _ (lt_of_heap HB0.out) id).trans HB0.out
  clear t1 KN HT0 HB0
  cases hd0 : decide (a.length ≤ 60) with
  | false =>
    rw [hd0] at L0
    go_wp2_with fail
    refine (L0 _).mono ?_
    rintro e w2 ⟨rfl, rfl⟩
    go_wp2_with fail
    go_ret
    exact ⟨rfl, HT.out⟩
  | true =>
  rw [hd0] at L0
  go_wp2_with fail
  refine (L0 _).mono ?_
  rintro e w2 ⟨rfl, hw⟩
  rw [hw]
  clear hw w2
  cases hd1 : decide (b.length ≤ 60) with
  | false =>
    rw [hd1] at L1
    go_wp2_with fail
    refine (L1 _).mono ?_
    rintro e w2 ⟨rfl, rfl⟩
    go_wp2_with fail
    go_ret
    exact ⟨rfl, HT.out⟩
  | true =>
  rw [hd1] at L1
  go_wp2_with fail
  refine (L1 _).mono ?_
  rintro e w2 ⟨rfl, hw⟩
  rw [hw]
  clear hw w2
  clear L0 L1
  have ha60 : a.length ≤ 60 := by simpa using hd0
  have hb60 : b.length ≤ 60 := by simpa using hd1
  have Ha : Hid (Lst w1 (.slice aoa a.length capa) (fun c k => fa c k) 60) := ⟨a, Sa.out.touch HT.out, fun c k => by rw [Ea.out], by omega⟩
  have Hb : Hid (Lst w1 (.slice aob b.length capb) (fun c k => fb c k) 60) := ⟨b, Sb.out.touch HT.out, fun c k => by rw [Eb.out], by omega⟩
  clear Sa Sb Ea Eb
  have K := join_set Ha.out Hb.out (by omega) (by omega)
  go_wp2_with fail
  refine K.mono ?_
  rintro e w2 ⟨v2, rfl, h2, t2⟩
  obtain ⟨ao2, n2, cap2, rfl⟩ := h2.shape
  replace Ha : Hid (Lst w2 (.slice aoa a.length capa) (fun c k => fa c k) 60) := Ha.out.touch t2
  replace Hb : Hid (Lst w2 (.slice aob b.length capb) (fun c k => fb c k) 60) := Hb.out.touch t2
  replace HT : Hid (Touch (fun _ => False) w w2) := HT.out.trans t2
  replace HX : Hid (w2.heap[w.heap.size]? = some (idO ic ik)) := (t2.block _ (lt_of_heap HX.out) id).trans HX.out
  have Hj : Hid (Cst w2 (.slice ao2 n2 cap2) (fun c k => max (fa c k) (fb c k)) 241) := h2
  clear h2 t2 K
  have K := meet_set Ha.out Hb.out (by omega) (by omega)
  go_wp2_with fail
  refine K.mono ?_
  rintro e w3 ⟨v3, rfl, h3, t3⟩
  obtain ⟨ao3, n3, cap3, rfl⟩ := h3.shape
  replace Ha : Hid (Lst w3 (.slice aoa a.length capa) (fun c k => fa c k) 60) := Ha.out.touch t3
  replace Hb : Hid (Lst w3 (.slice aob b.length capb) (fun c k => fb c k) 60) := Hb.out.touch t3
  replace Hj : Hid (Cst w3 (.slice ao2 n2 cap2) (fun c k => max (fa c k) (fb c k)) 241) := Hj.out.touch t3
  replace HT : Hid (Touch (fun _ => False) w w3) := HT.out.trans t3
  replace HX : Hid (w3.heap[w.heap.size]? = some (idO ic ik)) := (t3.block _ (lt_of_heap HX.out) id).trans HX.out
  have Hm : Hid (Cst w3 (.slice ao3 n3 cap3) (fun c k => min (fa c k) (fb c k)) 241) := h3
  clear h3 t3 K
  have K := minus_set Ha.out Hb.out (by omega) (by omega)
  go_wp2_with fail
  refine K.mono ?_
  rintro e w4 ⟨v4, rfl, h4, t4⟩
  obtain ⟨ao4, n4, cap4, rfl⟩ := h4.shape
  replace Ha : Hid (Lst w4 (.slice aoa a.length capa) (fun c k => fa c k) 60) := Ha.out.touch t4
  replace Hb : Hid (Lst w4 (.slice aob b.length capb) (fun c k => fb c k) 60) := Hb.out.touch t4
  replace Hj : Hid (Cst w4 (.slice ao2 n2 cap2) (fun c k => max (fa c k) (fb c k)) 241) := Hj.out.touch t4
  replace Hm : Hid (Cst w4 (.slice ao3 n3 cap3) (fun c k => min (fa c k) (fb c k)) 241) := Hm.out.touch t4
  replace HT : Hid (Touch (fun _ => False) w w4) := HT.out.trans t4
  replace HX : Hid (w4.heap[w.heap.size]? = some (idO ic ik)) := (t4.block _ (lt_of_heap HX.out) id).trans HX.out
  have Hd : Hid (Cst w4 (.slice ao4 n4 cap4) (fun c k => ifAb (fa c k) (fb c k)) 241) := h4
  clear h4 t4 K
  have K := rjoin_set Ha.out Hb.out (by omega) (by omega)
  go_wp2_with fail
  refine K.mono ?_
  rintro e w5 ⟨v5, M5, rfl, h5, t5⟩
  obtain ⟨ao5, n5, cap5, rfl⟩ := h5.shape
  replace Ha : Hid (Lst w5 (.slice aoa a.length capa) (fun c k => fa c k) 60) := Ha.out.touch t5
  replace Hb : Hid (Lst w5 (.slice aob b.length capb) (fun c k => fb c k) 60) := Hb.out.touch t5
  replace Hj : Hid (Cst w5 (.slice ao2 n2 cap2) (fun c k => max (fa c k) (fb c k)) 241) := Hj.out.touch t5
  replace Hm : Hid (Cst w5 (.slice ao3 n3 cap3) (fun c k => min (fa c k) (fb c k)) 241) := Hm.out.touch t5
  replace Hd : Hid (Cst w5 (.slice ao4 n4 cap4) (fun c k => ifAb (fa c k) (fb c k)) 241) := Hd.out.touch t5
  replace HT : Hid (Touch (fun _ => False) w w5) := HT.out.trans t5
  replace HX : Hid (w5.heap[w.heap.size]? = some (idO ic ik)) := (t5.block _ (lt_of_heap HX.out) id).trans HX.out
  have Hx : Hid (Cst w5 (.slice ao5 n5 cap5) (fun c k => max (fa c k) (fb c k)) M5) := h5
  clear h5 t5 K
  have K := same_set Hj.out Hx.out (fun c k => rfl) (by omega)
  go_wp2_with fail
  refine K.mono ?_
  rintro e w6 ⟨rfl, t6⟩
  replace Ha : Hid (Lst w6 (.slice aoa a.length capa) (fun c k => fa c k) 60) := Ha.out.touch t6
  replace Hb : Hid (Lst w6 (.slice aob b.length capb) (fun c k => fb c k) 60) := Hb.out.touch t6
  replace Hj : Hid (Cst w6 (.slice ao2 n2 cap2) (fun c k => max (fa c k) (fb c k)) 241) := Hj.out.touch t6
  replace Hm : Hid (Cst w6 (.slice ao3 n3 cap3) (fun c k => min (fa c k) (fb c k)) 241) := Hm.out.touch t6
  replace Hd : Hid (Cst w6 (.slice ao4 n4 cap4) (fun c k => ifAb (fa c k) (fb c k)) 241) := Hd.out.touch t6
  replace Hx : Hid (Cst w6 (.slice ao5 n5 cap5) (fun c k => max (fa c k) (fb c k)) M5) := Hx.out.touch t6
  replace HT : Hid (Touch (fun _ => False) w w6) := HT.out.trans t6
  replace HX : Hid (w6.heap[w.heap.size]? = some (idO ic ik)) := (t6.block _ (lt_of_heap HX.out) id).trans HX.out
  clear t6 K
  clear Hx
  have K := rmeet_set Ha.out Hb.out (by omega) (by omega)
  go_wp2_with fail
  refine K.mono ?_
  rintro e w7 ⟨v7, M7, rfl, h7, t7⟩
  obtain ⟨ao7, n7, cap7, rfl⟩ := h7.shape
  replace Ha : Hid (Lst w7 (.slice aoa a.length capa) (fun c k => fa c k) 60) := Ha.out.touch t7
  replace Hb : Hid (Lst w7 (.slice aob b.length capb) (fun c k => fb c k) 60) := Hb.out.touch t7
  replace Hj : Hid (Cst w7 (.slice ao2 n2 cap2) (fun c k => max (fa c k) (fb c k)) 241) := Hj.out.touch t7
  replace Hm : Hid (Cst w7 (.slice ao3 n3 cap3) (fun c k => min (fa c k) (fb c k)) 241) := Hm.out.touch t7
  replace Hd : Hid (Cst w7 (.slice ao4 n4 cap4) (fun c k => ifAb (fa c k) (fb c k)) 241) := Hd.out.touch t7
  replace HT : Hid (Touch (fun _ => False) w w7) := HT.out.trans t7
  replace HX : Hid (w7.heap[w.heap.size]? = some (idO ic ik)) := (t7.block _ (lt_of_heap HX.out) id).trans HX.out
  have Hx : Hid (Cst w7 (.slice ao7 n7 cap7) (fun c k => min (fa c k) (fb c k)) M7) := h7
  clear h7 t7 K
  have K := same_set Hm.out Hx.out (fun c k => rfl) (by omega)
  go_wp2_with fail
  refine K.mono ?_
  rintro e w8 ⟨rfl, t8⟩
  replace Ha : Hid (Lst w8 (.slice aoa a.length capa) (fun c k => fa c k) 60) := Ha.out.touch t8
  replace Hb : Hid (Lst w8 (.slice aob b.length capb) (fun c k => fb c k) 60) := Hb.out.touch t8
  replace Hj : Hid (Cst w8 (.slice ao2 n2 cap2) (fun c k => max (fa c k) (fb c k)) 241) := Hj.out.touch t8
  replace Hm : Hid (Cst w8 (.slice ao3 n3 cap3) (fun c k => min (fa c k) (fb c k)) 241) := Hm.out.touch t8
  replace Hd : Hid (Cst w8 (.slice ao4 n4 cap4) (fun c k => ifAb (fa c k) (fb c k)) 241) := Hd.out.touch t8
  replace Hx : Hid (Cst w8 (.slice ao7 n7 cap7) (fun c k => min (fa c k) (fb c k)) M7) := Hx.out.touch t8
  replace HT : Hid (Touch (fun _ => False) w w8) := HT.out.trans t8
  replace HX : Hid (w8.heap[w.heap.size]? = some (idO ic ik)) := (t8.block _ (lt_of_heap HX.out) id).trans HX.out
  clear t8 K
  clear Hx
  have K := rminus_set Ha.out Hb.out (by omega) (by omega)
  go_wp2_with fail
  refine K.mono ?_
  rintro e w9 ⟨v9, M9, rfl, h9, t9⟩
  obtain ⟨ao9, n9, cap9, rfl⟩ := h9.shape
  replace Ha : Hid (Lst w9 (.slice aoa a.length capa) (fun c k => fa c k) 60) := Ha.out.touch t9
  replace Hb : Hid (Lst w9 (.slice aob b.length capb) (fun c k => fb c k) 60) := Hb.out.touch t9
  replace Hj : Hid (Cst w9 (.slice ao2 n2 cap2) (fun c k => max (fa c k) (fb c k)) 241) := Hj.out.touch t9
  replace Hm : Hid (Cst w9 (.slice ao3 n3 cap3) (fun c k => min (fa c k) (fb c k)) 241) := Hm.out.touch t9
  replace Hd : Hid (Cst w9 (.slice ao4 n4 cap4) (fun c k => ifAb (fa c k) (fb c k)) 241) := Hd.out.touch t9
  replace HT : Hid (Touch (fun _ => False) w w9) := HT.out.trans t9
  replace HX : Hid (w9.heap[w.heap.size]? = some (idO ic ik)) := (t9.block _ (lt_of_heap HX.out) id).trans HX.out
  have Hx : Hid (Cst w9 (.slice ao9 n9 cap9) (fun c k => ifAb (fa c k) (fb c k)) M9) := h9
  clear h9 t9 K
  have K := same_set Hd.out Hx.out (fun c k => rfl) (by omega)
  go_wp2_with fail
  refine K.mono ?_
  rintro e w10 ⟨rfl, t10⟩
  replace Ha : Hid (Lst w10 (.slice aoa a.length capa) (fun c k => fa c k) 60) := Ha.out.touch t10
  replace Hb : Hid (Lst w10 (.slice aob b.length capb) (fun c k => fb c k) 60) := Hb.out.touch t10
  replace Hj : Hid (Cst w10 (.slice ao2 n2 cap2) (fun c k => max (fa c k) (fb c k)) 241) := Hj.out.touch t10
  replace Hm : Hid (Cst w10 (.slice ao3 n3 cap3) (fun c k => min (fa c k) (fb c k)) 241) := Hm.out.touch t10
  replace Hd : Hid (Cst w10 (.slice ao4 n4 cap4) (fun c k => ifAb (fa c k) (fb c k)) 241) := Hd.out.touch t10
  replace Hx : Hid (Cst w10 (.slice ao9 n9 cap9) (fun c k => ifAb (fa c k) (fb c k)) M9) := Hx.out.touch t10
  replace HT : Hid (Touch (fun _ => False) w w10) := HT.out.trans t10
  replace HX : Hid (w10.heap[w.heap.size]? = some (idO ic ik)) := (t10.block _ (lt_of_heap HX.out) id).trans HX.out
  clear t10 K
  clear Hx
  obtain ⟨wb, hwb⟩ : ∃ wb, wb = w10 := ⟨_, rfl⟩
  subst hwb
  have HXY : Hid ((fa ic ik = 0 ∨ fa ic ik = 1) ∧ (fb ic ik = 0 ∨ fb ic ik = 1)) := ⟨HF.out.1 ic ik, HF.out.2 ic ik⟩
  obtain ⟨x, hx⟩ : ∃ x, x = decide (fa ic ik = 1) := ⟨_, rfl⟩
  obtain ⟨y, hy⟩ : ∃ y, y = decide (fb ic ik = 1) := ⟨_, rfl⟩
  have HV : Hid (decide (max (fa ic ik) (fb ic ik) = 1) = (x || y) ∧ decide (min (fa ic ik) (fb ic ik) = 1) = (x && y) ∧ decide (ifAb (fa ic ik) (fb ic ik) = 1) = (x && !y)) := by
    rw [Hid, hx, hy]; rcases HXY.out.1 with e | e <;> rcases HXY.out.2 with f | f <;> simp only [e, f, ifAb] <;> decide
  have QA : Hid (∀ W, Touch (fun _ => False) wb W → Calls Try.prog 14 #[.slice aoa a.length capa, idV ic ik] W fun e w' => e = .returned (.bool x) ∧ Touch (fun _ => False) wb w') := fun W t => by
    have := has_set (Ha.out.touch t) (by omega) ic ik; rw [← hx] at this; exact this.mono fun e w' q => ⟨q.1, t.trans q.2⟩
  have QB : Hid (∀ W, Touch (fun _ => False) wb W → Calls Try.prog 14 #[.slice aob b.length capb, idV ic ik] W fun e w' => e = .returned (.bool y) ∧ Touch (fun _ => False) wb w') := fun W t => by
    have := has_set (Hb.out.touch t) (by omega) ic ik; rw [← hy] at this; exact this.mono fun e w' q => ⟨q.1, t.trans q.2⟩
  have Qj : Hid (∀ W, Touch (fun _ => False) wb W → Calls Try.prog 14 #[.slice ao2 n2 cap2, idV ic ik] W fun e w' => e = .returned (.bool (x || y)) ∧ Touch (fun _ => False) wb w') := fun W t => by
    have := has_set (Hj.out.touch t).lst (by omega) ic ik; rw [HV.out.1] at this; exact this.mono fun e w' q => ⟨q.1, t.trans q.2⟩
  have Qm : Hid (∀ W, Touch (fun _ => False) wb W → Calls Try.prog 14 #[.slice ao3 n3 cap3, idV ic ik] W fun e w' => e = .returned (.bool (x && y)) ∧ Touch (fun _ => False) wb w') := fun W t => by
    have := has_set (Hm.out.touch t).lst (by omega) ic ik; rw [HV.out.2.1] at this; exact this.mono fun e w' q => ⟨q.1, t.trans q.2⟩
  have Qd : Hid (∀ W, Touch (fun _ => False) wb W → Calls Try.prog 14 #[.slice ao4 n4 cap4, idV ic ik] W fun e w' => e = .returned (.bool (x && !y)) ∧ Touch (fun _ => False) wb w') := fun W t => by
    have := has_set (Hd.out.touch t).lst (by omega) ic ik; rw [HV.out.2.2] at this; exact this.mono fun e w' q => ⟨q.1, t.trans q.2⟩
  have HK : Hid (∀ W, Touch (fun _ => False) wb W → W.cell? ⟨w.heap.size, 0, none⟩ = some (.int .u64 ic) ∧ W.cell? ⟨w.heap.size, 1, none⟩ = some (.int .u64 ik)) := fun W t => by
    have := (t.block _ (lt_of_heap HX.out) id).trans HX.out
    exact ⟨by rw [cell_of_block this]; rfl, by rw [cell_of_block this]; rfl⟩
  have T0 : Hid (Touch (fun _ => False) wb wb) := Touch.refl _ _
  have S0 := HK.out wb (Touch.refl _ _)
  have S1 := HK.out wb.drew (Touch.refl _ _).drew
  clear hx hy HV HXY HF Ha Hb Hj Hm Hd HX
  go_upto_region 8 with fail
  go_cut [10, 11] (fun t u wx => t = .bool x ∧ u = .bool y ∧ Hid (Touch (fun _ => False) wb wx))
  case first =>
    go_wp2_with fail
    go_region_held3 (fun W => W.cell? ⟨w.heap.size, 0, none⟩ = some (.int .u64 ic) ∧ W.cell? ⟨w.heap.size, 1, none⟩ = some (.int .u64 ik)) (first | assumption)
      (first | (go_at_call 14; first | ((with_reducible refine (QA.out _ T0.out).mono ?_); rintro e w3 ⟨rfl, t3⟩; have S3 := HK.out w3 t3; clear T0; have T0 : Hid (Touch (fun _ => False) wb w3) := t3; clear t3) | ((with_reducible refine (QA.out _ T0.out.drew).mono ?_); rintro e w3 ⟨rfl, t3⟩; have S3 := HK.out w3 t3; clear T0; have T0 : Hid (Touch (fun _ => False) wb w3) := t3; clear t3) | ((with_reducible refine (QB.out _ T0.out).mono ?_); rintro e w3 ⟨rfl, t3⟩; have S3 := HK.out w3 t3; clear T0; have T0 : Hid (Touch (fun _ => False) wb w3) := t3; clear t3) | ((with_reducible refine (QB.out _ T0.out.drew).mono ?_); rintro e w3 ⟨rfl, t3⟩; have S3 := HK.out w3 t3; clear T0; have T0 : Hid (Touch (fun _ => False) wb w3) := t3; clear t3)))
    all_goals (try go_wp2_with fail)
    all_goals go_meet
    all_goals (case rel => exact ⟨rfl, rfl, T0.out⟩)
  case rest =>
    obtain ⟨rfl, rfl, hcT⟩ := hcut
    obtain ⟨wd, hwd⟩ : ∃ wd, wd = wc := ⟨_, rfl⟩
    subst hwd
    clear S0 S1 T0 QA QB
    obtain ⟨k0, k1⟩ := HK.out wd hcT.out
    have C1 := Qj.out wd hcT.out
    cases x <;> cases y
    all_goals
      (try simp only [Bool.or_false, Bool.or_true, Bool.false_or, Bool.true_or, Bool.and_false, Bool.and_true, Bool.false_and, Bool.true_and, Bool.not_false, Bool.not_true] at C1 Qm Qd)
      go_wp2_with fail
      refine C1.mono ?_
      rintro e w3 ⟨rfl, t3⟩
      obtain ⟨p0, p1⟩ := HK.out w3 t3
      have C2 := Qm.out w3 t3
      clear t3
      go_wp2_with fail
      refine C2.mono ?_
      rintro e w4 ⟨rfl, t4⟩
      obtain ⟨r0, r1⟩ := HK.out w4 t4
      have C3 := Qd.out w4 t4
      clear t4
      go_wp2_with fail
      refine C3.mono ?_
      rintro e w5 ⟨rfl, t5⟩
      have T5 : Hid (Touch (fun _ => False) w w5) := HT.out.trans t5
      clear t5
      go_wp2_with fail
      go_ret
      exact ⟨rfl, T5.out⟩
end Go.Proofs.Ytipncloegjcjfaa
