/- The contracts of vector.Ranges, Missing, Within, Meet, Join. -/
import Derived.Test.YtdblfabbmpdoiaaGreatVClean
import Derived.Test.YtdblfabbmpdoiaaGreatIdSets
namespace Go.Proofs.YtdblfabbmpdoiaaGreat
open Go.RowKit Go.Maps
set_option linter.unusedVariables false
set_option linter.unusedSimpArgs false
set_option maxRecDepth 100000

theorem rngs_take (l : List Ck) (j : Nat) : rngs (l.take j) = (rngs l).take j := by unfold rngs; rw [List.map_take]
set_option maxHeartbeats 1600000 in
theorem vranges_any (l : List Ck) (v : Value) (w : World) (hs : SlC w v l) (hll : l.length ≤ 134217728) :
    Calls Tryz.prog 40 #[v] w fun e w' => ∃ v' out, e = .returned v' ∧ NewR w w' v' (rngs out) ∧ VForm out (atC l) ∧ out.length ≤ l.length := by
  have HC := vclean_any l v w hs (by omega)
  obtain ⟨ao, cap, rfl, _⟩ := hs
  go_enter Tryz.func40, Tryz.ntmps40
  go_wp2_with fail
  refine HC.mono ?_
  rintro e w1 ⟨v1, out, rfl, hN, hF, hol⟩
  have HF : Hid (VForm out (atC l) ∧ Touch (fun _ => False) w w1 ∧ out.length ≤ l.length) := ⟨hF, hN.touch, hol⟩
  have HSl : Hid (SlC w1 v1 out) := hN.sl
  have hol2 : out.length ≤ 134217728 := by omega
  obtain ⟨ao1, cap1, rfl, _, hc1, hc2⟩ := hN.shape
  clear hN hF HC hol hll
  go_wp2_with fail
  go_loopg [3, 9] out.length (fun g s3 s9 wx => ∃ (j : Nat) (rs : List Rg), j + g = out.length ∧ s9 = .int .i64 (j : Int) ∧ Hid (NewR w1 wx s3 rs ∧ rs = rngs (out.take j)) ∧ rs.length = j ∧ ∃ ao cap, s3 = .slice ao rs.length cap)
  case atStart => exact ⟨0, [], by omega, rfl, ⟨NewR.nil w1 w1 (Touch.refl _ _), rfl⟩, rfl, ⟨_, _, rfl⟩⟩
  case round =>
    obtain ⟨j, rs, hjg, rfl, H, hrs, ⟨ao3, cap3, rfl⟩⟩ := hrel
    by_cases hlt : j < out.length
    · have hne : out ≠ [] := by rintro rfl; simp at hlt
      obtain ⟨b, o, cp, e, _, _, hb, hrow⟩ := (HSl.out.touch H.out.1.touch).row hne
      obtain ⟨rfl, _, rfl⟩ : ao1 = some ⟨b, o, none⟩ ∧ True ∧ cap1 = cp := by simpa using e
      obtain ⟨c0, c1⟩ := hrow j hlt
      have hok := (Ck.ok_iff.1 (HF.out.1.oks out[j] (List.getElem_mem hlt))).2
      have HE : Hid (out.take (j + 1) = out.take j ++ [out[j]]) := List.take_succ_eq_append_getElem hlt
      generalize out[j] = x at *
      obtain ⟨xc, xk⟩ := x
      simp only at hok c0 c1
      obtain ⟨v5, w5, hrun, hN5, _⟩ := NewR.app1 (H.out.1.on ((Touch.refl _ wr).alloc (ckO ⟨xc, xk⟩))) ⟨xc, 1, xk + 1⟩ (by omega)
      rw [World.size_alloc] at hrun
      have HQ : Hid (NewR w1 w5 v5 (rs ++ [⟨xc, 1, xk + 1⟩]) ∧ rs ++ [⟨xc, 1, xk + 1⟩] = rngs (out.take (j + 1))) := ⟨hN5, by rw [HE.out, H.out.2]; unfold rngs; rw [List.map_append]; rfl⟩
      have hl5 : (rs ++ [(⟨xc, 1, xk + 1⟩ : Rg)]).length = j + 1 := by simp [hrs]
      obtain ⟨ao5, cap5, hv5, _⟩ := hN5.shape
      rw [hl5] at hv5
      subst hv5
      clear hN5 hrow e hne
      go_wp2_with (at_builtin; refine wpList_append_runR rfl _ _ rfl _ _ _ rfl rfl hrun ?_)
      go_roundg (out.length - (j + 1))
      case measure => omega
      case rel => exact ⟨j + 1, _, by omega, by go_num, HQ.out, hl5, ⟨_, _, by rw [hl5]⟩⟩
    · have hjl : j = out.length := by omega
      subst hjl
      have HQ : Hid (NewR w wr (.slice ao3 rs.length cap3) (rngs out) ∧ VForm out (atC l) ∧ out.length ≤ l.length) := by
        have h := H.out.1
        have e := H.out.2
        rw [List.take_length] at e
        subst e
        exact ⟨h.since HF.out.2.1, HF.out.1, HF.out.2.2⟩
      clear H
      go_wp2_with fail
      refine bodyPost_ret (v := .slice ao3 rs.length cap3) (by simp [results, Tryz.results40, go_sem]) rfl ?_
      exact ⟨_, out, rfl, HQ.out⟩

theorem ind_ab (F G : Int → Int) (c k : Int) : ifAb (ind G c k) (ind F c k) = lack F G c k := by
  unfold ifAb ind lack
  split <;> split <;> split <;> split <;> omega
set_option maxHeartbeats 1600000 in
theorem vmissing_any (a b : List Ck) (va vb : Value) (w : World) (ha : SlC w va a) (hb : SlC w vb b) (hla : a.length ≤ 1048576) (hlb : b.length ≤ 1048576) :
    Calls Tryz.prog 20 #[va, vb] w fun e w' => ∃ v' out, e = .returned v' ∧ NewR w w' v' out ∧ Form (tns out) (lack (atC a) (atC b)) ∧ out.length ≤ 2 * (a.length + b.length) + 1 := by
  have R1 := vranges_any b vb w hb (by omega)
  have R2 : Hid (∀ W, Touch (fun _ => False) w W → _) := fun W t => vranges_any a va W (ha.touch t) (by omega)
  obtain ⟨aoa, capa, rfl, _⟩ := ha
  obtain ⟨aob, capb, rfl, _⟩ := hb
  go_enter Tryz.func20, Tryz.ntmps20
  go_wp2_with fail
  refine R1.mono ?_
  rintro e w1 ⟨v1, ob, rfl, n1, f1, l1⟩
  have R2' := R2.out w1 n1.touch
  have H1 : Hid (NewR w w1 v1 (rngs ob) ∧ VForm ob (atC b) ∧ ob.length ≤ b.length) := ⟨n1, f1, l1⟩
  obtain ⟨ao1, cap1, rfl, _⟩ := n1.shape
  clear n1 f1 R1 R2
  go_wp2_with fail
  refine R2'.mono ?_
  rintro e w2 ⟨v2, oa, rfl, n2, f2, l2⟩
  have M := minusI_any (rngs ob) (rngs oa) _ _ w2 (H1.out.1.sl.touch n2.touch) n2.sl (by rw [rngs_len]; omega) (by rw [rngs_len]; omega)
  have H2 : Hid (Touch (fun _ => False) w w2 ∧ VForm oa (atC a) ∧ oa.length ≤ a.length) := ⟨H1.out.1.touch.trans n2.touch, f2, l2⟩
  obtain ⟨ao2, cap2, rfl, _⟩ := n2.shape
  clear n2 f2 R2'
  go_wp2_with fail
  refine M.mono ?_
  rintro e w3 ⟨v3, out, rfl, n3, f3, l3⟩
  have HQ : Hid (NewR w w3 v3 out ∧ Form (tns out) (lack (atC a) (atC b)) ∧ out.length ≤ 2 * (a.length + b.length) + 1) := by
    refine ⟨n3.since H2.out.1, f3.of fun c k => ?_, ?_⟩
    · rw [H1.out.2.1.turnOf, H2.out.2.1.turnOf, ind_ab]
    · have e1 := rngs_len ob
      have e2 := rngs_len oa
      have e3 := H1.out.2.2
      have e4 := H2.out.2.2
      omega
  obtain ⟨ao3, cap3, rfl, _⟩ := n3.shape
  clear n3 f3 M H1 H2 l3
  go_wp2_with fail
  refine bodyPost_ret (v := .slice ao3 out.length cap3) (by simp [results, Tryz.results20, go_sem]) rfl ?_
  exact ⟨_, _, rfl, HQ.out⟩
set_option maxHeartbeats 800000 in
theorem vwithin_any (a b : List Ck) (va vb : Value) (w : World) (ha : SlC w va a) (hb : SlC w vb b) (hla : a.length ≤ 1048576) (hlb : b.length ≤ 1048576) :
    Calls Tryz.prog 23 #[va, vb] w fun e w' => e = .returned (.bool (inC a b)) ∧ Touch (fun _ => False) w w' := by
  have M := vmissing_any b a vb va w hb ha hlb hla
  obtain ⟨aoa, capa, rfl, _⟩ := ha
  obtain ⟨aob, capb, rfl, _⟩ := hb
  go_enter Tryz.func23, Tryz.ntmps23
  go_wp2_with fail
  refine M.mono ?_
  rintro e w1 ⟨v1, out, rfl, n1, f1, l1⟩
  have hz := lack_none f1 fun c => (atC_pos b c).1
  have HT : Hid (Touch (fun _ => False) w w1) := n1.touch
  obtain ⟨ao1, cap1, rfl, _⟩ := n1.shape
  have hol : out.length ≤ 9223372036854775807 := by omega
  by_cases ho : out = []
  · have hin : Hid (inC a b = true) := inC_iff.2 (hz.1 ho)
    subst ho
    clear n1 f1 M hz l1
    simp only [List.length_nil] at *
    go_wp2_with fail
    go_ret
    exact ⟨by rw [hin.out]; rfl, HT.out⟩
  · have hin : Hid (inC a b = false) := by
      rw [Hid, ← Bool.not_eq_true, inC_iff]
      exact fun h => ho (hz.2 h)
    have hn : ¬ ((out.length : Int) = 0) := by
      have := List.length_pos_iff.2 ho
      omega
    have hn2 : ((out.length : Int) == 0) = false := by simpa using hn
    clear n1 f1 M hz l1
    go_wp2_with fail
    go_ret
    exact ⟨by rw [hin.out]; simp [ho], HT.out⟩
set_option maxHeartbeats 1600000 in
theorem vmeet_any (a b : List Ck) (va vb : Value) (w : World) (ha : SlC w va a) (hb : SlC w vb b) (hla : a.length ≤ 1048576) (hlb : b.length ≤ 1048576) :
    Calls Tryz.prog 26 #[va, vb] w fun e w' => ∃ v' out, e = .returned v' ∧ NewC w w' v' out ∧ VForm out (fun c => min (atC a c) (atC b c)) ∧ out.length ≤ 2 * (a.length + b.length) + 1 := by
  have R1 := vranges_any a va w ha (by omega)
  have R2 : Hid (∀ W, Touch (fun _ => False) w W → _) := fun W t => vranges_any b vb W (hb.touch t) (by omega)
  obtain ⟨aoa, capa, rfl, _⟩ := ha
  obtain ⟨aob, capb, rfl, _⟩ := hb
  go_enter Tryz.func26, Tryz.ntmps26
  go_wp2_with fail
  refine R1.mono ?_
  rintro e w1 ⟨v1, oa, rfl, n1, f1, l1⟩
  have R2' := R2.out w1 n1.touch
  have H1 : Hid (NewR w w1 v1 (rngs oa) ∧ VForm oa (atC a) ∧ oa.length ≤ a.length) := ⟨n1, f1, l1⟩
  obtain ⟨ao1, cap1, rfl, _⟩ := n1.shape
  clear n1 f1 R1 R2
  go_wp2_with fail
  refine R2'.mono ?_
  rintro e w2 ⟨v2, ob, rfl, n2, f2, l2⟩
  have M := meetI_any (rngs oa) (rngs ob) _ _ w2 (H1.out.1.sl.touch n2.touch) n2.sl (by rw [rngs_len]; omega) (by rw [rngs_len]; omega)
  have H2 : Hid (Touch (fun _ => False) w w2 ∧ VForm ob (atC b) ∧ ob.length ≤ b.length) := ⟨H1.out.1.touch.trans n2.touch, f2, l2⟩
  obtain ⟨ao2, cap2, rfl, _⟩ := n2.shape
  clear n2 f2 R2'
  go_wp2_with fail
  refine M.mono ?_
  rintro e w3 ⟨v3, out, rfl, n3, f3, l3⟩
  obtain ⟨m, hm⟩ : ∃ m, Hid (m = meetC oa (atC b)) := ⟨_, rfl⟩
  have fm : VForm m (fun c => min (atC a c) (atC b c)) := by rw [hm.out]; exact meetC_form H1.out.2.1 fun c => (atC_pos b c).1
  have hout : out = rngs m := rngs_of f3 fm fun c k => by rw [H1.out.2.1.turnOf, H2.out.2.1.turnOf, ind_min]
  have hml : m.length ≤ 2 * (a.length + b.length) + 1 := by
    have e0 := rngs_len m
    rw [← hout] at e0
    have e1 := rngs_len ob
    have e2 := rngs_len oa
    have e3 := H1.out.2.2
    have e4 := H2.out.2.2
    omega
  subst hout
  have HF : Hid (VForm m (fun c => min (atC a c) (atC b c)) ∧ Touch (fun _ => False) w w3 ∧ m.length ≤ 2 * (a.length + b.length) + 1) := ⟨fm, H2.out.1.trans n3.touch, hml⟩
  have HSl : Hid (SlR w3 v3 (rngs m)) := n3.sl
  have hml2 : m.length ≤ 5000000 := by omega
  obtain ⟨ao3, cap3, rfl, _⟩ := n3.shape
  rw [rngs_len]
  rw [rngs_len] at HSl
  clear n3 f3 M H1 H2 l3 fm hm l1 l2 hml
  go_wp2_with fail
  go_loopg [5, 14] m.length (fun g s5 s14 wx => ∃ (j : Nat) (rs : List Ck), j + g = m.length ∧ s14 = .int .i64 (j : Int) ∧ Hid (NewC w3 wx s5 rs ∧ rs = m.take j) ∧ rs.length = j ∧ ∃ ao cap, s5 = .slice ao rs.length cap)
  case atStart => exact ⟨0, [], by omega, rfl, ⟨NewC.nil w3 w3 (Touch.refl _ _), rfl⟩, rfl, ⟨_, _, rfl⟩⟩
  case round =>
    obtain ⟨j, rs, hjg, rfl, H, hrs, ⟨ao5, cap5, rfl⟩⟩ := hrel
    by_cases hlt : j < m.length
    · have hlr : j < (rngs m).length := by rw [rngs_len]; exact hlt
      have hne : rngs m ≠ [] := by intro h; rw [h] at hlr; simp at hlr
      obtain ⟨b1, o1, cp, e, _, _, hb, hrow⟩ := (HSl.out.touch H.out.1.touch).row hne
      rw [rngs_len] at e
      obtain ⟨rfl, _, rfl⟩ : ao3 = some ⟨b1, o1, none⟩ ∧ True ∧ cap3 = cp := by simpa using e
      obtain ⟨c0, c1, c2⟩ := hrow j hlr
      have hg : (rngs m)[j] = ⟨m[j].c, 1, m[j].k + 1⟩ := by simp [rngs]
      rw [hg] at c0 c1 c2
      have hok := (Ck.ok_iff.1 (HF.out.1.oks m[j] (List.getElem_mem hlt))).2
      have HE : Hid (m.take (j + 1) = m.take j ++ [m[j]]) := List.take_succ_eq_append_getElem hlt
      clear hrow e hne hg hlr
      generalize m[j] = x at *
      obtain ⟨xc, xk⟩ := x
      simp only at hok c0 c1 c2
      obtain ⟨v5, w5, hrun, hN5, _⟩ := NewC.app1 (H.out.1.on ((Touch.refl _ wr).alloc (rgO ⟨xc, 1, xk + 1⟩))) ⟨xc, xk⟩ (by omega)
      rw [World.size_alloc] at hrun
      have HQ : Hid (NewC w3 w5 v5 (rs ++ [⟨xc, xk⟩]) ∧ rs ++ [⟨xc, xk⟩] = m.take (j + 1)) := ⟨hN5, by rw [HE.out, H.out.2]⟩
      have hl5 : (rs ++ [(⟨xc, xk⟩ : Ck)]).length = j + 1 := by simp [hrs]
      obtain ⟨ao6, cap6, hv5, _⟩ := hN5.shape
      rw [hl5] at hv5
      subst hv5
      have hs1 : xk + 1 - 1 = xk := by omega
      clear hN5
      go_wp2_with (at_builtin; refine wpList_append_runC rfl _ _ rfl _ _ _ rfl rfl hrun ?_)
      go_roundg (m.length - (j + 1))
      case measure => omega
      case rel => exact ⟨j + 1, _, by omega, by go_num, HQ.out, hl5, ⟨_, _, by rw [hl5]⟩⟩
    · have hjl : j = m.length := by omega
      subst hjl
      have HQ : Hid (NewC w wr (.slice ao5 rs.length cap5) m ∧ VForm m (fun c => min (atC a c) (atC b c)) ∧ m.length ≤ 2 * (a.length + b.length) + 1) := by
        have h := H.out.1
        have e := H.out.2
        rw [List.take_length] at e
        subst e
        exact ⟨h.since HF.out.2.1, HF.out.1, HF.out.2.2⟩
      clear H
      go_wp2_with fail
      refine bodyPost_ret (v := .slice ao5 rs.length cap5) (by simp [results, Tryz.results26, go_sem]) rfl ?_
      exact ⟨_, m, rfl, HQ.out⟩
set_option maxHeartbeats 800000 in
theorem vjoin_any (a b : List Ck) (va vb : Value) (w : World) (ha : SlC w va a) (hb : SlC w vb b) (hla : a.length ≤ 1048576) (hlb : b.length ≤ 1048576) :
    Calls Tryz.prog 25 #[va, vb] w fun e w' => ∃ v' out, e = .returned v' ∧ NewC w w' v' out ∧ VForm out (fun c => max (atC a c) (atC b c)) ∧ out.length ≤ a.length + b.length := by
  have hva : ∃ ao n cap, va = .slice ao n cap := by obtain ⟨ao, cap, e, _⟩ := ha; exact ⟨_, _, _, e⟩
  have hvb : ∃ ao n cap, vb = .slice ao n cap := by obtain ⟨ao, cap, e, _⟩ := hb; exact ⟨_, _, _, e⟩
  obtain ⟨ao1, m1, cap1, rfl⟩ := hva
  obtain ⟨ao2, m2, cap2, rfl⟩ := hvb
  have hB := heap_alloc_new w (.cells #[.slice ao1 m1 cap1, .slice ao2 m2 cap2] 22)
  have t1 := (Touch.refl (fun _ => False) w).alloc (.cells #[.slice ao1 m1 cap1, .slice ao2 m2 cap2] 22)
  have C1 := concatC_any a b _ _ _ w.heap.size (by rw [cell_of_block hB]; rfl) (by rw [cell_of_block hB]; rfl) (ha.touch t1) (hb.touch t1) (by omega) (by omega)
  have HT : Hid (Touch (fun _ => False) w (w.alloc (.cells #[.slice ao1 m1 cap1, .slice ao2 m2 cap2] 22))) := t1
  clear hB t1 ha hb
  go_enter Tryz.func25, Tryz.ntmps25
  go_wp2_with fail
  refine C1.mono ?_
  rintro e w1 ⟨v1, rfl, n1⟩
  obtain ⟨ab, hab⟩ : ∃ ab, Hid (ab = a ++ b) := ⟨_, rfl⟩
  rw [← hab.out] at n1
  have C2 := vclean_any ab v1 w1 n1.sl (by rw [hab.out]; simp; omega)
  have HT1 : Hid (Touch (fun _ => False) w w1) := HT.out.trans n1.touch
  obtain ⟨ao4, cap4, rfl, _⟩ := n1.shape
  clear n1 C1
  go_wp2_with fail
  refine C2.mono ?_
  rintro e w2 ⟨v2, out, rfl, n2, f2, l2⟩
  have HQ : Hid (NewC w w2 v2 out ∧ VForm out (fun c => max (atC a c) (atC b c)) ∧ out.length ≤ a.length + b.length) := ⟨n2.since HT1.out, f2.of fun c => by rw [hab.out, atC_append], by rw [hab.out] at l2; simpa using l2⟩
  obtain ⟨ao5, cap5, rfl, _⟩ := n2.shape
  clear n2 f2 C2 l2
  go_wp2_with fail
  refine bodyPost_ret (v := .slice ao5 out.length cap5) (by simp [results, Tryz.results25, go_sem]) rfl ?_
  exact ⟨_, out, rfl, HQ.out⟩
end Go.Proofs.YtdblfabbmpdoiaaGreat
