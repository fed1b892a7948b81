/- The contracts of the document's Missing, Within, Meet of clocks. -/
import Derived.Test.YtdblfabbmpdoiaaRvD
import Derived.Test.YtdblfabbmpdoiaaRfO
import Derived.Test.YtdblfabbmpdoiaaVUse
namespace Go.Proofs.Ytdblfabbmpdoiaa
open Go.RowKit Go.Maps
set_option linter.unusedVariables false
set_option linter.unusedSimpArgs false
set_option maxRecDepth 100000

set_option maxHeartbeats 1600000 in
theorem rvmissing_any (a b : List Ck) (va vb : Value) (w : World) (ha : SlC w va a) (hb : SlC w vb b) (hla : a.length ≤ 60) (hlb : b.length ≤ 60) :
    Calls Try.prog 23 #[va, vb] w fun e w' => ∃ v' out, e = .returned v' ∧ SlR w' v' out ∧ Touch (fun _ => False) w w' ∧ Form (tns out) (lack (atC a) (atC b)) := by
  have R1 := rvranges_any b vb w hb (by omega)
  have R2 : Hid (∀ W, Touch (fun _ => False) w W → _) := fun W t => rvranges_any a va W (ha.touch t) (by omega)
  obtain ⟨aoa, capa, rfl, _⟩ := ha
  obtain ⟨aob, capb, rfl, _⟩ := hb
  go_enter Try.func23, Try.ntmps23
  go_wp2_with fail
  refine R1.mono ?_
  rintro e w1 ⟨v1, ob, rfl, n1, f1, l1⟩
  have R2' := R2.out w1 n1.touch
  have H1 : Hid (NewR w w1 v1 (rngs ob) ∧ VForm ob (atC b) ∧ ob.length ≤ b.length) := ⟨n1, f1, l1⟩
  obtain ⟨ao1, cap1, rfl, _⟩ := n1.shape
  clear n1 f1 R1 R2
  go_wp2_with fail
  refine R2'.mono ?_
  rintro e w2 ⟨v2, oa, rfl, n2, f2, l2⟩
  have M := rminus_any (rngs ob) (rngs oa) _ _ w2 (H1.out.1.sl.touch n2.touch) n2.sl (by rw [rngs_len]; omega) (by rw [rngs_len]; omega)
  have H2 : Hid (Touch (fun _ => False) w w2 ∧ VForm oa (atC a) ∧ oa.length ≤ a.length) := ⟨H1.out.1.touch.trans n2.touch, f2, l2⟩
  obtain ⟨ao2, cap2, rfl, _⟩ := n2.shape
  clear n2 f2 R2'
  go_wp2_with fail
  refine M.mono ?_
  rintro e w3 ⟨v3, out, rfl, n3, t3, f3⟩
  have HQ : Hid (SlR w3 v3 out ∧ Touch (fun _ => False) w w3 ∧ Form (tns out) (lack (atC a) (atC b))) := by
    refine ⟨n3, H2.out.1.trans t3, f3.of fun c k => ?_⟩
    rw [H1.out.2.1.turnOf, H2.out.2.1.turnOf, ind_ab]
  obtain ⟨ao3, cap3, rfl, _⟩ := n3.shape
  clear n3 f3 M H1 H2 t3
  go_wp2_with fail
  refine bodyPost_ret (v := .slice ao3 out.length cap3) (by simp [results, Try.results23, go_sem]) rfl ?_
  exact ⟨_, _, rfl, HQ.out⟩
theorem atC_filter (l : List Ck) (c : Int) : atC (l.filter (fun x => decide (1 ≤ x.k))) c = atC l c := by
  induction l with
  | nil => rfl
  | cons x l ih =>
    rw [List.filter_cons]
    have hp := atC_pos l c
    split
    · simp only [atC, ih]
    · rename_i q
      simp only [decide_eq_true_eq] at q
      rw [ih]
      simp only [atC]
      split <;> omega
set_option maxHeartbeats 1600000 in
theorem rvwithin_any (a b : List Ck) (va vb : Value) (w : World) (ha : SlC w va a) (hb : SlC w vb b) (hla : a.length ≤ 1048576) (hlb : b.length ≤ 1048576) :
    Calls Try.prog 25 #[va, vb] w fun e w' => e = .returned (.bool (inC a b)) ∧ Touch (fun _ => False) w w' := by
  have HC := rvclean_any a va w ha (by omega)
  have HB : Hid (SlC w vb b) := hb
  obtain ⟨aoa, capa, rfl, _⟩ := ha
  obtain ⟨aob, capb, rfl, _⟩ := hb
  go_enter Try.func25, Try.ntmps25
  go_wp2_with fail
  refine HC.mono ?_
  rintro e w1 ⟨v1, oa, rfl, hN, hF, hol⟩
  have HF : Hid (VForm oa (atC a) ∧ Touch (fun _ => False) w w1) := ⟨hF, hN.touch⟩
  have HSl : Hid (SlC w1 v1 oa) := hN.sl
  have hol2 : oa.length ≤ 1048576 := by omega
  have HAt : Hid (∀ (c : Int) (m : Nat), Calls Try.prog 12 #[.slice aob b.length capb, .int .u64 c] (w1.drewN m) fun e w' => e = .returned (.int .u64 (atC b c)) ∧ w' = w1.drewN m) := fun c m => rat_any b _ c _ (HB.out.touch (hN.touch.trans ⟨rfl, rfl, rfl, Nat.le_refl _, fun _ _ _ => rfl⟩)) (by omega)
  obtain ⟨ao1, cap1, rfl, _, hc1, hc2⟩ := hN.shape
  clear hN hF HC hol
  go_wp2_with fail
  go_loopg [5] oa.length (fun g s5 wx => ∃ (j q : Nat), j + g = oa.length ∧ s5 = .int .i64 (j : Int) ∧ wx = w1.drewN q ∧ Hid (∀ x ∈ oa.take j, x.k ≤ atC b x.c))
  case atStart => exact ⟨0, 0, by omega, rfl, rfl, fun x hx => nomatch hx⟩
  case round =>
    obtain ⟨j, q, hjg, rfl, rfl, H⟩ := hrel
    by_cases hlt : j < oa.length
    · have hne : oa ≠ [] := by rintro rfl; simp at hlt
      obtain ⟨b1, o1, cp, e, _, _, hb, hrow⟩ := HSl.out.row hne
      obtain ⟨rfl, _, rfl⟩ : ao1 = some ⟨b1, o1, none⟩ ∧ True ∧ cap1 = cp := by simpa using e
      obtain ⟨c0, c1⟩ := hrow j hlt
      have HNx : Hid (oa[j].k ≤ atC b oa[j].c → ∀ x ∈ oa.take (j + 1), x.k ≤ atC b x.c) := fun h x hx => by
        rw [List.take_succ_eq_append_getElem hlt] at hx
        rcases List.mem_append.1 hx with g | g
        · exact H.out x g
        · rw [List.mem_singleton] at g; subst g; exact h
      have HNo : Hid (atC b oa[j].c < oa[j].k → inC a b = false) := fun h => by
        rw [← Bool.not_eq_true, inC_iff]
        intro g
        have h1 := HF.out.1.mem (List.getElem_mem hlt)
        have h2 := g oa[j].c
        omega
      have HA0 := HAt.out oa[j].c
      have HA1 : Hid (∀ m, Calls Try.prog 12 #[.slice aob b.length capb, .int .u64 oa[j].c] (w1.drewN m) fun e w' => e = .returned (.int .u64 (atC b oa[j].c)) ∧ w' = w1.drewN m) := HA0
      clear hrow e hne HA0 HAt
      generalize atC b oa[j].c = A at *
      generalize oa[j] = x at *
      obtain ⟨xc, xk⟩ := x
      simp only at c0 c1 HNx HNo HA1
      have i3 : (j : Int) < (oa.length : Int) := by omega
      have i4 : (0 : Int) ≤ (j : Int) := by omega
      by_cases hA : A < xk
      · have HNo2 : Hid (inC a b = false) := HNo.out hA
        clear HNx HNo
        go_wp2_with fail
        go_quiet (exact (HA1.out _).mono fun e w'' h => ⟨h.1, _, h.2⟩)
        go_wp2_with fail
        refine bodyPost_ret (v := .bool false) (by simp [results, Try.results25, go_sem]) rfl ?_
        exact ⟨by rw [HNo2.out], HF.out.2.trans ⟨rfl, rfl, rfl, Nat.le_refl _, fun _ _ _ => rfl⟩⟩
      · have HN2 : Hid (∀ x ∈ oa.take (j + 1), x.k ≤ atC b x.c) := HNx.out (by omega)
        clear HNx HNo
        go_wp2_with fail
        go_quiet (exact (HA1.out _).mono fun e w'' h => ⟨h.1, _, h.2⟩)
        go_wp2_with fail
        go_roundg (oa.length - (j + 1))
        case measure => omega
        case rel => exact ⟨j + 1, _, by omega, by go_num, rfl, HN2.out⟩
    · have hjl : j = oa.length := by omega
      subst hjl
      have HQ : Hid (inC a b = true) := by
        rw [Hid, inC_iff]
        intro c
        have hx := H.out
        rw [List.take_length] at hx
        rw [← HF.out.1.tells]
        by_cases g : ∃ x ∈ oa, x.c = c
        · obtain ⟨x, hx', rfl⟩ := g
          rw [atC_mem HF.out.1.asc HF.out.1.oks hx']
          exact hx x hx'
        · rw [atC_none fun x hx' e => g ⟨x, hx', e⟩]
          exact (atC_pos b c).1
      clear H HAt
      go_wp2_with fail
      refine bodyPost_ret (v := .bool true) (by simp [results, Try.results25, go_sem]) rfl ?_
      exact ⟨by rw [HQ.out], HF.out.2.trans ⟨rfl, rfl, rfl, Nat.le_refl _, fun _ _ _ => rfl⟩⟩
set_option maxHeartbeats 1600000 in
theorem rvmeet_any (a b : List Ck) (va vb : Value) (w : World) (ha : SlC w va a) (hb : SlC w vb b) (hla : a.length ≤ 1048576) (hlb : b.length ≤ 1048576) :
    Calls Try.prog 22 #[va, vb] w fun e w' => ∃ v' out, e = .returned v' ∧ NewC w w' v' out ∧ VForm out (fun c => min (atC a c) (atC b c)) := by
  have HC := rvclean_any a va w ha (by omega)
  have HB : Hid (SlC w vb b) := hb
  obtain ⟨aoa, capa, rfl, _⟩ := ha
  obtain ⟨aob, capb, rfl, _⟩ := hb
  go_enter Try.func22, Try.ntmps22
  go_wp2_with fail
  refine HC.mono ?_
  rintro e w1 ⟨v1, oa, rfl, hN, hF, hol⟩
  have HF : Hid (VForm oa (atC a) ∧ Touch (fun _ => False) w w1) := ⟨hF, hN.touch⟩
  have HSl : Hid (SlC w1 v1 oa) := hN.sl
  have hol2 : oa.length ≤ 1048576 := by omega
  have HAt : Hid (∀ (c : Int) (W : World), Touch (fun _ => False) w1 W → Calls Try.prog 12 #[.slice aob b.length capb, .int .u64 c] W fun e w' => e = .returned (.int .u64 (atC b c)) ∧ w' = W) := fun c W t => rat_any b _ c _ (HB.out.touch (hN.touch.trans t)) (by omega)
  obtain ⟨ao1, cap1, rfl, _, hc1, hc2⟩ := hN.shape
  clear hN hF HC hol
  go_wp2_with fail
  go_loopg [5, 6] oa.length (fun g s5 s6 wx => ∃ (j : Nat) (rs : List Ck), j + g = oa.length ∧ s6 = .int .i64 (j : Int) ∧ Hid (NewC w1 wx s5 rs ∧ rs = (oa.take j).map (fun x => (⟨x.c, min x.k (atC b x.c)⟩ : Ck))) ∧ Hid (rs.length = j) ∧ ∃ ao cap, s5 = .slice ao j cap)
  case atStart => exact ⟨0, [], by omega, rfl, ⟨NewC.nil w1 w1 (Touch.refl _ _), rfl⟩, rfl, ⟨_, _, rfl⟩⟩
  case round =>
    obtain ⟨j, rs, hjg, rfl, H, HJ, ⟨ao3, cap3, rfl⟩⟩ := hrel
    obtain ⟨wx, hwx⟩ : ∃ wx, wx = wr := ⟨_, rfl⟩
    subst hwx
    by_cases hlt : j < oa.length
    · have hne : oa ≠ [] := by rintro rfl; simp at hlt
      obtain ⟨b1, o1, cp, e, _, _, hb, hrow⟩ := (HSl.out.touch H.out.1.touch).row hne
      obtain ⟨rfl, _, rfl⟩ : ao1 = some ⟨b1, o1, none⟩ ∧ True ∧ cap1 = cp := by simpa using e
      have HE : Hid (oa.take (j + 1) = oa.take j ++ [oa[j]]) := List.take_succ_eq_append_getElem hlt
      have HK : Hid (∀ W, Touch (fun _ => False) w1 W → W.cell? ⟨b1, o1 + j * 2, none⟩ = some (.int .u64 oa[j].c) ∧ W.cell? ⟨b1, o1 + j * 2 + 1, none⟩ = some (.int .u64 oa[j].k)) := fun W t => by
        obtain ⟨b', o', cp', e', _, _, hb', hrow'⟩ := (HSl.out.touch t).row hne
        simp only [Value.slice.injEq, Option.some.injEq, Addr.mk.injEq] at e'
        obtain ⟨⟨rfl, rfl, _⟩, _, _⟩ := e'
        exact hrow' j hlt
      have HN0 : Hid (NewC w1 wx (.slice ao3 j cap3) rs) := H.out.1
      have K1 := HAt.out oa[j].c wx HN0.out.touch
      have K2 := HAt.out oa[j].c wx.drew HN0.out.touch.drew
      have HM : Hid (rs ++ [⟨oa[j].c, min oa[j].k (atC b oa[j].c)⟩] = (oa.take (j + 1)).map (fun x => (⟨x.c, min x.k (atC b x.c)⟩ : Ck))) := by rw [Hid, HE.out, List.map_append, ← H.out.2]; rfl
      clear hrow e hne HAt
      generalize atC b oa[j].c = A at *
      generalize oa[j] = x at *
      obtain ⟨xc, xk⟩ := x
      simp only at HK K1 K2 HM
      obtain ⟨v5, w5, hrun, hN5, _⟩ := NewC.app1 (HN0.out.on (Touch.refl _ _).drew) ⟨xc, min xk A⟩ (by have := HJ.out; omega)
      have hrun2 : (Builtin.append_ #[22, 22] 22 #[.slice ao3 j cap3, .slice (some ⟨wx.heap.size, 0, none⟩) 1 1]).run Try.prog ((wx.alloc (ckO ⟨xc, min xk A⟩)).drew) = .ok v5 w5 := hrun
      have HQ : Hid (NewC w1 w5 v5 (rs ++ [⟨xc, min xk A⟩]) ∧ rs ++ [⟨xc, min xk A⟩] = (oa.take (j + 1)).map (fun x => (⟨x.c, min x.k (atC b x.c)⟩ : Ck))) := ⟨hN5, HM.out⟩
      have hl5 : (rs ++ [(⟨xc, min xk A⟩ : Ck)]).length = j + 1 := by simp [HJ.out]
      obtain ⟨ao5, cap5, hv5, _⟩ := hN5.shape
      rw [hl5] at hv5
      subst hv5
      have S0 := HK.out wx HN0.out.touch
      have S1 := HK.out wx.drew HN0.out.touch.drew
      have S2 := HK.out (wx.alloc (ckO ⟨xc, min xk A⟩)).drew (HN0.out.touch.alloc _).drew
      have S3 := HK.out w5 hN5.touch
      have HL5 : Hid ((rs ++ [(⟨xc, min xk A⟩ : Ck)]).length = j + 1) := hl5
      have i3 : (j : Int) < (oa.length : Int) := by omega
      have i4 : (0 : Int) ≤ (j : Int) := by omega
      clear hN5 hrun hl5 HN0 H HM HE
      generalize hmn : min xk A = mn at *
      go_wp2_with fail
      go_region_held3 (fun W => W.cell? ⟨b1, o1 + j * 2, none⟩ = some (.int .u64 xc) ∧ W.cell? ⟨b1, o1 + j * 2 + 1, none⟩ = some (.int .u64 xk)) (first | assumption)
        (first | (refine step_append_rvC (by rfl) _ _ rfl _ _ _ rfl rfl hrun2 ?_) | (go_at_call 12; first | ((with_reducible refine K1.mono ?_); rintro e w' ⟨rfl, rfl⟩) | ((with_reducible refine K2.mono ?_); rintro e w' ⟨rfl, rfl⟩)))
      all_goals (try go_wp2_with fail)
      all_goals (go_roundg (oa.length - (j + 1)))
      all_goals (first | (case measure => omega) | skip)
      all_goals exact ⟨j + 1, _, by omega, by go_num, HQ.out, HL5.out, ⟨_, _, rfl⟩⟩
    · have hjl : j = oa.length := by omega
      subst hjl
      have C2 := rvclean_any rs _ wx (show SlC wx (.slice ao3 oa.length cap3) rs from H.out.1.sl) (by have := HJ.out; omega)
      have HFx : Hid ((∀ c, atC rs c = min (atC a c) (atC b c)) ∧ Touch (fun _ => False) w wx) := by
        refine ⟨fun c => ?_, HF.out.2.trans H.out.1.touch⟩
        have e := H.out.2
        rw [List.take_length] at e
        rw [e, ← atC_filter]
        exact (meetC_form HF.out.1 fun c => (atC_pos b c).1).tells c
      clear H HAt HSl
      go_wp2_with fail
      refine C2.mono ?_
      rintro e w5 ⟨v5, out, rfl, n5, f5, _⟩
      have HQ : Hid (NewC w w5 v5 out ∧ VForm out (fun c => min (atC a c) (atC b c))) := ⟨n5.since HFx.out.2, f5.of HFx.out.1⟩
      obtain ⟨ao5, cap5, rfl, _⟩ := n5.shape
      clear n5 f5 C2
      go_wp2_with fail
      refine bodyPost_ret (v := .slice ao5 out.length cap5) (by simp [results, Try.results22, go_sem]) rfl ?_
      exact ⟨_, out, rfl, HQ.out⟩
end Go.Proofs.Ytdblfabbmpdoiaa
