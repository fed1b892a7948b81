/- Views: alikeUnits, alikeAhead. -/
import Derived.Test.YtijkekkjiboomaaGreatDoorPart19
import Derived.Test.YtijkekkjiboomaaGreatDoorPart4
namespace Go.Proofs.YtijkekkjiboomaaGreatDoor
open Go.RowKit Go.Maps
set_option linter.unusedVariables false
set_option linter.unusedSimpArgs false
set_option maxRecDepth 100000

set_option maxHeartbeats 8000000 in
theorem alkUnits_any {w : World} {a b : Rw} {x y : Rn} (ha : MtR w a x) (hb : MtR w b y) (ox : x.Ok ∧ x.Dbl) (oy : y.Ok ∧ y.Dbl) (sx : x.tx.size ≤ 1048576) (hT : TabsU w) : Calls Tryz.prog 71 #[a.val, b.val] w fun e w' => e = .returned (.int .i64 (alU x y : Int)) ∧ Touch (fun _ => False) w w' := by
  have HJ : Hid (∀ W, Touch (fun _ => False) w W → Calls Tryz.prog 66 #[a.val, b.val] W fun e w' => e = .returned (.bool (canJ x y)) ∧ Touch (fun _ => False) W w') := fun W t => canj_any (ha.touch t) (hb.touch t) ox.2 oy.2
  have HM : Hid (∀ W, Touch (fun _ => False) w W → Calls Tryz.prog 88 #[.slice a.ms.a a.ms.n a.ms.c, .slice b.ms.a b.ms.n b.ms.c] W fun e w' => e = .returned (.bool (sameL x.ml y.ml)) ∧ Touch (fun _ => False) W w') := fun W t => msame_any (ha.ml.touch t) (hb.ml.touch t) ox.2.m oy.2.m
  have HV : Hid (∀ W, Calls Tryz.prog 94 #[.agg #[.int .i64 a.vk, .int .i64 a.vn, .float .f64 a.vf, .string a.vs], .agg #[.int .i64 b.vk, .int .i64 b.vn, .float .f64 b.vf, .string b.vs]] W fun e w' => e = .returned (.bool (refCmp x.v y.v == 0)) ∧ Touch (fun _ => False) W w') := fun W => by
    have h1 : a.vv.f < 18446744073709551616 := by rw [ha.v]; exact ox.2.v
    have h2 : b.vv.f < 18446744073709551616 := by rw [hb.v]; exact oy.2.v
    have := v_same a.vv b.vv h1 h2 W
    rw [ha.v, hb.v] at this
    have e1 : x.v = ⟨a.vk, a.vn, a.vf, a.vs⟩ := ha.v.symm
    have e2 : y.v = ⟨b.vk, b.vn, b.vf, b.vs⟩ := hb.v.symm
    rw [e1, e2] at this ⊢
    exact this
  have HR : Hid (∀ W, Touch (fun _ => False) w W → canJ x y = true → Calls Tryz.prog 93 #[.string a.tx, .string b.tx] W fun e w' => e = .returned (.int .i64 (lcpN x.rs y.rs : Int)) ∧ Touch (fun _ => False) W w') := fun W t hc => by
    unfold canJ at hc
    rw [Bool.and_eq_true, Bool.and_eq_true] at hc
    rw [ha.tx, hb.tx]
    exact alkRunes_any x.tx y.tx (oy.1.t (by simpa using hc.1.2)).2 sx W (hT.keep t)
  have HA : Hid (alU x y = if canJ x y = true then lcpN x.rs y.rs else if ((a.em && b.em) && ((refCmp x.v y.v == 0) && sameL x.ml y.ml)) = true then 1 else 0) := by rw [Hid, ha.em, hb.em]; rfl
  obtain ⟨E, hE⟩ : ∃ E, Hid (E = (w.alloc (rwO a)).alloc (rwO b)) := ⟨_, Eq.refl _⟩
  have HTE : Hid (Touch (fun _ => False) w E) := by rw [hE.out]; exact ((Touch.refl _ _).alloc _).alloc _
  have HQ : Hid (E.heap[w.heap.size]? = some (rwO a) ∧ E.heap[w.heap.size + 1]? = some (rwO b)) := by rw [hE.out]; exact heap_alloc2 _ _ _
  obtain ⟨ax, han⟩ : ∃ n, Hid (n = alU x y) := ⟨_, Eq.refl _⟩
  rw [← han.out] at HA ⊢
  clear ha hb ox oy hT han
  generalize (refCmp x.v y.v == 0) = vb at *
  generalize sameL x.ml y.ml = mb at *
  generalize lcpN x.rs y.rs = ln at *
  generalize canJ x y = cj at *
  obtain ⟨atx, aem, avk, avn, avf, avs, ⟨ama, amn, amc⟩⟩ := a
  obtain ⟨btx, bem, bvk, bvn, bvf, bvs, ⟨bma, bmn, bmc⟩⟩ := b
  simp only at HJ HM HV HR HA HQ ⊢
  obtain ⟨a0, a1, a2, a3, a4, a5, a6⟩ := rwO_cells HQ.out.1
  obtain ⟨b0, b1, b2, b3, b4, b5, b6⟩ := rwO_cells HQ.out.2
  go_enter Tryz.func71, Tryz.ntmps71
  go_upto_region 1 with fail
  rw [← hE.out]
  clear hE
  go_wp2_with fail
  refine (HJ.out _ HTE.out).mono ?_
  rintro e W1 ⟨rfl, t1⟩
  have HQ1 : Hid (W1.heap[w.heap.size]? = some (rwO ⟨atx, aem, avk, avn, avf, avs, ⟨ama, amn, amc⟩⟩) ∧ W1.heap[w.heap.size + 1]? = some (rwO ⟨btx, bem, bvk, bvn, bvf, bvs, ⟨bma, bmn, bmc⟩⟩) ∧ Touch (fun _ => False) w W1) := ⟨hkY t1 HQ.out.1, hkY t1 HQ.out.2, HTE.out.trans t1⟩
  clear a0 a1 a2 a3 a4 a5 a6 b0 b1 b2 b3 b4 b5 b6 t1 HTE HQ HJ
  obtain ⟨a0, a1, a2, a3, a4, a5, a6⟩ := rwO_cells HQ1.out.1
  obtain ⟨b0, b1, b2, b3, b4, b5, b6⟩ := rwO_cells HQ1.out.2.1
  cases cj with
  | true =>
    have hA : Hid (ax = ln) := HA.out
    go_wp2_with fail
    refine (HR.out _ HQ1.out.2.2 trivial).mono ?_
    rintro e W2 ⟨rfl, t2⟩
    have HT2 : Hid (Touch (fun _ => False) w W2) := HQ1.out.2.2.trans t2
    clear a0 a1 a2 a3 a4 a5 a6 b0 b1 b2 b3 b4 b5 b6 t2 HQ1
    go_wp2_with fail
    go_ret
    exact ⟨by rw [hA.out]; rfl, HT2.out⟩
  | false =>
    cases aem with
    | false =>
      have hA : Hid (ax = 0) := HA.out
      go_wp2_with fail
      go_ret
      exact ⟨by rw [hA.out]; rfl, HQ1.out.2.2⟩
    | true =>
      cases bem with
      | false =>
        have hA : Hid (ax = 0) := HA.out
        go_wp2_with fail
        go_ret
        exact ⟨by rw [hA.out]; rfl, HQ1.out.2.2⟩
      | true =>
        go_wp2_with fail
        refine (HV.out _).mono ?_
        rintro e W2 ⟨rfl, t2⟩
        have HQ2 : Hid (W2.heap[w.heap.size]? = some (rwO ⟨atx, true, avk, avn, avf, avs, ⟨ama, amn, amc⟩⟩) ∧ W2.heap[w.heap.size + 1]? = some (rwO ⟨btx, true, bvk, bvn, bvf, bvs, ⟨bma, bmn, bmc⟩⟩) ∧ Touch (fun _ => False) w W2) := ⟨hkY t2 HQ1.out.1, hkY t2 HQ1.out.2.1, HQ1.out.2.2.trans t2⟩
        clear a0 a1 a2 a3 a4 a5 a6 b0 b1 b2 b3 b4 b5 b6 t2 HQ1
        obtain ⟨-, -, -, -, -, -, a6⟩ := rwO_cells HQ2.out.1
        obtain ⟨-, -, -, -, -, -, b6⟩ := rwO_cells HQ2.out.2.1
        cases vb with
        | false =>
          have hA : Hid (ax = 0) := HA.out
          go_wp2_with fail
          go_ret
          exact ⟨by rw [hA.out]; rfl, HQ2.out.2.2⟩
        | true =>
          go_wp2_with fail
          refine (HM.out _ HQ2.out.2.2).mono ?_
          rintro e W3 ⟨rfl, t3⟩
          have HT3 : Hid (Touch (fun _ => False) w W3) := HQ2.out.2.2.trans t3
          clear a6 b6 t3 HQ2
          cases mb with
          | false =>
            have hA : Hid (ax = 0) := HA.out
            go_wp2_with fail
            go_ret
            exact ⟨by rw [hA.out]; rfl, HT3.out⟩
          | true =>
            have hA : Hid (ax = 1) := HA.out
            go_wp2_with fail
            go_ret
            exact ⟨by rw [hA.out]; rfl, HT3.out⟩
theorem alU_le (x y : Rn) (hx : x.len ≤ 1048576) : alU x y ≤ 1048576 := by
  unfold alU
  split
  · next h =>
    unfold canJ at h
    rw [Bool.and_eq_true, Bool.and_eq_true] at h
    have h1 := (lcpN_is x.rs y.rs).lx
    unfold Rn.len at hx
    rw [if_neg (by simpa using h.1.1)] at hx
    omega
  · split <;> omega
/-- alikeAhead, from a place on. -/
theorem alA_drop {A B : List Rn} {i : Nat} (h1 : i < A.length) (h2 : i < B.length) : alA (A.drop i) (B.drop i) = if alU A[i] B[i] < max A[i].len B[i].len then alU A[i] B[i] else alU A[i] B[i] + alA (A.drop (i + 1)) (B.drop (i + 1)) := by
  rw [List.drop_eq_getElem_cons h1, List.drop_eq_getElem_cons h2]; rfl
theorem alA_end {A B : List Rn} {i : Nat} (h : A.length ≤ i ∨ B.length ≤ i) : alA (A.drop i) (B.drop i) = 0 := by
  rcases h with h | h
  · rw [List.drop_of_length_le h]; cases B.drop i <;> rfl
  · rw [List.drop_of_length_le h]; cases A.drop i <;> rfl
set_option maxHeartbeats 16000000 in
theorem alkAhead_any {w : World} {va vb : Value} {A B : List Rn} (ha : SlRn w va A) (hb : SlRn w vb B) (oa : OkL A) (ob : OkL B) (ta : tot A ≤ 1048576) (tb : tot B ≤ 1048576) (hT : TabsU w) :
    Calls Tryz.prog 51 #[va, vb] w fun e w' => e = .returned (.int .i64 (alA A B : Int)) ∧ Touch (fun _ => False) w w' := by
  obtain ⟨ra, hra, hma⟩ := ha
  obtain ⟨rb, hrb, hmb⟩ := hb
  have hla := hma.len
  have hlb := hmb.len
  have hAl := tot_len A
  have hBl := tot_len B
  obtain ⟨ao, ca, rfl, -, -, -⟩ := hra.shape
  obtain ⟨bo, cb, rfl, -, -, -⟩ := hrb.shape
  have HA : Hid (ra ≠ [] → _) := hra.at
  have HB : Hid (rb ≠ [] → _) := hrb.at
  have HLA : Hid (ra.length = A.length ∧ rb.length = B.length) := ⟨hla, hlb⟩
  have HC : Hid (∀ i (h1 : i < ra.length) (h2 : i < A.length) (h3 : i < rb.length) (h4 : i < B.length) W, Touch (fun _ => False) w W → (Calls Tryz.prog 71 #[ra[i].val, rb[i].val] W fun e w' => e = .returned (.int .i64 (alU A[i] B[i] : Int)) ∧ Touch (fun _ => False) W w') ∧ (Calls Tryz.prog 43 #[ra[i].val] W fun e w' => e = .returned (.int .i64 (A[i].len : Int)) ∧ Touch (fun _ => False) W w') ∧ (Calls Tryz.prog 43 #[rb[i].val] W fun e w' => e = .returned (.int .i64 (B[i].len : Int)) ∧ Touch (fun _ => False) W w')) := fun i h1 h2 h3 h4 W t => by
    have m1 := hma.get i h1 h2
    have m2 := hmb.get i h3 h4
    have s1 := tot_small ta _ (List.getElem_mem h2)
    have s2 := tot_small tb _ (List.getElem_mem h4)
    refine ⟨alkUnits_any (m1.touch t) (m2.touch t) (oa _ (List.getElem_mem h2)) (ob _ (List.getElem_mem h4)) s1 (hT.keep t), ?_, ?_⟩
    · rw [← m1.len]; exact vlen_any _ (by rw [m1.tx]; exact s1) W (hT.keep t)
    · rw [← m2.len]; exact vlen_any _ (by rw [m2.tx]; exact s2) W (hT.keep t)
  have HLn : Hid (∀ i (h2 : i < A.length) (h4 : i < B.length), A[i].len ≤ 1048576 ∧ B[i].len ≤ 1048576 ∧ alU A[i] B[i] ≤ 1048576) := fun i h2 h4 => by
    have s1 := rn_len_le _ (tot_small ta _ (List.getElem_mem h2))
    have s2 := rn_len_le _ (tot_small tb _ (List.getElem_mem h4))
    exact ⟨s1, s2, alU_le _ _ s1⟩
  obtain ⟨mn, hmn, HMn⟩ : ∃ mn : Nat, min (A.length : Int) (B.length : Int) = (mn : Int) ∧ Hid (mn = min A.length B.length) := ⟨min A.length B.length, by omega, rfl⟩
  have H0 : Hid (alA (A.drop 0) (B.drop 0) = alA A B) := rfl
  clear hra hma hrb hmb oa ob hT hla hlb
  have HAl : Hid (A.length ≤ 1048576 ∧ B.length ≤ 1048576) := ⟨by omega, by omega⟩
  rw [HLA.out.1, HLA.out.2]
  generalize hN : alA A B = N at *
  clear hN hAl hBl ta tb
  go_enter Tryz.func51, Tryz.ntmps51
  go_wp2_with fail
  go_loopg [5, 13] mn (fun gk s5 s13 wr => ∃ (i n : Nat), i + gk = mn ∧ s5 = .int .i64 (n : Int) ∧ s13 = .int .i64 (i : Int) ∧ n ≤ 1048576 * i ∧ Hid (Touch (fun _ => False) w wr ∧ n + alA (A.drop i) (B.drop i) = N))
  case atStart => exact ⟨0, 0, by omega, rfl, rfl, by omega, Touch.refl _ _, by rw [H0.out]; omega⟩
  case round =>
    obtain ⟨i, n, hig, rfl, rfl, hnb, HI⟩ := hrel
    have hmA : mn ≤ A.length ∧ mn ≤ B.length := by have := HMn.out; omega
    by_cases hil : i < mn
    · have hlt : (i : Int) < (mn : Int) := by omega
      have hi0 : (0 : Int) ≤ (i : Int) := by omega
      have hiA : (i : Int) < (A.length : Int) := by omega
      have hiB : (i : Int) < (B.length : Int) := by omega
      have h2 : i < A.length := by omega
      have h4 : i < B.length := by omega
      have h1 : i < ra.length := by have := HLA.out.1; omega
      have h3 : i < rb.length := by have := HLA.out.2; omega
      have hiw : IntKind.i64.wrap (i : Int) = (i : Int) := by rw [IntKind.wrap_i64]; have := HAl.out; omega
      have hiw1 : IntKind.i64.wrap ((i : Int) + 1) = (i : Int) + 1 := by rw [IntKind.wrap_i64]; have := HAl.out; omega
      have C1 := fun W t => (HC.out i h1 h2 h3 h4 W t).1
      have C2 := fun W t => (HC.out i h1 h2 h3 h4 W t).2.1
      have C3 := fun W t => (HC.out i h1 h2 h3 h4 W t).2.2
      have HC1 : Hid _ := C1
      have HC2 : Hid _ := C2
      have HC3 : Hid _ := C3
      obtain ⟨hu1, hu2, hu3⟩ := HLn.out i h2 h4
      have hdr := alA_drop h2 h4
      obtain ⟨ba, fa, rfl, -, hca⟩ := HA.out (by intro h; rw [h] at h1; simp at h1)
      obtain ⟨bb, fb, rfl, -, hcb⟩ := HB.out (by intro h; rw [h] at h3; simp at h3)
      have HX : Hid (∀ W, Touch (fun _ => False) w W → _ ∧ _) := fun W (t : Touch (fun _ => False) w W) => And.intro (hca W t i h1) (hcb W t i h3)
      clear C1 C2 C3 hca hcb HA HB HC HLn H0
      have HNo : Hid (alU A[i] B[i] < max A[i].len B[i].len → n + alU A[i] B[i] = N) := fun h => by
        have := HI.out.2; rw [hdr, if_pos h] at this; exact this
      have HGo : Hid (¬ alU A[i] B[i] < max A[i].len B[i].len → n + alU A[i] B[i] + alA (A.drop (i + 1)) (B.drop (i + 1)) = N) := fun h => by
        have := HI.out.2; rw [hdr, if_neg h] at this; omega
      have T0 : Hid (Touch (fun _ => False) w wr) := HI.out.1
      clear hdr HI
      generalize alU A[i] B[i] = u at *
      generalize A[i].len = la at *
      generalize B[i].len = lb at *
      have hnw : IntKind.i64.wrap ((n : Int) + (u : Int)) = (n : Int) + (u : Int) := by rw [IntKind.wrap_i64]; have := HAl.out; omega
      obtain ⟨mx, hmx, HMx⟩ : ∃ mx : Nat, max (la : Int) (lb : Int) = (mx : Int) ∧ Hid (mx = max la lb) := ⟨max la lb, by omega, rfl⟩
      generalize ra[i] = xa at *
      generalize rb[i] = xb at *
      obtain ⟨atx, aem, avk, avn, avf, avs, ⟨ama, amn, amc⟩⟩ := xa
      obtain ⟨btx, bem, bvk, bvn, bvf, bvs, ⟨bma, bmn, bmc⟩⟩ := xb
      simp only at HX HC1 HC2 HC3
      have S0 := HX.out _ T0.out.drew
      go_upto_region 5 with fail
      go_region_held3 (fun W => (W.cell? ⟨ba, fa + i * 7, none⟩ = some (.string atx) ∧ W.cell? ⟨ba, fa + i * 7 + 1, none⟩ = some (.bool aem) ∧ W.cell? ⟨ba, fa + i * 7 + 2, none⟩ = some (.int .i64 avk) ∧ W.cell? ⟨ba, fa + i * 7 + 3, none⟩ = some (.int .i64 avn) ∧ W.cell? ⟨ba, fa + i * 7 + 4, none⟩ = some (.float .f64 avf) ∧ W.cell? ⟨ba, fa + i * 7 + 5, none⟩ = some (.string avs) ∧ W.cell? ⟨ba, fa + i * 7 + 6, none⟩ = some (.slice ama amn amc)) ∧ (W.cell? ⟨bb, fb + i * 7, none⟩ = some (.string btx) ∧ W.cell? ⟨bb, fb + i * 7 + 1, none⟩ = some (.bool bem) ∧ W.cell? ⟨bb, fb + i * 7 + 2, none⟩ = some (.int .i64 bvk) ∧ W.cell? ⟨bb, fb + i * 7 + 3, none⟩ = some (.int .i64 bvn) ∧ W.cell? ⟨bb, fb + i * 7 + 4, none⟩ = some (.float .f64 bvf) ∧ W.cell? ⟨bb, fb + i * 7 + 5, none⟩ = some (.string bvs) ∧ W.cell? ⟨bb, fb + i * 7 + 6, none⟩ = some (.slice bma bmn bmc))) (first | assumption)
        (first
          | (go_at_call 71; first | ((with_reducible refine (HC1.out _ T0.out.drew).mono ?_); rintro e w1 ⟨rfl, t1⟩; have S1 := HX.out w1 (T0.out.drew.trans t1); have T1 : Hid (Touch (fun _ => False) w w1) := T0.out.drew.trans t1; clear t1) | ((with_reducible refine (HC1.out _ T0.out).mono ?_); rintro e w1 ⟨rfl, t1⟩; have S1 := HX.out w1 (T0.out.trans t1); have T1 : Hid (Touch (fun _ => False) w w1) := T0.out.trans t1; clear t1)))
      all_goals clear S0
      all_goals clear S1 T0
      all_goals have S0 := HX.out _ T1.out.drew
      all_goals by_cases hb : u < mx
      all_goals have hbi : decide ((u : Int) < (mx : Int)) = decide (u < mx) := by simp
      · have hd : ((u : Int) < (mx : Int)) := by omega
        go_upto_region 7 with fail
        go_region_held3 (fun W => (W.cell? ⟨ba, fa + i * 7, none⟩ = some (.string atx) ∧ W.cell? ⟨ba, fa + i * 7 + 1, none⟩ = some (.bool aem) ∧ W.cell? ⟨ba, fa + i * 7 + 2, none⟩ = some (.int .i64 avk) ∧ W.cell? ⟨ba, fa + i * 7 + 3, none⟩ = some (.int .i64 avn) ∧ W.cell? ⟨ba, fa + i * 7 + 4, none⟩ = some (.float .f64 avf) ∧ W.cell? ⟨ba, fa + i * 7 + 5, none⟩ = some (.string avs) ∧ W.cell? ⟨ba, fa + i * 7 + 6, none⟩ = some (.slice ama amn amc)) ∧ (W.cell? ⟨bb, fb + i * 7, none⟩ = some (.string btx) ∧ W.cell? ⟨bb, fb + i * 7 + 1, none⟩ = some (.bool bem) ∧ W.cell? ⟨bb, fb + i * 7 + 2, none⟩ = some (.int .i64 bvk) ∧ W.cell? ⟨bb, fb + i * 7 + 3, none⟩ = some (.int .i64 bvn) ∧ W.cell? ⟨bb, fb + i * 7 + 4, none⟩ = some (.float .f64 bvf) ∧ W.cell? ⟨bb, fb + i * 7 + 5, none⟩ = some (.string bvs) ∧ W.cell? ⟨bb, fb + i * 7 + 6, none⟩ = some (.slice bma bmn bmc))) (first | assumption)
          (first
            | (go_at_call 43; first | ((with_reducible refine (HC2.out _ T1.out.drew).mono ?_); rintro e w2 ⟨rfl, t2⟩; have S2 := HX.out w2 (T1.out.drew.trans t2); have T2 : Hid (Touch (fun _ => False) w w2) := T1.out.drew.trans t2; clear t2 T1; have T1 := T2) | ((with_reducible refine (HC3.out _ T1.out.drew).mono ?_); rintro e w2 ⟨rfl, t2⟩; have S3 := HX.out w2 (T1.out.drew.trans t2); have T2 : Hid (Touch (fun _ => False) w w2) := T1.out.drew.trans t2; clear t2 T1; have T1 := T2) | ((with_reducible refine (HC2.out _ T1.out).mono ?_); rintro e w2 ⟨rfl, t2⟩; have S2 := HX.out w2 (T1.out.trans t2); have T2 : Hid (Touch (fun _ => False) w w2) := T1.out.trans t2; clear t2 T1; have T1 := T2) | ((with_reducible refine (HC3.out _ T1.out).mono ?_); rintro e w2 ⟨rfl, t2⟩; have S3 := HX.out w2 (T1.out.trans t2); have T2 : Hid (Touch (fun _ => False) w w2) := T1.out.trans t2; clear t2 T1; have T1 := T2)))
        all_goals have HF : Hid (n + u = N) := HNo.out (by have := HMx.out; omega)
        all_goals clear S0 HX HC1 HC2 HC3
        all_goals try clear S2
        all_goals try clear S3
        all_goals go_wp2_with fail
        all_goals go_ret
        all_goals exact ⟨by rw [← HF.out, Int.natCast_add]; rfl, T1.out⟩
      · have hd : ¬ ((u : Int) < (mx : Int)) := by omega
        go_upto_region 7 with fail
        go_region_held3 (fun W => (W.cell? ⟨ba, fa + i * 7, none⟩ = some (.string atx) ∧ W.cell? ⟨ba, fa + i * 7 + 1, none⟩ = some (.bool aem) ∧ W.cell? ⟨ba, fa + i * 7 + 2, none⟩ = some (.int .i64 avk) ∧ W.cell? ⟨ba, fa + i * 7 + 3, none⟩ = some (.int .i64 avn) ∧ W.cell? ⟨ba, fa + i * 7 + 4, none⟩ = some (.float .f64 avf) ∧ W.cell? ⟨ba, fa + i * 7 + 5, none⟩ = some (.string avs) ∧ W.cell? ⟨ba, fa + i * 7 + 6, none⟩ = some (.slice ama amn amc)) ∧ (W.cell? ⟨bb, fb + i * 7, none⟩ = some (.string btx) ∧ W.cell? ⟨bb, fb + i * 7 + 1, none⟩ = some (.bool bem) ∧ W.cell? ⟨bb, fb + i * 7 + 2, none⟩ = some (.int .i64 bvk) ∧ W.cell? ⟨bb, fb + i * 7 + 3, none⟩ = some (.int .i64 bvn) ∧ W.cell? ⟨bb, fb + i * 7 + 4, none⟩ = some (.float .f64 bvf) ∧ W.cell? ⟨bb, fb + i * 7 + 5, none⟩ = some (.string bvs) ∧ W.cell? ⟨bb, fb + i * 7 + 6, none⟩ = some (.slice bma bmn bmc))) (first | assumption)
          (first
            | (go_at_call 43; first | ((with_reducible refine (HC2.out _ T1.out.drew).mono ?_); rintro e w2 ⟨rfl, t2⟩; have S2 := HX.out w2 (T1.out.drew.trans t2); have T2 : Hid (Touch (fun _ => False) w w2) := T1.out.drew.trans t2; clear t2 T1; have T1 := T2) | ((with_reducible refine (HC3.out _ T1.out.drew).mono ?_); rintro e w2 ⟨rfl, t2⟩; have S3 := HX.out w2 (T1.out.drew.trans t2); have T2 : Hid (Touch (fun _ => False) w w2) := T1.out.drew.trans t2; clear t2 T1; have T1 := T2) | ((with_reducible refine (HC2.out _ T1.out).mono ?_); rintro e w2 ⟨rfl, t2⟩; have S2 := HX.out w2 (T1.out.trans t2); have T2 : Hid (Touch (fun _ => False) w w2) := T1.out.trans t2; clear t2 T1; have T1 := T2) | ((with_reducible refine (HC3.out _ T1.out).mono ?_); rintro e w2 ⟨rfl, t2⟩; have S3 := HX.out w2 (T1.out.trans t2); have T2 : Hid (Touch (fun _ => False) w w2) := T1.out.trans t2; clear t2 T1; have T1 := T2)))
        all_goals have HF : Hid (n + u + alA (A.drop (i + 1)) (B.drop (i + 1)) = N) := HGo.out (by have := HMx.out; omega)
        all_goals clear S0 HX HC1 HC2 HC3
        all_goals try clear S2
        all_goals try clear S3
        all_goals go_wp2_with fail
        all_goals go_roundg (mn - (i + 1))
        all_goals first | omega | exact ⟨i + 1, n + u, by omega, by rw [Int.natCast_add], by rw [Int.natCast_add]; rfl, by omega, T1.out, HF.out⟩
    · have hEq : i = mn := by omega
      have HF : Hid (n = N) := by
        have h1 := HI.out.2
        have := HMn.out
        rw [alA_end (by omega)] at h1
        exact h1
      have HT : Hid (Touch (fun _ => False) w wr) := HI.out.1
      clear HI HA HB HC HLn H0
      subst hEq
      go_wp2_with fail
      go_ret
      exact ⟨by rw [HF.out]; rfl, HT.out⟩
end Go.Proofs.YtijkekkjiboomaaGreatDoor
