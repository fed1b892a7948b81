/- quirelaw9.SeqRuns: a run of units is the units one by one. -/
import Derived.Test.YtcolbgbmnmkogaaSq3
import Derived.Test.YtcolbgbmnmkogaaGrown
import Derived.Test.YtcolbgbmnmkogaaPart30
import Derived.Deep.CutBlock
namespace Go.Proofs.Ytcolbgbmnmkogaa
open Go.RowKit
set_option linter.unusedVariables false
set_option linter.unusedSimpArgs false
set_option maxRecDepth 100000

set_option maxHeartbeats 32000000 in
theorem seqRuns_any (w : World) (ao0 : Option Addr) (zs0 : List Int) (n0 c0 : Nat) (hn0 : n0 = zs0.length) (hz0 : LiesK w .u16 ao0 zs0) (hm0 : c0 ≤ maxLen) (hc0 : n0 ≤ c0) (hr0 : ∀ y ∈ zs0, 0 ≤ y ∧ y < 65536) (at0 : Int) (hat0 : -9223372036854775808 ≤ at0 ∧ at0 ≤ 9223372036854775807) (nn0 : Int) (hnn0 : -9223372036854775808 ≤ nn0 ∧ nn0 ≤ 9223372036854775807) (cl : Int) (hcl : 0 ≤ cl ∧ cl < 18446744073709551616) :
    Calls Try.prog 7 #[.slice ao0 n0 c0, .int .i64 at0, .int .i64 nn0, .int .u64 cl] w fun e w' => e = .returned (.bool true) ∧ Touch (fun _ => False) w w' := by
  have HK : Hid (Calls Try.prog 9 #[] w fun e w' => e = .returned (.bool true) ∧ Touch (fun _ => False) w w') := known_any w
  have hx0 : (n0 : Int) ≤ 9223372036854775807 := by unfold maxLen at hm0; omega
  clear hm0 hc0
  by_cases h0 : 40 < n0
  · have g0 : (40 : Int) < (n0 : Int) := by omega
    clear h0 hz0 hr0
    go_enter Try.func7, Try.ntmps7
    go_wp2_with fail
    refine HK.out.mono ?_
    rintro e W1 ⟨rfl, t1⟩
    have HT1 : Hid (Touch (fun _ => False) w W1) := t1
    clear t1 HK
    go_wp2_with fail
    go_ret
    exact ⟨rfl, HT1.out⟩
  have g0 : ¬ (40 : Int) < (n0 : Int) := by omega
  obtain ⟨us, hus⟩ : ∃ us, Hid (us = (grownG zs0).out) := ⟨_, Eq.refl _⟩
  obtain ⟨gok, ginv⟩ := grown_ok zs0 hr0 (by omega)
  have gk := grown_k' zs0
  have hul : us.length ≤ 40 := by
    have := ginv.out
    rw [hus.out]; omega
  have HUok : Hid (∀ u ∈ us, u.ok ∧ u.k ≤ 40) := fun u hu => by
    rw [hus.out] at hu
    have := gk u hu
    exact ⟨(gok.ok u hu).1, by omega⟩
  have HSI : Hid (∀ j, j ≤ us.length → Inv (seqOf (us.take j)) ∧ Size (seqOf (us.take j)) j) := seqOf_inv us (fun u hu => (HUok.out u hu).1) (by omega)
  have HSt : Hid (∀ j (hj : j < us.length), seqOf (us.take (j + 1)) = (seqOf (us.take j)).run us[j] 1) := seqOf_take us
  have HSc : Hid (∀ v ∈ (seqOf (us.take us.length)).units, v.k ≤ 40) := fun v hv => (HUok.out v (seqOf_mem us (fun u hu => (HUok.out u hu).1) (by omega) us.length (Nat.le_refl _) v hv)).2
  have HG : Hid (∀ W, Touch (fun _ => False) w W → Calls Try.prog 18 #[.slice ao0 n0 c0] W fun e w' => ∃ v, e = .returned v ∧ NewV W w' v us) := fun W t => by
    rw [hn0, hus.out]
    exact grown_any zs0 (hz0.touch t) hr0 (by omega)
  have HN : Hid (∀ W, Touch (fun _ => False) w W → Calls Try.prog 10 #[] W fun e w' => ∃ p B, e = .returned (.pointer (some ⟨p, 0, none⟩)) ∧ Sq1 w w' p B .new ∧ (∀ k, B.has k → W.heap.size ≤ k) ∧ Touch (fun _ => False) W w') := fun W t => Sq1.fresh w W t
  clear h0 hz0 hr0 gok ginv hn0 hus gk
  go_enter Try.func7, Try.ntmps7
  go_wp2_with fail
  refine HK.out.mono ?_
  rintro e W1 ⟨rfl, t1⟩
  have HT1 : Hid (Touch (fun _ => False) w W1) := t1
  clear t1 HK
  go_wp2_with fail
  refine (HG.out _ HT1.out).mono ?_
  rintro e W2 ⟨v, rfl, n2⟩
  have H2 : Hid (NewV w W2 v us) := n2.since HT1.out
  obtain ⟨vo, vcap, rfl, hvo, -⟩ := n2.shape
  have HVo : Hid (0 < us.length → ∃ g, vo = some ⟨g, 0, none⟩) := hvo
  clear n2 HG HT1 hvo
  go_wp2_with fail
  refine (HN.out _ H2.out.touch).mono ?_
  rintro e W3 ⟨pa, A, rfl, a3, -, t3⟩
  have H3 : Hid (Sq1 w W3 pa A .new ∧ NewV w W3 (.slice vo us.length vcap) us) := ⟨a3, H2.out.on t3⟩
  clear a3 t3 H2
  go_wp2_with fail
  refine (HN.out _ H3.out.2.touch).mono ?_
  rintro e W4 ⟨pb, B, rfl, b4, n4, t4⟩
  have H4 : Hid (Two w W4 pa pb .new .new (.slice vo us.length vcap) us) := ⟨A, B, H3.out.1.touch t4, b4, fun k hk hb => by
    have := H3.out.1.mem.lt hk
    have := n4 k hb
    omega, H3.out.2.on t4⟩
  clear b4 n4 t4 HN H3
  go_upto_block 0 with fail
  go_cut [12] (fun t wx => ∃ i, t = .int .i64 i ∧ Hid (Two w wx pa pb (seqOf (us.take us.length)) (seqOf (us.take us.length)) (.slice vo us.length vcap) us))
  case first =>
    clear HSc
    go_wp2_with fail
    go_loopw [12] (fun i wr => ∃ j : Nat, i = .int .i64 (j : Int) ∧ j ≤ us.length ∧ Hid (Two w wr pa pb (seqOf (us.take j)) (seqOf (us.take j)) (.slice vo us.length vcap) us)) (fun i _ => (us.length - intOf i).toNat)
    case atStart => exact ⟨0, rfl, Nat.zero_le _, H4.out⟩
    case round =>
      obtain ⟨j, rfl, hj, HJ⟩ := hrel
      by_cases hlt : j < us.length
      rotate_left
      · have hjl : j = us.length := by omega
        have HF : Hid (Two w wr pa pb (seqOf (us.take us.length)) (seqOf (us.take us.length)) (.slice vo us.length vcap) us) := by
          have := HJ.out
          rw [hjl] at this
          exact this
        clear HJ HSI HSt HUok H4
        generalize us.length = nu at *
        go_wp2_with fail
        go_meet
        case rel => exact ⟨_, rfl, HF.out⟩
      · obtain ⟨g, rfl⟩ := HVo.out (by omega)
        have HCe : Hid (∀ W Sa Sb, Two w W pa pb Sa Sb (.slice (some ⟨g, 0, none⟩) us.length vcap) us → W.cell? ⟨g, j * 6, none⟩ = some (.int .u64 us[j].c) ∧ W.cell? ⟨g, j * 6 + 1, none⟩ = some (.int .u64 us[j].k) ∧ W.cell? ⟨g, j * 6 + 2, none⟩ = some (.int .u64 us[j].lc) ∧ W.cell? ⟨g, j * 6 + 3, none⟩ = some (.int .u64 us[j].lk) ∧ W.cell? ⟨g, j * 6 + 4, none⟩ = some (.int .u64 us[j].rc) ∧ W.cell? ⟨g, j * 6 + 5, none⟩ = some (.int .u64 us[j].rk)) := fun W Sa Sb h => by
          obtain ⟨_, _, _, _, _, hn⟩ := h
          obtain ⟨b, o, cap, e, _, _, _, hx⟩ := hn.sl.row (fun e => by rw [e] at hlt; exact absurd hlt (Nat.not_lt_zero _))
          simp only [Value.slice.injEq, Option.some.injEq, Addr.mk.injEq] at e
          obtain ⟨⟨rfl, rfl, -⟩, -, -⟩ := e
          have := hx j hlt
          simp only [Nat.zero_add] at this
          exact this
        have hS := HSI.out j hj
        have hu := (HUok.out us[j] (List.getElem_mem hlt)).1
        have HS1 := HSt.out j hlt
        have HA : Hid (∀ W, Two w W pa pb (seqOf (us.take j)) (seqOf (us.take j)) (.slice (some ⟨g, 0, none⟩) us.length vcap) us → Calls Try.prog 14 #[.pointer (some ⟨pa, 0, none⟩), .agg #[.int .u64 us[j].c, .int .u64 us[j].k, .int .u64 us[j].lc, .int .u64 us[j].lk, .int .u64 us[j].rc, .int .u64 us[j].rk]] W fun e w' => e = .returned (.bool ((seqOf (us.take j)).may us[j] 1)) ∧ Two w w' pa pb (seqOf (us.take (j + 1))) (seqOf (us.take j)) (.slice (some ⟨g, 0, none⟩) us.length vcap) us) := fun W h => by
          rw [HS1]; exact h.ins _ hu hS.2 (by omega)
        have HB : Hid (∀ W, Two w W pa pb (seqOf (us.take (j + 1))) (seqOf (us.take j)) (.slice (some ⟨g, 0, none⟩) us.length vcap) us → Calls Try.prog 14 #[.pointer (some ⟨pb, 0, none⟩), .agg #[.int .u64 us[j].c, .int .u64 us[j].k, .int .u64 us[j].lc, .int .u64 us[j].lk, .int .u64 us[j].rc, .int .u64 us[j].rk]] W fun e w' => e = .returned (.bool ((seqOf (us.take j)).may us[j] 1)) ∧ Two w w' pa pb (seqOf (us.take (j + 1))) (seqOf (us.take (j + 1))) (.slice (some ⟨g, 0, none⟩) us.length vcap) us) := fun W h => by
          have := h.swap.ins us[j] hu hS.2 (by omega)
          refine this.mono ?_
          rintro e w' ⟨rfl, h2⟩
          refine ⟨rfl, ?_⟩
          rw [← HS1] at h2
          exact h2.swap
        clear hS hu HS1 HSI HSt HUok H4
        obtain ⟨nu, hnu⟩ : ∃ n, Hid (n = us.length) := ⟨_, Eq.refl _⟩
        have l0 : (j : Int) < (us.length : Int) := by omega
        generalize (seqOf (us.take j)).may us[j] 1 = mb at *
        generalize us[j] = u at *
        obtain ⟨uc, uk, ulc, ulk, urc, urk⟩ := u
        simp only at HCe HA HB
        obtain ⟨k0, k1, k2, k3, k4, k5⟩ := HCe.out _ _ _ HJ.out
        go_wp2_with fail
        refine (HA.out _ HJ.out).mono ?_
        rintro e W5 ⟨rfl, h5⟩
        have H5 : Hid (Two w W5 pa pb (seqOf (us.take (j + 1))) (seqOf (us.take j)) (.slice (some ⟨g, 0, none⟩) us.length vcap) us) := h5
        clear h5 HA k0 k1 k2 k3 k4 k5
        obtain ⟨k0, k1, k2, k3, k4, k5⟩ := HCe.out _ _ _ H5.out
        go_wp2_with fail
        refine (HB.out _ H5.out).mono ?_
        rintro e W6 ⟨rfl, h6⟩
        have H6 : Hid (Two w W6 pa pb (seqOf (us.take (j + 1))) (seqOf (us.take (j + 1))) (.slice (some ⟨g, 0, none⟩) us.length vcap) us) := h6
        clear h6 HB k0 k1 k2 k3 k4 k5 HCe
        go_wp2_with fail
        exact ⟨⟨j + 1, by go_num, by omega, H6.out⟩, by simp [intOf]; omega⟩
  case rest =>
    obtain ⟨i8, rfl, H5⟩ := hcut
    obtain ⟨W5, hwf⟩ : ∃ we, we = wc := ⟨_, rfl⟩
    subst hwf
    have hSi := HSI.out us.length (Nat.le_refl _)
    obtain ⟨S, hS⟩ : ∃ s, Hid (s = seqOf (us.take us.length)) := ⟨_, Eq.refl _⟩
    rw [← hS.out] at H5 hSi HSc
    have HI : Hid (Inv S ∧ Size S 40) := ⟨hSi.1, hSi.2.mono hul⟩
    have HO : Hid (∀ W, Touch (fun _ => False) W5 W → ∃ A B, Sq1 w W pa A S ∧ Sq1 w W pb B S ∧ ApartB A B) := fun W t => by
      obtain ⟨A, B, a, b, ab, -⟩ := H5.out.touch t
      exact ⟨A, B, a, b, ab⟩
    have HT5 : Hid (Touch (fun _ => False) w W5) := H5.out.touch0
    obtain ⟨sl, hsl⟩ : ∃ n : Nat, Hid (n = S.units.length) := ⟨_, Eq.refl _⟩
    have hslb : sl ≤ 40 := by
      have h1 := HI.out.1.units_len
      have h2 := HI.out.2.tot
      have h3 := hsl.out
      omega
    have HLn : Hid (∀ W, Touch (fun _ => False) W5 W → Calls Try.prog 20 #[.pointer (some ⟨pa, 0, none⟩)] W fun e w' => e = .returned (.int .i64 (sl : Int)) ∧ Touch (fun _ => False) W w') := fun W t => by
      rw [hsl.out]
      obtain ⟨A, B, a, -, -⟩ := HO.out _ t
      exact a.len
    have HPl : Hid (∀ W, Calls Try.prog 22 #[.int .i64 at0, .int .i64 ((sl : Int) + 1)] W fun e w' => ∃ p : Nat, e = .returned (.int .i64 (p : Int)) ∧ p ≤ sl ∧ w' = W) := fun W => by
      have := placeG_any at0 (sl + 1) (by omega) W hat0.1 hat0.2
      have e : ((sl + 1 : Nat) : Int) = (sl : Int) + 1 := by omega
      rw [e] at this
      refine this.mono ?_
      rintro e2 w' ⟨p, rfl, hp, rfl⟩
      exact ⟨p, rfl, by omega, rfl⟩
    have HPn : Hid (∀ W, Calls Try.prog 22 #[.int .i64 nn0, .int .i64 20] W fun e w' => ∃ p : Nat, e = .returned (.int .i64 (p : Int)) ∧ p < 20 ∧ w' = W) := fun W => placeG_any nn0 20 (by omega) W hnn0.1 hnn0.2
    obtain ⟨cc, hcc⟩ : ∃ c, c = 1 + cl % 1000 := ⟨_, rfl⟩
    have hccb : 1 ≤ cc ∧ cc ≤ 1000 := by omega
    have hcm : cl.tmod 1000 = cl % 1000 := Int.tmod_eq_emod_of_nonneg hcl.1
    have ecc : 1 + cl % 1000 = cc := hcc.symm
    have ecw : IntKind.u64.wrap cc = cc := wrap_u64_small _ (by omega) (by omega)
    have HId : Hid (∀ a b W, Calls Try.prog 15 #[.int .u64 a, .int .u64 b] W fun e w' => e = .returned (.agg #[.int .u64 a, .int .u64 b]) ∧ Touch (fun _ => False) W w') := fun a b W => id_any a b W
    have ew : IntKind.i64.wrap ((sl : Int) + 1) = (sl : Int) + 1 := by rw [IntKind.wrap_i64]; omega
    clear H4 HSI HSt HUok hS hSi HVo H5 hcc
    generalize us.length = nu at *
    go_wp2_with fail
    refine (HLn.out _ (Touch.refl _ _)).mono ?_
    rintro e W6 ⟨rfl, t6⟩
    have HT6 : Hid (Touch (fun _ => False) W5 W6) := t6
    clear t6
    go_wp2_with fail
    refine (HPl.out _).mono ?_
    rintro e W7 ⟨p, rfl, hp, hw7⟩
    rw [hw7]
    clear hw7 HPl ew
    go_wp2_with fail
    refine (HPn.out _).mono ?_
    rintro e W7 ⟨pn, rfl, hpn, hw7⟩
    rw [hw7]
    clear hw7 HPn
    obtain ⟨n, hn⟩ : ∃ n : Nat, Hid (n = 1 + pn) := ⟨_, Eq.refl _⟩
    have hnb : 1 ≤ n ∧ n ≤ 20 := by have := hn.out; omega
    have en : (1 : Int) + (pn : Int) = (n : Int) := by have := hn.out; omega
    go_upto_region 13 with fail
    try rw [en]
    clear en hn hpn
    go_cut [13] (fun t wx => ∃ m, t = .pointer (some ⟨m, 0, none⟩) ∧ Hid (Touch (fun _ => False) W5 wx ∧ W5.heap.size ≤ m ∧ wx.heap[m]? = some (unO ⟨cc, 1000, 0, 0, 0, 0⟩)))
    case first =>
      go_wp2_with fail
      refine (HId.out _ _ _).mono ?_
      rintro e W8 ⟨rfl, t8⟩
      have HT8 : Hid (Touch (fun _ => False) W5 W8) := HT6.out.trans t8
      clear t8
      go_wp2_with fail
      go_meet
      case rel => exact ⟨_, rfl, HT8.out.alloc _, HT8.out.size, heap_alloc_new _ _⟩
    case rest =>
      obtain ⟨m, rfl, H8⟩ := hcut
      obtain ⟨X1, hwf⟩ : ∃ we, we = wc := ⟨_, rfl⟩
      subst hwf
      clear HT6 ecw ecc hcm
      have HMs : Hid (W5.heap.size ≤ m) := H8.out.2.1
      have HAt : Hid (∀ (i : Int) W, -10 ≤ i ∧ i ≤ 1000 → Touch (fun _ => False) W5 W → Calls Try.prog 21 #[.pointer (some ⟨pa, 0, none⟩), .int .i64 i] W fun e w' => e = .returned (.tuple #[.agg #[.int .u64 ((S.at_ i).1).c, .int .u64 ((S.at_ i).1).k, .int .u64 ((S.at_ i).1).lc, .int .u64 ((S.at_ i).1).lk, .int .u64 ((S.at_ i).1).rc, .int .u64 ((S.at_ i).1).rk], .bool (S.at_ i).2]) ∧ Touch (fun _ => False) W w') := fun i W hi t => by
        obtain ⟨A, B, a, -, -⟩ := HO.out _ t
        exact a.at' i (by omega)
      obtain ⟨U, hU⟩ : ∃ u, Hid (u = btU S cc 1000 p) := ⟨_, Eq.refl _⟩
      have HRA : Hid (RunA S (S.run (btU S cc 1000 p) n) ((S.run (btU S cc 1000 p) n).run tpU 2) (btU S cc 1000 p) p n) := RunA.mk' HI.out.1 HI.out.2 hccb (by omega) (fun v hv => by have := HSc.out v hv; omega) (by have := hsl.out; omega) hnb
      have HStp : Hid (∀ T i, RnI S T (btU S cc 1000 p) p i → i ≤ 100 → (runUn (btU S cc 1000 p) i).ok ∧ T.may (runUn (btU S cc 1000 p) i) 1 = true ∧ RnI S (T.run (runUn (btU S cc 1000 p) i) 1) (btU S cc 1000 p) p (i + 1)) := fun T i h hi => RnI.step HI.out.1 hccb (by omega) (fun v hv => by have := HSc.out v hv; omega) (by have := hsl.out; omega) h hi
      have HUk : Hid ((btU S cc 1000 p).ok) := btU_ok HI.out.1 cc 1000 hccb.1 (by omega) p
      have HRz0 : Hid (RnI S S (btU S cc 1000 p) p 0) := RnI.zero HI.out.1 HI.out.2
      rw [← hU.out] at HRA HStp HUk HRz0
      obtain ⟨L, hL⟩ : ∃ u, Hid (u = (S.at_ ((p : Int) - 1)).1) := ⟨_, Eq.refl _⟩
      obtain ⟨lb, hlb⟩ : ∃ u, Hid (u = (S.at_ ((p : Int) - 1)).2) := ⟨_, Eq.refl _⟩
      obtain ⟨R, hR⟩ : ∃ u, Hid (u = (S.at_ (p : Int)).1) := ⟨_, Eq.refl _⟩
      obtain ⟨rb, hrb⟩ : ∃ u, Hid (u = (S.at_ (p : Int)).2) := ⟨_, Eq.refl _⟩
      have hA1 := HAt.out ((p : Int) - 1)
      have hA2 := HAt.out (p : Int)
      rw [← hL.out, ← hlb.out] at hA1
      rw [← hR.out, ← hrb.out] at hA2
      have HA1 : Hid (∀ W, Touch (fun _ => False) W5 W → Calls Try.prog 21 #[.pointer (some ⟨pa, 0, none⟩), .int .i64 ((p : Int) - 1)] W fun e w' => e = .returned (.tuple #[.agg #[.int .u64 L.c, .int .u64 L.k, .int .u64 L.lc, .int .u64 L.lk, .int .u64 L.rc, .int .u64 L.rk], .bool lb]) ∧ Touch (fun _ => False) W w') := fun W t => hA1 W (by omega) t
      have HA2 : Hid (∀ W, Touch (fun _ => False) W5 W → Calls Try.prog 21 #[.pointer (some ⟨pa, 0, none⟩), .int .i64 (p : Int)] W fun e w' => e = .returned (.tuple #[.agg #[.int .u64 R.c, .int .u64 R.k, .int .u64 R.lc, .int .u64 R.lk, .int .u64 R.rc, .int .u64 R.rk], .bool rb]) ∧ Touch (fun _ => False) W w') := fun W t => hA2 W (by omega) t
      have HLz : Hid (lb = false → L = .zero) := fun e => by
        rw [hL.out]; exact at_no HI.out.1 _ (by rw [← hlb.out]; exact e)
      have HRz : Hid (rb = false → R = .zero) := fun e => by
        rw [hR.out]; exact at_no HI.out.1 _ (by rw [← hrb.out]; exact e)
      have HUe : Hid (U = ⟨cc, 1000, L.c, L.k, R.c, R.k⟩) := by
        show U = _
        rw [hU.out, hL.out, hR.out]; rfl
      have ew : IntKind.i64.wrap ((p : Int) - 1) = (p : Int) - 1 := by rw [IntKind.wrap_i64]; omega
      clear hA1 hA2 hL hR hlb hrb HAt hU HSc
      go_wp2_with fail
      refine (HA1.out _ H8.out.1).mono ?_
      rintro e W9 ⟨rfl, t9⟩
      have H9 : Hid (Touch (fun _ => False) W5 (W9.alloc (unO L)) ∧ (W9.alloc (unO L)).heap[m]? = some (unO ⟨cc, 1000, 0, 0, 0, 0⟩) ∧ (W9.alloc (unO L)).heap[W9.heap.size]? = some (unO L)) := ⟨(H8.out.1.trans t9).alloc _, heap_keep (t9.alloc _) H8.out.2.2, heap_alloc_new _ _⟩
      clear t9 HA1 H8 ew
      go_upto_if 71 with fail
      obtain ⟨X2, hX2⟩ : ∃ X, Hid (X = W9.alloc (unO L)) := ⟨_, Eq.refl _⟩
      rw [← hX2.out] at H9 ⊢
      clear hX2
      generalize W9.heap.size = m1 at *
      go_cut [13] (fun t wx => t = .pointer (some ⟨m, 0, none⟩) ∧ Hid (Touch (fun _ => False) W5 wx ∧ wx.heap[m]? = some (unO ⟨cc, 1000, L.c, L.k, 0, 0⟩)))
      case first =>
        clear HRA HStp HUk HRz0 HA2 HRz HUe
        cases lb with
        | true =>
          obtain ⟨q0, q1, -, -, -, -⟩ := unO_cells H9.out.2.2
          obtain ⟨-, -, p2, p3, -, -⟩ := unO_cells H9.out.2.1
          have z2 : X2.frozen? ⟨m, 2, none⟩ = false := free_of_block H9.out.2.1
          have z3 : X2.frozen? ⟨m, 3, none⟩ = false := free_of_block H9.out.2.1
          have s3 := heap_setCell_same X2 m 2 (.int .u64 L.c) H9.out.2.1
          have p3' : (X2.setCell ⟨m, 2, none⟩ (.int .u64 L.c)).cell? ⟨m, 3, none⟩ = some (.int .u64 0) := by rw [cell_of_block s3]; rfl
          have z3' : (X2.setCell ⟨m, 2, none⟩ (.int .u64 L.c)).frozen? ⟨m, 3, none⟩ = false := free_of_block s3
          have HS : Hid (Touch (fun _ => False) W5 ((X2.setCell ⟨m, 2, none⟩ (.int .u64 L.c)).setCell ⟨m, 3, none⟩ (.int .u64 L.k)) ∧ ((X2.setCell ⟨m, 2, none⟩ (.int .u64 L.c)).setCell ⟨m, 3, none⟩ (.int .u64 L.k)).heap[m]? = some (unO ⟨cc, 1000, L.c, L.k, 0, 0⟩)) := ⟨(H9.out.1.fresh _ _ _ HMs.out).fresh _ _ _ HMs.out, unO_set2 H9.out.2.1 _ _⟩
          clear s3 HLz
          go_wp2_with fail
          go_meet
          case rel => exact ⟨rfl, HS.out⟩
        | false =>
          have HZ : Hid (L = .zero) := HLz.out rfl
          clear HLz
          go_wp2_with fail
          go_meet
          case rel => exact ⟨rfl, H9.out.1, by rw [HZ.out]; exact H9.out.2.1⟩
      case rest =>
        obtain ⟨rfl, H10⟩ := hcut
        obtain ⟨X3, hwf⟩ : ∃ we, we = wc := ⟨_, rfl⟩
        subst hwf
        clear H9 HLz
        go_wp2_with fail
        refine (HA2.out _ H10.out.1).mono ?_
        rintro e W11 ⟨rfl, t11⟩
        have H11 : Hid (Touch (fun _ => False) W5 (W11.alloc (unO R)) ∧ (W11.alloc (unO R)).heap[m]? = some (unO ⟨cc, 1000, L.c, L.k, 0, 0⟩) ∧ (W11.alloc (unO R)).heap[W11.heap.size]? = some (unO R)) := ⟨(H10.out.1.trans t11).alloc _, heap_keep (t11.alloc _) H10.out.2, heap_alloc_new _ _⟩
        clear t11 HA2 H10
        go_upto_if 81 with fail
        obtain ⟨X4, hX4⟩ : ∃ X, Hid (X = W11.alloc (unO R)) := ⟨_, Eq.refl _⟩
        rw [← hX4.out] at H11 ⊢
        clear hX4
        generalize W11.heap.size = m2 at *
        go_cut [13] (fun t wx => t = .pointer (some ⟨m, 0, none⟩) ∧ Hid (Touch (fun _ => False) W5 wx ∧ wx.heap[m]? = some (unO ⟨cc, 1000, L.c, L.k, R.c, R.k⟩)))
        case first =>
          clear HRA HStp HUk HRz0 HUe
          cases rb with
          | true =>
            obtain ⟨q0, q1, -, -, -, -⟩ := unO_cells H11.out.2.2
            obtain ⟨-, -, -, -, p4, p5⟩ := unO_cells H11.out.2.1
            have z4 : X4.frozen? ⟨m, 4, none⟩ = false := free_of_block H11.out.2.1
            have z5 : X4.frozen? ⟨m, 5, none⟩ = false := free_of_block H11.out.2.1
            have s4 := heap_setCell_same X4 m 4 (.int .u64 R.c) H11.out.2.1
            have p5' : (X4.setCell ⟨m, 4, none⟩ (.int .u64 R.c)).cell? ⟨m, 5, none⟩ = some (.int .u64 0) := by rw [cell_of_block s4]; rfl
            have z5' : (X4.setCell ⟨m, 4, none⟩ (.int .u64 R.c)).frozen? ⟨m, 5, none⟩ = false := free_of_block s4
            have HS : Hid (Touch (fun _ => False) W5 ((X4.setCell ⟨m, 4, none⟩ (.int .u64 R.c)).setCell ⟨m, 5, none⟩ (.int .u64 R.k)) ∧ ((X4.setCell ⟨m, 4, none⟩ (.int .u64 R.c)).setCell ⟨m, 5, none⟩ (.int .u64 R.k)).heap[m]? = some (unO ⟨cc, 1000, L.c, L.k, R.c, R.k⟩)) := ⟨(H11.out.1.fresh _ _ _ HMs.out).fresh _ _ _ HMs.out, unO_set4 H11.out.2.1 _ _⟩
            clear s4 HRz
            go_wp2_with fail
            go_meet
            case rel => exact ⟨rfl, HS.out⟩
          | false =>
            have HZ : Hid (R = .zero) := HRz.out rfl
            clear HRz
            go_wp2_with fail
            go_meet
            case rel => exact ⟨rfl, H11.out.1, by rw [HZ.out]; exact H11.out.2.1⟩
        case rest =>
          obtain ⟨rfl, H12⟩ := hcut
          obtain ⟨X5, hwf⟩ : ∃ we, we = wc := ⟨_, rfl⟩
          subst hwf
          have HU : Hid (U = ⟨cc, 1000, L.c, L.k, R.c, R.k⟩) := HUe.out
          have HTB : Hid (TwoB w X5 pa pb m S S U) := by
            obtain ⟨A, B, a, b, ab⟩ := HO.out _ H12.out.1
            exact ⟨HT5.out.trans H12.out.1, Nat.le_trans HT5.out.size HMs.out, by rw [HU.out]; exact H12.out.2, A, B, a, b, ab⟩
          clear HUe HRz H11 HO H12 HMs
          obtain ⟨A1, hA1⟩ : ∃ s, Hid (s = S.run U n) := ⟨_, Eq.refl _⟩
          obtain ⟨A2, hA2⟩ : ∃ s, Hid (s = (S.run U n).run tpU 2) := ⟨_, Eq.refl _⟩
          rw [← hA2.out, ← hA1.out] at HRA
          have HL0 : Hid (Calls Try.prog 20 #[.pointer (some ⟨pa, 0, none⟩)] X5 fun e w' => e = .returned (.int .i64 (sl : Int)) ∧ Touch (fun _ => False) X5 w') := by
            have := HTB.out.lenA
            rw [← hsl.out] at this
            exact this
          have HL1 : Hid (∀ W, TwoB w W pa pb m S S U → Calls Try.prog 20 #[.pointer (some ⟨pa, 0, none⟩)] W fun e w' => e = .returned (.int .i64 (sl : Int)) ∧ TwoB w w' pa pb m S S U) := fun W h => by
            have := h.lenA
            rw [← hsl.out] at this
            exact this.mono (by rintro e w' ⟨rfl, t⟩; exact ⟨rfl, h.touch t⟩)
          have HR0 : Hid (∀ W, TwoB w W pa pb m S S U → Calls Try.prog 11 #[.pointer (some ⟨pa, 0, none⟩), .agg #[.int .u64 U.c, .int .u64 U.k, .int .u64 U.lc, .int .u64 U.lk, .int .u64 U.rc, .int .u64 U.rk], .int .i64 0] W fun e w' => e = .returned (.bool false) ∧ TwoB w w' pa pb m S S U) := fun W h => by
            have := h.runA U HUk.out 0 (by omega) HI.out.2 (by omega)
            rw [(run_low (S := S) (u := U) (n := 0) (by omega)).1, (run_low (S := S) (u := U) (n := 0) (by omega)).2] at this
            exact this
          have HRm : Hid (∀ W, TwoB w W pa pb m S S U → Calls Try.prog 11 #[.pointer (some ⟨pa, 0, none⟩), .agg #[.int .u64 U.c, .int .u64 U.k, .int .u64 U.lc, .int .u64 U.lk, .int .u64 U.rc, .int .u64 U.rk], .int .i64 (-1)] W fun e w' => e = .returned (.bool false) ∧ TwoB w w' pa pb m S S U) := fun W h => by
            have := h.runA U HUk.out (-1) (by omega) HI.out.2 (by omega)
            rw [(run_low (S := S) (u := U) (n := -1) (by omega)).1, (run_low (S := S) (u := U) (n := -1) (by omega)).2] at this
            exact this
          have HRn : Hid (∀ W, TwoB w W pa pb m S S U → Calls Try.prog 11 #[.pointer (some ⟨pa, 0, none⟩), .agg #[.int .u64 U.c, .int .u64 U.k, .int .u64 U.lc, .int .u64 U.lk, .int .u64 U.rc, .int .u64 U.rk], .int .i64 (n : Int)] W fun e w' => e = .returned (.bool true) ∧ TwoB w w' pa pb m A1 S U) := fun W h => by
            have := h.runA U HUk.out (n : Int) (by omega) HI.out.2 (by omega)
            rw [HRA.out.may1, ← HRA.out.run1] at this
            exact this
          have HR1 : Hid (∀ W, TwoB w W pa pb m A1 S U → Calls Try.prog 11 #[.pointer (some ⟨pa, 0, none⟩), .agg #[.int .u64 U.c, .int .u64 U.k, .int .u64 U.lc, .int .u64 U.lk, .int .u64 U.rc, .int .u64 U.rk], .int .i64 1] W fun e w' => e = .returned (.bool false) ∧ TwoB w w' pa pb m A1 S U) := fun W h => by
            have := h.runA U HUk.out 1 (by omega) HRA.out.size1 (by omega)
            rw [HRA.out.again, run_not HRA.out.again] at this
            exact this
          have HCl : Hid (∀ W Sa Sb v, TwoB w W pa pb m Sa Sb v → W.heap[m]? = some (unO v)) := fun W Sa Sb v h => h.2.2.1
          clear hA1 hA2 HLn HT5
          rw [HU.out] at HL1 HR0 HRm HRn HR1
          simp only at HR0 HRm HRn HR1
          go_wp2_with fail
          refine HL0.out.mono ?_
          rintro e Y0 ⟨rfl, t0⟩
          have HY0 : Hid (TwoB w Y0 pa pb m S S U) := HTB.out.touch t0
          clear t0 HL0 HTB
          rw [HU.out] at HY0
          obtain ⟨q0, q1, q2, q3, q4, q5⟩ := unO_cells (HCl.out _ _ _ _ HY0.out)
          simp only at q0 q1 q2 q3 q4 q5
          go_wp2_with fail
          refine (HR0.out _ HY0.out).mono ?_
          rintro e Y1 ⟨rfl, h1⟩
          have HY1 : Hid (TwoB w Y1 pa pb m S S ⟨cc, 1000, L.c, L.k, R.c, R.k⟩) := h1
          clear h1 HY0 HR0 q0 q1 q2 q3 q4 q5
          obtain ⟨q0, q1, q2, q3, q4, q5⟩ := unO_cells (HCl.out _ _ _ _ HY1.out)
          simp only at q0 q1 q2 q3 q4 q5
          go_wp2_with fail
          refine (HRm.out _ HY1.out).mono ?_
          rintro e Y2 ⟨rfl, h2⟩
          have HY2 : Hid (TwoB w Y2 pa pb m S S ⟨cc, 1000, L.c, L.k, R.c, R.k⟩) := h2
          clear h2 HY1 HRm q0 q1 q2 q3 q4 q5
          go_wp2_with fail
          refine (HL1.out _ HY2.out).mono ?_
          rintro e Y3 ⟨rfl, h3⟩
          have HY3 : Hid (TwoB w Y3 pa pb m S S ⟨cc, 1000, L.c, L.k, R.c, R.k⟩) := h3
          clear h3 HY2 HL1
          obtain ⟨q0, q1, q2, q3, q4, q5⟩ := unO_cells (HCl.out _ _ _ _ HY3.out)
          simp only at q0 q1 q2 q3 q4 q5
          go_wp2_with fail
          refine (HRn.out _ HY3.out).mono ?_
          rintro e Y4 ⟨rfl, h4⟩
          have HY4 : Hid (TwoB w Y4 pa pb m A1 S ⟨cc, 1000, L.c, L.k, R.c, R.k⟩) := h4
          clear h4 HY3 HRn q0 q1 q2 q3 q4 q5
          obtain ⟨q0, q1, q2, q3, q4, q5⟩ := unO_cells (HCl.out _ _ _ _ HY4.out)
          simp only at q0 q1 q2 q3 q4 q5
          go_wp2_with fail
          refine (HR1.out _ HY4.out).mono ?_
          rintro e Y5 ⟨rfl, h5⟩
          have HY5 : Hid (TwoB w Y5 pa pb m A1 S U) := by
            show TwoB w Y5 pa pb m A1 S U
            rw [HU.out]; exact h5
          clear h5 HY4 HR1 q0 q1 q2 q3 q4 q5
          go_upto_block 2 with fail
          go_cut [19] (fun t wx => ∃ i T u, t = .int .i64 i ∧ Hid (RnI S T U p n ∧ TwoB w wx pa pb m A1 T u))
          case first =>
            go_wp2_with fail
            go_loopw [19] (fun v wr => ∃ (i : Nat) (T : SS), v = .int .i64 (i : Int) ∧ i ≤ n ∧ Hid (RnI S T U p i ∧ TwoB w wr pa pb m A1 T (runUn U i))) (fun v _ => (n - intOf v).toNat)
            case atStart => exact ⟨0, S, rfl, Nat.zero_le _, HRz0.out, HY5.out⟩
            case round =>
              obtain ⟨i, T, rfl, hi, HJ⟩ := hrel
              clear HY5 HRz0
              by_cases hlt : i < n
              rotate_left
              · have hin : i = n := by omega
                subst hin
                go_wp2_with fail
                go_meet
                case rel => exact ⟨_, T, _, rfl, HJ.out⟩
              · have l0 : (i : Int) < (n : Int) := by omega
                have hib : i ≤ 20 := by omega
                obtain ⟨su, sm, sr⟩ := HStp.out T i HJ.out.1 (by omega)
                obtain ⟨e1, e2, e3, e4⟩ := runUn_c U i
                have eUc : U.c = cc := by rw [HU.out]
                have eUk : U.k = 1000 := by rw [HU.out]
                rw [eUc] at e1
                rw [eUk] at e2
                obtain ⟨T', hT'⟩ : ∃ s, Hid (s = T.run (runUn U i) 1) := ⟨_, Eq.refl _⟩
                have HIn : Hid (∀ W, TwoB w W pa pb m A1 T (runUn U i) → Calls Try.prog 14 #[.pointer (some ⟨pb, 0, none⟩), .agg #[.int .u64 (runUn U i).c, .int .u64 (runUn U i).k, .int .u64 (runUn U i).lc, .int .u64 (runUn U i).lk, .int .u64 (runUn U i).rc, .int .u64 (runUn U i).rk]] W fun e w' => e = .returned (.bool true) ∧ TwoB w w' pa pb m A1 T' (runUn U i)) := fun W h => by
                  have := h.insB (runUn U i) su HJ.out.1.size (by omega)
                  rw [sm, ← hT'.out] at this
                  exact this
                have HFi : Hid (∀ W, TwoB w W pa pb m A1 T (runUn U i) → Calls Try.prog 19 #[.pointer (some ⟨pa, 0, none⟩), .agg #[.int .u64 cc, .int .u64 (1000 + (i : Int))]] W fun e w' => e = .returned (.int .i64 ((p : Int) + (i : Int))) ∧ TwoB w w' pa pb m A1 T (runUn U i)) := fun W h => by
                  have h1 := h.findA cc (1000 + (i : Int)) (by omega) (by omega) (by omega)
                  have h2 := HRA.out.find1 i hlt
                  rw [eUc, eUk] at h2
                  have h3 : ((p + i : Nat) : Int) = (p : Int) + (i : Int) := by omega
                  rw [h3] at h2
                  rw [h2] at h1
                  exact h1.mono (by rintro e w' ⟨rfl, t⟩; exact ⟨rfl, h.touch t⟩)
                have HRI : Hid (RnI S T' U p (i + 1)) := by
                  show RnI S T' U p (i + 1)
                  rw [hT'.out]; exact sr
                have HNx : Hid (runUn U (i + 1) = ⟨cc, 1000 + (i : Int) + 1, cc, 1000 + (i : Int), (runUn U i).rc, (runUn U i).rk⟩) := by
                  show runUn U (i + 1) = _
                  rw [e3, e4]
                  unfold runUn
                  have h1 : (1000 : Int) + ((i + 1 : Nat) : Int) = 1000 + (i : Int) + 1 := by omega
                  have h2 : (1000 : Int) + (i : Int) + 1 - 1 = 1000 + (i : Int) := by omega
                  rw [if_neg (by omega), eUc, eUk, h1, h2]
                have HJ2 : Hid (TwoB w wr pa pb m A1 T (runUn U i)) := HJ.out.2
                clear su sm sr hT' HJ HStp HRA eUc eUk e3 e4
                obtain ⟨V, hV⟩ : ∃ v, Hid (v = runUn U i) := ⟨_, Eq.refl _⟩
                rw [← hV.out] at HIn HFi HNx HJ2 e1 e2
                obtain ⟨vc, vk, vlc, vlk, vrc, vrk⟩ := V
                simp only at HIn HFi HNx e1 e2
                subst e1
                subst e2
                clear hV
                have ew1 : IntKind.u64.wrap (i : Int) = (i : Int) := wrap_u64_small _ (by omega) (by omega)
                have ew2 : IntKind.u64.wrap (1000 + (i : Int)) = 1000 + (i : Int) := wrap_u64_small _ (by omega) (by omega)
                have ew3 : IntKind.i64.wrap ((p : Int) + (i : Int)) = (p : Int) + (i : Int) := by rw [IntKind.wrap_i64]; omega
                have ew4 : IntKind.u64.wrap (1000 + (i : Int) + 1) = 1000 + (i : Int) + 1 := wrap_u64_small _ (by omega) (by omega)
                obtain ⟨q0, -, -, -, -, -⟩ := unO_cells (HCl.out _ _ _ _ HJ2.out)
                go_wp2_with fail
                refine (HId.out _ _ _).mono ?_
                rintro e Z1 ⟨rfl, t1⟩
                have HZ1 : Hid (TwoB w Z1 pa pb m A1 T ⟨vc, 1000 + (i : Int), vlc, vlk, vrc, vrk⟩) := HJ2.out.touch t1
                clear t1 HJ2 q0
                go_wp2_with fail
                refine (HFi.out _ HZ1.out).mono ?_
                rintro e Z2 ⟨rfl, h2⟩
                have HZ2 : Hid (TwoB w Z2 pa pb m A1 T ⟨vc, 1000 + (i : Int), vlc, vlk, vrc, vrk⟩) := h2
                clear h2 HZ1 HFi
                obtain ⟨q0, q1, q2, q3, q4, q5⟩ := unO_cells (HCl.out _ _ _ _ HZ2.out)
                simp only at q0 q1 q2 q3 q4 q5
                go_wp2_with fail
                refine (HIn.out _ HZ2.out).mono ?_
                rintro e Z3 ⟨rfl, h3⟩
                have HZ3 : Hid (TwoB w Z3 pa pb m A1 T' ⟨vc, 1000 + (i : Int), vlc, vlk, vrc, vrk⟩) := h3
                clear h3 HZ2 HIn q0 q1 q2 q3 q4 q5
                have HB3 : Hid (Z3.heap[m]? = some (unO ⟨vc, 1000 + (i : Int), vlc, vlk, vrc, vrk⟩)) := HCl.out _ _ _ _ HZ3.out
                obtain ⟨q0, q1, q2, q3, -, -⟩ := unO_cells HB3.out
                simp only at q0 q1 q2 q3
                have z1 : Z3.frozen? ⟨m, 1, none⟩ = false := free_of_block HB3.out
                have z2 : Z3.frozen? ⟨m, 2, none⟩ = false := free_of_block HB3.out
                have s2 := heap_setCell_same Z3 m 2 (.int .u64 vc) HB3.out
                have z3 : (Z3.setCell ⟨m, 2, none⟩ (.int .u64 vc)).frozen? ⟨m, 3, none⟩ = false := free_of_block s2
                have p3 : (Z3.setCell ⟨m, 2, none⟩ (.int .u64 vc)).cell? ⟨m, 3, none⟩ = some (.int .u64 vlk) := by rw [cell_of_block s2]; rfl
                have s3 := unO_set2 HB3.out vc (1000 + (i : Int))
                have p1 : ((Z3.setCell ⟨m, 2, none⟩ (.int .u64 vc)).setCell ⟨m, 3, none⟩ (.int .u64 (1000 + (i : Int)))).cell? ⟨m, 1, none⟩ = some (.int .u64 (1000 + (i : Int))) := (unO_cells s3).2.1
                have z4 : ((Z3.setCell ⟨m, 2, none⟩ (.int .u64 vc)).setCell ⟨m, 3, none⟩ (.int .u64 (1000 + (i : Int)))).frozen? ⟨m, 1, none⟩ = false := free_of_block s3
                have HFin : Hid (TwoB w (((Z3.setCell ⟨m, 2, none⟩ (.int .u64 vc)).setCell ⟨m, 3, none⟩ (.int .u64 (1000 + (i : Int)))).setCell ⟨m, 1, none⟩ (.int .u64 (1000 + (i : Int) + 1))) pa pb m A1 T' (runUn U (i + 1))) := by
                  refine HZ3.out.set ((((Touch.refl (fun y => y = m) Z3).setCell ⟨m, 2, none⟩ _ (fun _ => rfl)).setCell ⟨m, 3, none⟩ _ (fun _ => rfl)).setCell ⟨m, 1, none⟩ _ (fun _ => rfl)) ?_
                  rw [HNx.out]
                  exact heap_setCell_same _ _ _ _ s3
                clear s2 s3 HZ3 HB3
                go_wp2_with fail
                exact ⟨⟨i + 1, T', by go_num, by omega, HRI.out, HFin.out⟩, by simp [intOf]; omega⟩
          case rest =>
            obtain ⟨i19, T, uu, rfl, H6⟩ := hcut
            obtain ⟨Y6, hwf⟩ : ∃ we, we = wc := ⟨_, rfl⟩
            subst hwf
            clear HY5 HRz0 HStp
            have HBx : Hid (∀ W, Touch (fun _ => False) Y6 W → TwoB w (W.alloc (unO tpU)) pa pb W.heap.size A1 T tpU) := fun W t => (H6.out.2.touch t).box tpU
            have HRt : Hid (RnI S T U p n) := H6.out.1
            clear H6
            go_wp2_with fail
            refine (HId.out _ _ _).mono ?_
            rintro e Y7 ⟨rfl, t7⟩
            have HY7 : Hid (TwoB w (Y7.alloc (unO tpU)) pa pb Y7.heap.size A1 T tpU) := HBx.out _ t7
            clear t7 HBx
            go_upto_region 31 with fail
            obtain ⟨Y8, hY8⟩ : ∃ X, Hid (X = Y7.alloc (unO tpU)) := ⟨_, Eq.refl _⟩
            rw [← hY8.out] at HY7
            have eY : Y7.alloc (unO ⟨5, 9007199254740990, 0, 0, 0, 0⟩) = Y8 := hY8.out.symm
            rw [eY]
            clear hY8 eY
            generalize Y7.heap.size = m2 at *
            have HCl2 : Hid (∀ W Sa Sb, TwoB w W pa pb m2 Sa Sb tpU → W.cell? ⟨m2, 0, none⟩ = some (.int .u64 5) ∧ W.cell? ⟨m2, 1, none⟩ = some (.int .u64 9007199254740990) ∧ W.cell? ⟨m2, 2, none⟩ = some (.int .u64 0) ∧ W.cell? ⟨m2, 3, none⟩ = some (.int .u64 0) ∧ W.cell? ⟨m2, 4, none⟩ = some (.int .u64 0) ∧ W.cell? ⟨m2, 5, none⟩ = some (.int .u64 0)) := fun W Sa Sb h => unO_cells h.2.2.1
            have HR3 : Hid (∀ W, TwoB w W pa pb m2 A1 T tpU → Calls Try.prog 11 #[.pointer (some ⟨pa, 0, none⟩), .agg #[.int .u64 5, .int .u64 9007199254740990, .int .u64 0, .int .u64 0, .int .u64 0, .int .u64 0], .int .i64 3] W fun e w' => e = .returned (.bool false) ∧ TwoB w w' pa pb m2 A1 T tpU) := fun W h => by
              have := h.runA tpU tpU_ok 3 (by omega) HRA.out.size1 (by omega)
              rw [tpU_three, run_not (tpU_three A1)] at this
              exact this
            have HFt : Hid (∀ W, TwoB w W pa pb m2 A1 T tpU → Calls Try.prog 19 #[.pointer (some ⟨pa, 0, none⟩), .agg #[.int .u64 5, .int .u64 9007199254740990]] W fun e w' => e = .returned (.int .i64 (-1)) ∧ TwoB w w' pa pb m2 A1 T tpU) := fun W h => by
              have h1 := h.findA 5 9007199254740990 (by omega) (by omega) (by omega)
              rw [HRA.out.notop] at h1
              exact h1.mono (by rintro e w' ⟨rfl, t⟩; exact ⟨rfl, h.touch t⟩)
            have HR2 : Hid (∀ W, TwoB w W pa pb m2 A1 T tpU → Calls Try.prog 11 #[.pointer (some ⟨pa, 0, none⟩), .agg #[.int .u64 5, .int .u64 9007199254740990, .int .u64 0, .int .u64 0, .int .u64 0, .int .u64 0], .int .i64 2] W fun e w' => e = .returned (.bool true) ∧ TwoB w w' pa pb m2 A2 T tpU) := fun W h => by
              have := h.runA tpU tpU_ok 2 (by omega) HRA.out.size1 (by omega)
              rw [HRA.out.may2, ← HRA.out.run2] at this
              exact this
            have HRg : Hid (∀ W, Calls Try.prog 24 #[.agg #[.int .u64 5, .int .u64 9007199254740992]] W fun e w' => e = .returned (.bool false) ∧ Touch (fun _ => False) W w') := fun W => (rRight_any 5 9007199254740992 W).mono (by rintro e w2 ⟨rfl, rfl⟩; exact ⟨rfl, (Touch.refl _ _).alloc _⟩)
            have e99 : ¬ (0 : Int) ≤ -1 := by omega
            obtain ⟨q0, q1, q2, q3, q4, q5⟩ := HCl2.out _ _ _ HY7.out
            go_wp2_with fail
            refine (HR3.out _ HY7.out).mono ?_
            rintro e Z1 ⟨rfl, h1⟩
            have HZ1 : Hid (TwoB w Z1 pa pb m2 A1 T tpU) := h1
            clear h1 HY7 HR3 q0 q1 q2 q3 q4 q5
            obtain ⟨q0, q1, -, -, -, -⟩ := HCl2.out _ _ _ HZ1.out
            go_wp2_with fail
            refine (HFt.out _ HZ1.out).mono ?_
            rintro e Z2 ⟨rfl, h2⟩
            have HZ2 : Hid (TwoB w Z2 pa pb m2 A1 T tpU) := h2
            clear h2 HZ1 HFt q0 q1
            obtain ⟨q0, q1, q2, q3, q4, q5⟩ := HCl2.out _ _ _ HZ2.out
            go_wp2_with fail
            refine (HR2.out _ HZ2.out).mono ?_
            rintro e Z3 ⟨rfl, h3⟩
            have HZ3 : Hid (TwoB w Z3 pa pb m2 A2 T tpU) := h3
            clear h3 HZ2 HR2 q0 q1 q2 q3 q4 q5 HCl2
            go_wp2_with fail
            refine (HId.out _ _ _).mono ?_
            rintro e Z4 ⟨rfl, t4⟩
            have HZ4 : Hid (TwoB w Z4 pa pb m2 A2 T tpU) := HZ3.out.touch t4
            clear t4 HZ3
            go_wp2_with fail
            refine (HRg.out _).mono ?_
            rintro e Z5 ⟨rfl, t5⟩
            have HZ5 : Hid (TwoB w Z5 pa pb m2 A2 T tpU) := HZ4.out.touch t5
            clear t5 HZ4 HRg
            obtain ⟨bl, hbl⟩ : ∃ n : Nat, Hid (n = T.units.length) := ⟨_, Eq.refl _⟩
            have hble : Hid (bl = sl + n) := by
              have h1 := hbl.out
              have h2 := HRt.out.units
              have h3 := hsl.out
              show bl = sl + n
              rw [h1, h2, List.length_append, List.length_append, runUns_len, List.length_take, List.length_drop]
              omega
            have hblb : bl ≤ 100 := by
              have := hble.out
              omega
            have HLb : Hid (∀ W, TwoB w W pa pb m2 A2 T tpU → Calls Try.prog 20 #[.pointer (some ⟨pb, 0, none⟩)] W fun e w' => e = .returned (.int .i64 (bl : Int)) ∧ TwoB w w' pa pb m2 A2 T tpU) := fun W h => by
              have := h.lenB
              rw [← hbl.out] at this
              exact this.mono (by rintro e w' ⟨rfl, t⟩; exact ⟨rfl, h.touch t⟩)
            have HLa : Hid (∀ W, TwoB w W pa pb m2 A2 T tpU → Calls Try.prog 20 #[.pointer (some ⟨pa, 0, none⟩)] W fun e w' => e = .returned (.int .i64 ((bl : Int) + 2)) ∧ TwoB w w' pa pb m2 A2 T tpU) := fun W h => by
              have h1 := h.lenA
              have h2 := HRA.out.len
              have h3 := hble.out
              have h4 := hsl.out
              have h5 : (A2.units.length : Int) = (bl : Int) + 2 := by omega
              rw [h5] at h1
              exact h1.mono (by rintro e w' ⟨rfl, t⟩; exact ⟨rfl, h.touch t⟩)
            have HX : Hid (∀ j, j < bl → ∃ (v : Un) (f : Int), 0 ≤ f ∧ (∀ W, TwoB w W pa pb m2 A2 T tpU → Calls Try.prog 21 #[.pointer (some ⟨pb, 0, none⟩), .int .i64 (j : Int)] W fun e w' => e = .returned (.tuple #[.agg #[.int .u64 v.c, .int .u64 v.k, .int .u64 v.lc, .int .u64 v.lk, .int .u64 v.rc, .int .u64 v.rk], .bool true]) ∧ TwoB w w' pa pb m2 A2 T tpU) ∧ ∀ W, TwoB w W pa pb m2 A2 T tpU → Calls Try.prog 19 #[.pointer (some ⟨pa, 0, none⟩), .agg #[.int .u64 v.c, .int .u64 v.k]] W fun e w' => e = .returned (.int .i64 f) ∧ TwoB w w' pa pb m2 A2 T tpU) := fun j hj => by
              have hj' : j < T.units.length := by rw [← hbl.out]; exact hj
              have hat := HRt.out.inv.at_units j hj'
              have hv : T.units[j] ∈ T.units := List.getElem_mem hj'
              have hok := HRt.out.inv.units_ok hv
              refine ⟨T.units[j], A2.find T.units[j].c T.units[j].k, HRA.out.has _ (by rw [← HRt.out.units]; exact hv), fun W h => ?_, fun W h => ?_⟩
              · have := h.atB (j : Int) (by omega)
                rw [hat] at this
                exact this.mono (by rintro e w' ⟨rfl, t⟩; exact ⟨rfl, h.touch t⟩)
              · exact (h.findA _ _ (by omega) (by omega) (by omega)).mono (by rintro e w' ⟨rfl, t⟩; exact ⟨rfl, h.touch t⟩)
            have ewl : IntKind.i64.wrap ((bl : Int) + 2) = (bl : Int) + 2 := by rw [IntKind.wrap_i64]; omega
            clear HRA hbl hble HRt hsl
            go_upto_block 4 with fail
            go_cut [21] (fun t wx => ∃ i, t = .int .i64 i ∧ Hid (TwoB w wx pa pb m2 A2 T tpU))
            case first =>
              go_wp2_with fail
              go_loopw [21] (fun v wr => ∃ j : Nat, v = .int .i64 (j : Int) ∧ j ≤ bl ∧ Hid (TwoB w wr pa pb m2 A2 T tpU)) (fun v _ => (bl - intOf v).toNat)
              case atStart => exact ⟨0, rfl, Nat.zero_le _, HZ5.out⟩
              case round =>
                obtain ⟨j, rfl, hj, HJ⟩ := hrel
                clear HZ5
                by_cases hlt : j < bl
                rotate_left
                · have hjl : j = bl := by omega
                  subst hjl
                  clear HX
                  go_wp2_with fail
                  refine (HLb.out _ HJ.out).mono ?_
                  rintro e V1 ⟨rfl, h1⟩
                  have HV1 : Hid (TwoB w V1 pa pb m2 A2 T tpU) := h1
                  clear h1
                  go_wp2_with fail
                  go_meet
                  case rel => exact ⟨_, rfl, HV1.out⟩
                · obtain ⟨v, f, hf, ha, hc⟩ := HX.out j hlt
                  have HA : Hid (∀ W, TwoB w W pa pb m2 A2 T tpU → Calls Try.prog 21 #[.pointer (some ⟨pb, 0, none⟩), .int .i64 (j : Int)] W fun e w' => e = .returned (.tuple #[.agg #[.int .u64 v.c, .int .u64 v.k, .int .u64 v.lc, .int .u64 v.lk, .int .u64 v.rc, .int .u64 v.rk], .bool true]) ∧ TwoB w w' pa pb m2 A2 T tpU) := ha
                  have HC : Hid (∀ W, TwoB w W pa pb m2 A2 T tpU → Calls Try.prog 19 #[.pointer (some ⟨pa, 0, none⟩), .agg #[.int .u64 v.c, .int .u64 v.k]] W fun e w' => e = .returned (.int .i64 f) ∧ TwoB w w' pa pb m2 A2 T tpU) := hc
                  clear ha hc HX
                  have l0 : (j : Int) < (bl : Int) := by omega
                  have hf' : ¬ f < 0 := by omega
                  go_wp2_with fail
                  refine (HLb.out _ HJ.out).mono ?_
                  rintro e V1 ⟨rfl, h1⟩
                  have HV1 : Hid (TwoB w V1 pa pb m2 A2 T tpU) := h1
                  clear h1
                  go_wp2_with fail
                  refine (HA.out _ HV1.out).mono ?_
                  rintro e V2 ⟨rfl, h2⟩
                  have HV2 : Hid (TwoB w (V2.alloc (unO v)) pa pb m2 A2 T tpU ∧ (V2.alloc (unO v)).heap[V2.heap.size]? = some (unO v)) := ⟨h2.touch ((Touch.refl _ _).alloc _), heap_alloc_new _ _⟩
                  clear h2 HA HV1
                  go_upto_region 37 with fail
                  obtain ⟨V3, hV3⟩ : ∃ X, Hid (X = V2.alloc (unO v)) := ⟨_, Eq.refl _⟩
                  rw [← hV3.out] at HV2 ⊢
                  clear hV3
                  generalize V2.heap.size = mx at *
                  obtain ⟨q0, q1, -, -, -, -⟩ := unO_cells HV2.out.2
                  go_wp2_with fail
                  refine (HC.out _ HV2.out.1).mono ?_
                  rintro e V4 ⟨rfl, h4⟩
                  have HV4 : Hid (TwoB w V4 pa pb m2 A2 T tpU) := h4
                  clear h4 HC HV2 q0 q1
                  go_wp2_with fail
                  exact ⟨⟨j + 1, by go_num, by omega, HV4.out⟩, by simp [intOf]; omega⟩
            case rest =>
              obtain ⟨i21, rfl, H9⟩ := hcut
              obtain ⟨Y9, hwf⟩ : ∃ we, we = wc := ⟨_, rfl⟩
              subst hwf
              clear HZ5 HX
              go_wp2_with fail
              refine (HLa.out _ H9.out).mono ?_
              rintro e V1 ⟨rfl, h1⟩
              have HV1 : Hid (TwoB w V1 pa pb m2 A2 T tpU) := h1
              clear h1 H9 HLa
              go_wp2_with fail
              refine (HLb.out _ HV1.out).mono ?_
              rintro e V2 ⟨rfl, h2⟩
              have HV2 : Hid (TwoB w V2 pa pb m2 A2 T tpU) := h2
              clear h2 HV1 HLb
              go_wp2_with fail
              go_ret
              exact ⟨by simp, HV2.out.1⟩
end Go.Proofs.Ytcolbgbmnmkogaa
