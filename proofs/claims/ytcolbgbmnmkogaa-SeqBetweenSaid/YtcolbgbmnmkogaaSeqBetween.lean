/- quirelaw9.SeqBetween: a unit with neighbours for its origins stands between them. -/
import Derived.Test.YtcolbgbmnmkogaaPart22
import Derived.Test.YtcolbgbmnmkogaaPart26
import Derived.Test.YtcolbgbmnmkogaaGrown
import Derived.Test.YtcolbgbmnmkogaaPart30
import Derived.Deep.CutBlock
namespace Go.Proofs.Ytcolbgbmnmkogaa
open Go.RowKit
set_option linter.unusedVariables false
set_option linter.unusedSimpArgs false
set_option maxRecDepth 100000

set_option maxHeartbeats 16000000 in
theorem seqBetween_any (w : World) (ao0 : Option Addr) (zs0 : List Int) (n0 c0 : Nat) (hn0 : n0 = zs0.length) (hz0 : LiesK w .u16 ao0 zs0) (hm0 : c0 ≤ maxLen) (hc0 : n0 ≤ c0) (hr0 : ∀ y ∈ zs0, 0 ≤ y ∧ y < 65536) (at0 : Int) (hat0 : -9223372036854775808 ≤ at0 ∧ at0 ≤ 9223372036854775807) (cl : Int) (hcl : 0 ≤ cl ∧ cl < 18446744073709551616) :
    Calls Try.prog 5 #[.slice ao0 n0 c0, .int .i64 at0, .int .u64 cl] w fun e w' => e = .returned (.bool true) ∧ Touch (fun _ => False) w w' := by
  have HK : Hid (Calls Try.prog 9 #[] w fun e w' => e = .returned (.bool true) ∧ Touch (fun _ => False) w w') := known_any w
  have hx0 : (n0 : Int) ≤ 9223372036854775807 := by unfold maxLen at hm0; omega
  clear hm0 hc0
  by_cases h0 : 60 < n0
  · have g0 : (60 : Int) < (n0 : Int) := by omega
    clear h0 hz0 hr0
    go_enter Try.func5, Try.ntmps5
    go_wp2_with fail
    refine HK.out.mono ?_
    rintro e W1 ⟨rfl, t1⟩
    have HT1 : Hid (Touch (fun _ => False) w W1) := t1
    clear t1 HK
    go_wp2_with fail
    go_ret
    exact ⟨rfl, HT1.out⟩
  have g0 : ¬ (60 : Int) < (n0 : Int) := by omega
  obtain ⟨us, hus⟩ : ∃ us, Hid (us = (grownG zs0).out) := ⟨_, Eq.refl _⟩
  obtain ⟨gok, ginv⟩ := grown_ok zs0 hr0 (by omega)
  have gk := grown_k' zs0
  have hul : us.length ≤ 60 := by
    have := ginv.out
    rw [hus.out]; omega
  have HUok : Hid (∀ u ∈ us, u.ok ∧ u.k ≤ 60) := fun u hu => by
    rw [hus.out] at hu
    have := gk u hu
    exact ⟨(gok.ok u hu).1, by omega⟩
  have HSI : Hid (∀ j, j ≤ us.length → Inv (seqOf (us.take j)) ∧ Size (seqOf (us.take j)) j) := seqOf_inv us (fun u hu => (HUok.out u hu).1) (by omega)
  have HSt : Hid (∀ j (hj : j < us.length), seqOf (us.take (j + 1)) = (seqOf (us.take j)).run us[j] 1) := seqOf_take us
  have HSc : Hid (∀ v ∈ (seqOf (us.take us.length)).units, v.k ≤ 60) := fun v hv => (HUok.out v (seqOf_mem us (fun u hu => (HUok.out u hu).1) (by omega) us.length (Nat.le_refl _) v hv)).2
  have HG : Hid (∀ W, Touch (fun _ => False) w W → Calls Try.prog 18 #[.slice ao0 n0 c0] W fun e w' => ∃ v, e = .returned v ∧ NewV W w' v us) := fun W t => by
    rw [hn0, hus.out]
    exact grown_any zs0 (hz0.touch t) hr0 (by omega)
  have HN : Hid (∀ W, Touch (fun _ => False) w W → Calls Try.prog 10 #[] W fun e w' => ∃ p B, e = .returned (.pointer (some ⟨p, 0, none⟩)) ∧ Sq1 w w' p B .new ∧ (∀ k, B.has k → W.heap.size ≤ k) ∧ Touch (fun _ => False) W w') := fun W t => Sq1.fresh w W t
  clear h0 hz0 hr0 gok ginv hn0 hus gk
  go_enter Try.func5, Try.ntmps5
  go_wp2_with fail
  refine HK.out.mono ?_
  rintro e W1 ⟨rfl, t1⟩
  have HT1 : Hid (Touch (fun _ => False) w W1) := t1
  clear t1 HK
  go_wp2_with fail
  refine (HG.out _ HT1.out).mono ?_
  rintro e W2 ⟨v, rfl, n2⟩
  have H2 : Hid (NewV w W2 v us) := n2.since HT1.out
  obtain ⟨vo, vcap, rfl, hvo, -⟩ := n2.shape
  have HVo : Hid (0 < us.length → ∃ g, vo = some ⟨g, 0, none⟩) := hvo
  clear n2 HG HT1 hvo
  go_wp2_with fail
  refine (HN.out _ H2.out.touch).mono ?_
  rintro e W3 ⟨pa, A, rfl, a3, -, t3⟩
  have H3 : Hid (OneS w W3 pa .new (.slice vo us.length vcap) us) := ⟨A, a3, H2.out.on t3⟩
  clear a3 t3 HN H2
  go_upto_block 0 with fail
  go_cut [9] (fun t wx => ∃ i, t = .int .i64 i ∧ Hid (OneS w wx pa (seqOf (us.take us.length)) (.slice vo us.length vcap) us))
  case first =>
    clear HSc
    go_wp2_with fail
    go_loopw [9] (fun i wr => ∃ j : Nat, i = .int .i64 (j : Int) ∧ j ≤ us.length ∧ Hid (OneS w wr pa (seqOf (us.take j)) (.slice vo us.length vcap) us)) (fun i _ => (us.length - intOf i).toNat)
    case atStart => exact ⟨0, rfl, Nat.zero_le _, H3.out⟩
    case round =>
      obtain ⟨j, rfl, hj, HJ⟩ := hrel
      by_cases hlt : j < us.length
      rotate_left
      · have hjl : j = us.length := by omega
        have HF : Hid (OneS w wr pa (seqOf (us.take us.length)) (.slice vo us.length vcap) us) := by
          have := HJ.out
          rw [hjl] at this
          exact this
        clear HJ HSI HSt HUok H3
        generalize us.length = nu at *
        go_wp2_with fail
        go_meet
        case rel => exact ⟨_, rfl, HF.out⟩
      · obtain ⟨g, rfl⟩ := HVo.out (by omega)
        have hS := HSI.out j hj
        have hu := (HUok.out us[j] (List.getElem_mem hlt)).1
        have HS1 := HSt.out j hlt
        have HA : Hid (Calls Try.prog 14 #[.pointer (some ⟨pa, 0, none⟩), .agg #[.int .u64 us[j].c, .int .u64 us[j].k, .int .u64 us[j].lc, .int .u64 us[j].lk, .int .u64 us[j].rc, .int .u64 us[j].rk]] wr fun e w' => e = .returned (.bool ((seqOf (us.take j)).may us[j] 1)) ∧ OneS w w' pa (seqOf (us.take (j + 1))) (.slice (some ⟨g, 0, none⟩) us.length vcap) us) := by
          rw [HS1]; exact HJ.out.ins _ hu hS.2 (by omega)
        obtain ⟨k0, k1, k2, k3, k4, k5⟩ := HJ.out.cells j hlt
        clear hS hu HS1 HSI HSt HUok H3
        have l0 : (j : Int) < (us.length : Int) := by omega
        generalize (seqOf (us.take j)).may us[j] 1 = mb at *
        generalize us[j] = u at *
        obtain ⟨uc, uk, ulc, ulk, urc, urk⟩ := u
        simp only at HA k0 k1 k2 k3 k4 k5
        go_wp2_with fail
        refine HA.out.mono ?_
        rintro e W5 ⟨rfl, h5⟩
        have H5 : Hid (OneS w W5 pa (seqOf (us.take (j + 1))) (.slice (some ⟨g, 0, none⟩) us.length vcap) us) := h5
        clear h5 HA k0 k1 k2 k3 k4 k5
        go_wp2_with fail
        exact ⟨⟨j + 1, by go_num, by omega, H5.out⟩, by simp [intOf]; omega⟩
  case rest =>
    obtain ⟨i9, rfl, H5⟩ := hcut
    obtain ⟨W5, hwf⟩ : ∃ we, we = wc := ⟨_, rfl⟩
    subst hwf
    have hSi := HSI.out us.length (Nat.le_refl _)
    obtain ⟨S, hS⟩ : ∃ s, Hid (s = seqOf (us.take us.length)) := ⟨_, Eq.refl _⟩
    rw [← hS.out] at H5 hSi HSc
    have HI : Hid (Inv S ∧ Size S 60) := ⟨hSi.1, hSi.2.mono hul⟩
    have HO : Hid (∀ W, Touch (fun _ => False) W5 W → ∃ A, Sq1 w W pa A S) := fun W t => by
      obtain ⟨A, a, -⟩ := H5.out.touch t
      exact ⟨A, a⟩
    have HT5 : Hid (Touch (fun _ => False) w W5) := H5.out.touch0
    obtain ⟨sl, hsl⟩ : ∃ n : Nat, Hid (n = S.units.length) := ⟨_, Eq.refl _⟩
    have hslb : sl ≤ 60 := by
      have h1 := HI.out.1.units_len
      have h2 := HI.out.2.tot
      have h3 := hsl.out
      omega
    have HLn : Hid (Calls Try.prog 20 #[.pointer (some ⟨pa, 0, none⟩)] W5 fun e w' => e = .returned (.int .i64 (sl : Int)) ∧ Touch (fun _ => False) W5 w') := by
      rw [hsl.out]
      obtain ⟨A, a⟩ := HO.out _ (Touch.refl _ _)
      exact a.len
    have HPl : Hid (∀ W, Calls Try.prog 22 #[.int .i64 at0, .int .i64 ((sl : Int) + 1)] W fun e w' => ∃ p : Nat, e = .returned (.int .i64 (p : Int)) ∧ p ≤ sl ∧ w' = W) := fun W => by
      have := placeG_any at0 (sl + 1) (by omega) W hat0.1 hat0.2
      have e : ((sl + 1 : Nat) : Int) = (sl : Int) + 1 := by omega
      rw [e] at this
      refine this.mono ?_
      rintro e2 w' ⟨p, rfl, hp, rfl⟩
      exact ⟨p, rfl, by omega, rfl⟩
    obtain ⟨cc, hcc⟩ : ∃ c, c = 1 + cl % 1000 := ⟨_, rfl⟩
    have hccb : 1 ≤ cc ∧ cc ≤ 1000 := by omega
    have hcm : cl.tmod 1000 = cl % 1000 := Int.tmod_eq_emod_of_nonneg hcl.1
    have ecc : 1 + cl % 1000 = cc := hcc.symm
    have ecw : IntKind.u64.wrap cc = cc := wrap_u64_small _ (by omega) (by omega)
    have HId : Hid (∀ W, Calls Try.prog 15 #[.int .u64 cc, .int .u64 100000] W fun e w' => e = .returned (.agg #[.int .u64 cc, .int .u64 100000]) ∧ Touch (fun _ => False) W w') := fun W => id_any _ _ W
    have ew : IntKind.i64.wrap ((sl : Int) + 1) = (sl : Int) + 1 := by rw [IntKind.wrap_i64]; omega
    clear H3 HSI HSt HUok hS hSi HVo H5 hcc
    generalize us.length = nu at *
    go_wp2_with fail
    refine HLn.out.mono ?_
    rintro e W6 ⟨rfl, t6⟩
    have HT6 : Hid (Touch (fun _ => False) W5 W6) := t6
    clear t6 HLn
    go_wp2_with fail
    refine (HPl.out _).mono ?_
    rintro e W7 ⟨p, rfl, hp, hw7⟩
    rw [hw7]
    clear hw7 HPl ew
    go_upto_region 12 with fail
    go_cut [10] (fun t wx => ∃ m, t = .pointer (some ⟨m, 0, none⟩) ∧ Hid (Touch (fun _ => False) W5 wx ∧ W5.heap.size ≤ m ∧ wx.heap[m]? = some (unO ⟨cc, 100000, 0, 0, 0, 0⟩)))
    case first =>
      go_wp2_with fail
      refine (HId.out _).mono ?_
      rintro e W8 ⟨rfl, t8⟩
      have HT8 : Hid (Touch (fun _ => False) W5 W8) := HT6.out.trans t8
      clear t8
      go_wp2_with fail
      go_meet
      case rel => exact ⟨_, rfl, HT8.out.alloc _, HT8.out.size, heap_alloc_new _ _⟩
    case rest =>
      obtain ⟨m, rfl, H8⟩ := hcut
      obtain ⟨X1, hwf⟩ : ∃ we, we = wc := ⟨_, rfl⟩
      subst hwf
      clear HId HT6 ecw ecc hcm
      have HMs : Hid (W5.heap.size ≤ m) := H8.out.2.1
      have HAt : Hid (∀ (i : Int) W, -10 ≤ i ∧ i ≤ 1000 → Touch (fun _ => False) W5 W → Calls Try.prog 21 #[.pointer (some ⟨pa, 0, none⟩), .int .i64 i] W fun e w' => e = .returned (.tuple #[.agg #[.int .u64 ((S.at_ i).1).c, .int .u64 ((S.at_ i).1).k, .int .u64 ((S.at_ i).1).lc, .int .u64 ((S.at_ i).1).lk, .int .u64 ((S.at_ i).1).rc, .int .u64 ((S.at_ i).1).rk], .bool (S.at_ i).2]) ∧ Touch (fun _ => False) W w') := fun i W hi t => by
        obtain ⟨A, a⟩ := HO.out _ t
        exact a.at' i (by omega)
      obtain ⟨U, hU⟩ : ∃ u, Hid (u = btU S cc 100000 p) := ⟨_, Eq.refl _⟩
      have hlaid := btU_laid HI.out.1 HI.out.2 (by omega) cc 100000 hccb (by omega) p 1 (by have := hsl.out; omega) (by omega) (fun v hv h => by have := HSc.out v hv; omega)
      have huok := btU_ok HI.out.1 cc 100000 hccb.1 (by omega) p
      have hfind := find_run hlaid.2.1 hlaid.2.2 0 (by omega)
      have htl : (S.units.take p).length = p := by rw [List.length_take]; have := hsl.out; omega
      rw [htl] at hfind
      have HEnd : Hid (∀ W, Touch (fun _ => False) W5 W → Calls Try.prog 14 #[.pointer (some ⟨pa, 0, none⟩), .agg #[.int .u64 U.c, .int .u64 U.k, .int .u64 U.lc, .int .u64 U.lk, .int .u64 U.rc, .int .u64 U.rk]] W fun e w' => e = .returned (.bool true) ∧ Touch (fun _ => False) w w' ∧ (∀ k, W.heap[k]? = some (unO U) → w'.heap[k]? = some (unO U)) ∧ Calls Try.prog 19 #[.pointer (some ⟨pa, 0, none⟩), .agg #[.int .u64 cc, .int .u64 100000]] w' fun e w2 => e = .returned (.int .i64 (p : Int)) ∧ Touch (fun _ => False) w' w2) := fun W t => by
        obtain ⟨A, a⟩ := HO.out _ t
        rw [hU.out]
        have := a.ins (btU S cc 100000 p) huok HI.out.2 (by omega)
        have e1 : S.may (btU S cc 100000 p) 1 = true := hlaid.1
        rw [e1] at this
        refine this.mono ?_
        rintro e w' ⟨rfl, A', h1, h2, t2⟩
        refine ⟨rfl, a.touch0 (HT5.out.trans t) t2, fun k hk => (t2.block _ (lt_of_heap hk) (a.mem.noBox hk)).trans hk, ?_⟩
        have := h1.find cc 100000 (by omega) (by omega) (by omega)
        have e2 : (S.run (btU S cc 100000 p) 1).find cc 100000 = (p : Int) := by
          have e3 : (S.run (btU S cc 100000 p) 1).find cc (100000 + ((0 : Nat) : Int)) = ((p + 0 : Nat) : Int) := hfind
          simpa using e3
        rw [e2] at this
        exact this
      obtain ⟨L, hL⟩ : ∃ u, Hid (u = (S.at_ ((p : Int) - 1)).1) := ⟨_, Eq.refl _⟩
      obtain ⟨lb, hlb⟩ : ∃ u, Hid (u = (S.at_ ((p : Int) - 1)).2) := ⟨_, Eq.refl _⟩
      obtain ⟨R, hR⟩ : ∃ u, Hid (u = (S.at_ (p : Int)).1) := ⟨_, Eq.refl _⟩
      obtain ⟨rb, hrb⟩ : ∃ u, Hid (u = (S.at_ (p : Int)).2) := ⟨_, Eq.refl _⟩
      have hA1 := HAt.out ((p : Int) - 1)
      have hA2 := HAt.out (p : Int)
      rw [← hL.out, ← hlb.out] at hA1
      rw [← hR.out, ← hrb.out] at hA2
      have HA1 : Hid (∀ W, Touch (fun _ => False) W5 W → Calls Try.prog 21 #[.pointer (some ⟨pa, 0, none⟩), .int .i64 ((p : Int) - 1)] W fun e w' => e = .returned (.tuple #[.agg #[.int .u64 L.c, .int .u64 L.k, .int .u64 L.lc, .int .u64 L.lk, .int .u64 L.rc, .int .u64 L.rk], .bool lb]) ∧ Touch (fun _ => False) W w') := fun W t => hA1 W (by omega) t
      have HA2 : Hid (∀ W, Touch (fun _ => False) W5 W → Calls Try.prog 21 #[.pointer (some ⟨pa, 0, none⟩), .int .i64 (p : Int)] W fun e w' => e = .returned (.tuple #[.agg #[.int .u64 R.c, .int .u64 R.k, .int .u64 R.lc, .int .u64 R.lk, .int .u64 R.rc, .int .u64 R.rk], .bool rb]) ∧ Touch (fun _ => False) W w') := fun W t => hA2 W (by omega) t
      have HLz : Hid (lb = false → L = .zero) := fun e => by
        rw [hL.out]; exact at_no HI.out.1 _ (by rw [← hlb.out]; exact e)
      have HRz : Hid (rb = false → R = .zero) := fun e => by
        rw [hR.out]; exact at_no HI.out.1 _ (by rw [← hrb.out]; exact e)
      have HUe : Hid (U = ⟨cc, 100000, L.c, L.k, R.c, R.k⟩) := by
        show U = _
        rw [hU.out, hL.out, hR.out]; rfl
      have ew : IntKind.i64.wrap ((p : Int) - 1) = (p : Int) - 1 := by rw [IntKind.wrap_i64]; omega
      clear hA1 hA2 hL hR hlb hrb HAt hU hlaid huok hfind htl HO HSc hsl
      go_wp2_with fail
      refine (HA1.out _ H8.out.1).mono ?_
      rintro e W9 ⟨rfl, t9⟩
      have H9 : Hid (Touch (fun _ => False) W5 (W9.alloc (unO L)) ∧ (W9.alloc (unO L)).heap[m]? = some (unO ⟨cc, 100000, 0, 0, 0, 0⟩) ∧ (W9.alloc (unO L)).heap[W9.heap.size]? = some (unO L)) := ⟨(H8.out.1.trans t9).alloc _, heap_keep (t9.alloc _) H8.out.2.2, heap_alloc_new _ _⟩
      clear t9 HA1 H8 ew
      go_upto_if 52 with fail
      obtain ⟨X2, hX2⟩ : ∃ X, Hid (X = W9.alloc (unO L)) := ⟨_, Eq.refl _⟩
      rw [← hX2.out] at H9 ⊢
      clear hX2
      generalize W9.heap.size = m1 at *
      go_cut [10] (fun t wx => t = .pointer (some ⟨m, 0, none⟩) ∧ Hid (Touch (fun _ => False) W5 wx ∧ wx.heap[m]? = some (unO ⟨cc, 100000, L.c, L.k, 0, 0⟩)))
      case first =>
        clear HEnd HA2 HRz HUe
        cases lb with
        | true =>
          obtain ⟨q0, q1, -, -, -, -⟩ := unO_cells H9.out.2.2
          obtain ⟨-, -, p2, p3, -, -⟩ := unO_cells H9.out.2.1
          have z2 : X2.frozen? ⟨m, 2, none⟩ = false := free_of_block H9.out.2.1
          have z3 : X2.frozen? ⟨m, 3, none⟩ = false := free_of_block H9.out.2.1
          have s3 := heap_setCell_same X2 m 2 (.int .u64 L.c) H9.out.2.1
          have p3' : (X2.setCell ⟨m, 2, none⟩ (.int .u64 L.c)).cell? ⟨m, 3, none⟩ = some (.int .u64 0) := by rw [cell_of_block s3]; rfl
          have z3' : (X2.setCell ⟨m, 2, none⟩ (.int .u64 L.c)).frozen? ⟨m, 3, none⟩ = false := free_of_block s3
          have HS : Hid (Touch (fun _ => False) W5 ((X2.setCell ⟨m, 2, none⟩ (.int .u64 L.c)).setCell ⟨m, 3, none⟩ (.int .u64 L.k)) ∧ ((X2.setCell ⟨m, 2, none⟩ (.int .u64 L.c)).setCell ⟨m, 3, none⟩ (.int .u64 L.k)).heap[m]? = some (unO ⟨cc, 100000, L.c, L.k, 0, 0⟩)) := ⟨(H9.out.1.fresh _ _ _ HMs.out).fresh _ _ _ HMs.out, unO_set2 H9.out.2.1 _ _⟩
          clear s3 HLz
          go_wp2_with fail
          go_meet
          case rel => exact ⟨rfl, HS.out⟩
        | false =>
          have HZ : Hid (L = .zero) := HLz.out rfl
          clear HLz
          go_wp2_with fail
          go_meet
          case rel => exact ⟨rfl, H9.out.1, by rw [HZ.out]; exact H9.out.2.1⟩
      case rest =>
        obtain ⟨rfl, H10⟩ := hcut
        obtain ⟨X3, hwf⟩ : ∃ we, we = wc := ⟨_, rfl⟩
        subst hwf
        clear H9 HLz
        go_wp2_with fail
        refine (HA2.out _ H10.out.1).mono ?_
        rintro e W11 ⟨rfl, t11⟩
        have H11 : Hid (Touch (fun _ => False) W5 (W11.alloc (unO R)) ∧ (W11.alloc (unO R)).heap[m]? = some (unO ⟨cc, 100000, L.c, L.k, 0, 0⟩) ∧ (W11.alloc (unO R)).heap[W11.heap.size]? = some (unO R)) := ⟨(H10.out.1.trans t11).alloc _, heap_keep (t11.alloc _) H10.out.2, heap_alloc_new _ _⟩
        clear t11 HA2 H10
        go_upto_if 62 with fail
        obtain ⟨X4, hX4⟩ : ∃ X, Hid (X = W11.alloc (unO R)) := ⟨_, Eq.refl _⟩
        rw [← hX4.out] at H11 ⊢
        clear hX4
        generalize W11.heap.size = m2 at *
        go_cut [10] (fun t wx => t = .pointer (some ⟨m, 0, none⟩) ∧ Hid (Touch (fun _ => False) W5 wx ∧ wx.heap[m]? = some (unO ⟨cc, 100000, L.c, L.k, R.c, R.k⟩)))
        case first =>
          clear HEnd HUe
          cases rb with
          | true =>
            obtain ⟨q0, q1, -, -, -, -⟩ := unO_cells H11.out.2.2
            obtain ⟨-, -, -, -, p4, p5⟩ := unO_cells H11.out.2.1
            have z4 : X4.frozen? ⟨m, 4, none⟩ = false := free_of_block H11.out.2.1
            have z5 : X4.frozen? ⟨m, 5, none⟩ = false := free_of_block H11.out.2.1
            have s4 := heap_setCell_same X4 m 4 (.int .u64 R.c) H11.out.2.1
            have p5' : (X4.setCell ⟨m, 4, none⟩ (.int .u64 R.c)).cell? ⟨m, 5, none⟩ = some (.int .u64 0) := by rw [cell_of_block s4]; rfl
            have z5' : (X4.setCell ⟨m, 4, none⟩ (.int .u64 R.c)).frozen? ⟨m, 5, none⟩ = false := free_of_block s4
            have HS : Hid (Touch (fun _ => False) W5 ((X4.setCell ⟨m, 4, none⟩ (.int .u64 R.c)).setCell ⟨m, 5, none⟩ (.int .u64 R.k)) ∧ ((X4.setCell ⟨m, 4, none⟩ (.int .u64 R.c)).setCell ⟨m, 5, none⟩ (.int .u64 R.k)).heap[m]? = some (unO ⟨cc, 100000, L.c, L.k, R.c, R.k⟩)) := ⟨(H11.out.1.fresh _ _ _ HMs.out).fresh _ _ _ HMs.out, unO_set4 H11.out.2.1 _ _⟩
            clear s4 HRz
            go_wp2_with fail
            go_meet
            case rel => exact ⟨rfl, HS.out⟩
          | false =>
            have HZ : Hid (R = .zero) := HRz.out rfl
            clear HRz
            go_wp2_with fail
            go_meet
            case rel => exact ⟨rfl, H11.out.1, by rw [HZ.out]; exact H11.out.2.1⟩
        case rest =>
          obtain ⟨rfl, H12⟩ := hcut
          obtain ⟨X5, hwf⟩ : ∃ we, we = wc := ⟨_, rfl⟩
          subst hwf
          have hE := HEnd.out _ H12.out.1
          rw [HUe.out] at hE
          have HIn : Hid (Calls Try.prog 14 #[.pointer (some ⟨pa, 0, none⟩), .agg #[.int .u64 cc, .int .u64 100000, .int .u64 L.c, .int .u64 L.k, .int .u64 R.c, .int .u64 R.k]] X5 fun e w' => e = .returned (.bool true) ∧ Touch (fun _ => False) w w' ∧ (∀ k, X5.heap[k]? = some (unO ⟨cc, 100000, L.c, L.k, R.c, R.k⟩) → w'.heap[k]? = some (unO ⟨cc, 100000, L.c, L.k, R.c, R.k⟩)) ∧ Calls Try.prog 19 #[.pointer (some ⟨pa, 0, none⟩), .agg #[.int .u64 cc, .int .u64 100000]] w' fun e w2 => e = .returned (.int .i64 (p : Int)) ∧ Touch (fun _ => False) w' w2) := hE
          obtain ⟨q0, q1, q2, q3, q4, q5⟩ := unO_cells H12.out.2
          clear hE HEnd HUe HRz H11
          go_wp2_with fail
          refine HIn.out.mono ?_
          rintro e X6 ⟨rfl, t6, hk6, hf6⟩
          have HM6 : Hid (X6.heap[m]? = some (unO ⟨cc, 100000, L.c, L.k, R.c, R.k⟩)) := hk6 m H12.out.2
          have HF6 : Hid (Calls Try.prog 19 #[.pointer (some ⟨pa, 0, none⟩), .agg #[.int .u64 cc, .int .u64 100000]] X6 fun e w2 => e = .returned (.int .i64 (p : Int)) ∧ Touch (fun _ => False) X6 w2) := hf6
          have HT6 : Hid (Touch (fun _ => False) w X6) := t6
          clear t6 hk6 hf6 HIn q0 q1 q2 q3 q4 q5 H12
          obtain ⟨q0, q1, -, -, -, -⟩ := unO_cells HM6.out
          go_wp2_with fail
          refine HF6.out.mono ?_
          rintro e X7 ⟨rfl, t7⟩
          have HT7 : Hid (Touch (fun _ => False) w X7) := HT6.out.trans t7
          clear t7 HF6
          go_wp2_with fail
          go_ret
          exact ⟨by simp, HT7.out⟩
end Go.Proofs.Ytcolbgbmnmkogaa
