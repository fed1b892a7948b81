/- quirelaw9.SeqCopies: a copy and its sequence go their own ways. -/
import Derived.Test.YtcolbgbmnmkogabPart22
import Derived.Test.YtcolbgbmnmkogabGrown
import Derived.Test.YtcolbgbmnmkogabPart29
import Derived.Deep.MidRow
import Derived.Test.YtcolbgbmnmkogabPart28
import Derived.Deep.CutBlock
namespace Go.Proofs.Ytcolbgbmnmkogab
open Go.RowKit
set_option linter.unusedVariables false
set_option linter.unusedSimpArgs false
set_option maxRecDepth 100000

theorem unO_there {W : World} {m : Nat} {u : Un} (h : W.heap[m]? = some (unO u)) : W.there m 0 6 := fun j hj => by
  obtain ⟨k0, k1, k2, k3, k4, k5⟩ := unO_cells h
  refine ⟨?_, free_of_block h⟩
  rw [Nat.zero_add]
  rcases j with _ | _ | _ | _ | _ | _ | j
  · rw [k0]; rfl
  · rw [k1]; rfl
  · rw [k2]; rfl
  · rw [k3]; rfl
  · rw [k4]; rfl
  · rw [k5]; rfl
  · omega
theorem unO_stored {W : World} {m : Nat} {u : Un} (h : W.heap[m]? = some (unO u)) {a b c d e f : Int} : (W.setCells m 0 [.int .u64 a, .int .u64 b, .int .u64 c, .int .u64 d, .int .u64 e, .int .u64 f]).heap[m]? = some (unO ⟨a, b, c, d, e, f⟩) :=
  heap_setCell_same _ _ _ _ (heap_setCell_same _ _ _ _ (heap_setCell_same _ _ _ _ (heap_setCell_same _ _ _ _ (heap_setCell_same _ _ _ _ (heap_setCell_same _ _ _ _ h)))))
theorem stored_fresh {X W : World} (t : Touch (fun _ => False) X W) {m : Nat} (hm : X.heap.size ≤ m) {a b c d e f : Value} : Touch (fun _ => False) X (W.setCells m 0 [a, b, c, d, e, f]) :=
  (((((t.fresh _ _ _ hm).fresh _ _ _ hm).fresh _ _ _ hm).fresh _ _ _ hm).fresh _ _ _ hm).fresh _ _ _ hm
theorem rem_u16 (x : Int) (n : Nat) (h0 : 0 ≤ x) (h1 : x < 65536) : x.tmod ((n : Int) + 1) = x % ((n : Int) + 1) := Int.tmod_eq_emod_of_nonneg h0
set_option maxHeartbeats 16000000 in
theorem seqCopies_any (w : World) (ao0 : Option Addr) (zs0 : List Int) (n0 c0 : Nat) (hn0 : n0 = zs0.length) (hz0 : LiesK w .u16 ao0 zs0) (hm0 : c0 ≤ maxLen) (hc0 : n0 ≤ c0) (hr0 : ∀ y ∈ zs0, 0 ≤ y ∧ y < 65536)
    (ao1 : Option Addr) (zs1 : List Int) (n1 c1 : Nat) (hn1 : n1 = zs1.length) (hz1 : LiesK w .u16 ao1 zs1) (hm1 : c1 ≤ maxLen) (hc1 : n1 ≤ c1) (hr1 : ∀ y ∈ zs1, 0 ≤ y ∧ y < 65536) :
    Calls Try.prog 3 #[.slice ao0 n0 c0, .slice ao1 n1 c1] w fun e w' => e = .returned (.bool true) ∧ Touch (fun _ => False) w w' := by
  have HK : Hid (Calls Try.prog 6 #[] w fun e w' => e = .returned (.bool true) ∧ Touch (fun _ => False) w w') := known_any w
  have hx0 : (n0 : Int) ≤ 9223372036854775807 := by unfold maxLen at hm0; omega
  have hx1 : (n1 : Int) ≤ 9223372036854775807 := by unfold maxLen at hm1; omega
  clear hm0 hm1 hc0 hc1
  by_cases h0 : 30 < n0
  · have g0 : (30 : Int) < (n0 : Int) := by omega
    clear h0 hz0 hz1 hr0 hr1
    go_enter Try.func3, Try.ntmps3
    go_wp2_with fail
    refine HK.out.mono ?_
    rintro e W1 ⟨rfl, t1⟩
    have HT1 : Hid (Touch (fun _ => False) w W1) := t1
    clear t1 HK
    go_wp2_with fail
    go_ret
    exact ⟨rfl, HT1.out⟩
  by_cases h1 : 30 < n1
  · have g0 : ¬ (30 : Int) < (n0 : Int) := by omega
    have g1 : (30 : Int) < (n1 : Int) := by omega
    clear h0 h1 hz0 hz1 hr0 hr1
    go_enter Try.func3, Try.ntmps3
    go_wp2_with fail
    refine HK.out.mono ?_
    rintro e W1 ⟨rfl, t1⟩
    have HT1 : Hid (Touch (fun _ => False) w W1) := t1
    clear t1 HK
    go_wp2_with fail
    go_ret
    exact ⟨rfl, HT1.out⟩
  have g0 : ¬ (30 : Int) < (n0 : Int) := by omega
  have g1 : ¬ (30 : Int) < (n1 : Int) := by omega
  obtain ⟨us, hus⟩ : ∃ us, Hid (us = (grownG zs0).out) := ⟨_, Eq.refl _⟩
  obtain ⟨gok, ginv⟩ := grown_ok zs0 hr0 (by omega)
  have hul : us.length ≤ 30 := by
    have := ginv.out
    rw [hus.out]; omega
  have HUok : Hid (∀ u ∈ us, u.ok ∧ u.c ≤ 4) := fun u hu => by
    rw [hus.out] at hu
    exact ⟨(gok.ok u hu).1, (gok.ok u hu).2.2.1⟩
  have HSI : Hid (∀ j, j ≤ us.length → Inv (seqOf (us.take j)) ∧ Size (seqOf (us.take j)) j) := seqOf_inv us (fun u hu => (HUok.out u hu).1) (by omega)
  have HSt : Hid (∀ j (hj : j < us.length), seqOf (us.take (j + 1)) = (seqOf (us.take j)).run us[j] 1) := seqOf_take us
  have HSc : Hid (∀ v ∈ (seqOf (us.take us.length)).units, v.c ≤ 4) := fun v hv => (HUok.out v (seqOf_mem us (fun u hu => (HUok.out u hu).1) (by omega) us.length (Nat.le_refl _) v hv)).2
  have HG : Hid (∀ W, Touch (fun _ => False) w W → Calls Try.prog 8 #[.slice ao0 n0 c0] W fun e w' => ∃ v, e = .returned v ∧ NewV W w' v us) := fun W t => by
    rw [hn0, hus.out]
    exact grown_any zs0 (hz0.touch t) hr0 (by omega)
  have HN : Hid (∀ W, Touch (fun _ => False) w W → Calls Try.prog 7 #[] W fun e w' => ∃ p B, e = .returned (.pointer (some ⟨p, 0, none⟩)) ∧ Sq1 w w' p B .new ∧ (∀ k, B.has k → W.heap.size ≤ k) ∧ Touch (fun _ => False) W w') := fun W t => Sq1.fresh w W t
  have HZ1 : Hid (∀ j (hj : j < n1), ∃ g o x, ao1 = some ⟨g, o, none⟩ ∧ 0 ≤ x ∧ x < 65536 ∧ ∀ W, Touch (fun _ => False) w W → W.cell? ⟨g, o + j, none⟩ = some (.int .u16 x)) := fun j hj => by
    rcases hz1 with h | ⟨g, o, e, h⟩
    · rw [hn1, h] at hj; exact absurd hj (Nat.not_lt_zero _)
    · have hx := hr1 _ (List.getElem_mem (show j < zs1.length by omega))
      refine ⟨g, o, _, e, hx.1, hx.2, fun W t => ?_⟩
      have := h j (by omega)
      rw [World.cell?_of_block (t.block _ (World.block_lt_of_cell? _ _ this) id)]; exact this
  have hn1l : n1 ≤ 30 := by omega
  clear h0 h1 hz0 hz1 hr0 hr1 gok ginv hn0 hn1 hus
  go_enter Try.func3, Try.ntmps3
  go_wp2_with fail
  refine HK.out.mono ?_
  rintro e W1 ⟨rfl, t1⟩
  have HT1 : Hid (Touch (fun _ => False) w W1) := t1
  clear t1 HK
  go_wp2_with fail
  refine (HN.out _ HT1.out).mono ?_
  rintro e W2 ⟨pa, A, rfl, a2, n2, t2⟩
  have H2 : Hid (Sq1 w W2 pa A .new ∧ Touch (fun _ => False) w W2) := ⟨a2, HT1.out.trans t2⟩
  clear a2 n2 t2
  go_wp2_with fail
  refine (HN.out _ H2.out.2).mono ?_
  rintro e W3 ⟨pb, B, rfl, b3, n3, t3⟩
  have H3 : Hid (Sq1 w W3 pa A .new ∧ Sq1 w W3 pb B .new ∧ ApartB A B ∧ Touch (fun _ => False) w W3) := ⟨H2.out.1.touch t3, b3, fun k hk hb => by
    have := H2.out.1.mem.lt hk
    have := n3 k hb
    omega, H2.out.2.trans t3⟩
  clear b3 n3 t3 HN H2 HT1
  go_wp2_with fail
  refine (HG.out _ H3.out.2.2.2).mono ?_
  rintro e W4 ⟨v, rfl, n4⟩
  have H4 : Hid (Two w W4 pa pb .new .new v us) := ⟨A, B, H3.out.1.touch n4.touch, H3.out.2.1.touch n4.touch, H3.out.2.2.1, n4.since H3.out.2.2.2⟩
  obtain ⟨vo, vcap, rfl, hvo, -⟩ := n4.shape
  have HVo : Hid (0 < us.length → ∃ g, vo = some ⟨g, 0, none⟩) := hvo
  clear hvo
  clear n4 H3 HG
  go_upto_block 0 with fail
  go_cut [8] (fun t wx => ∃ i, t = .int .i64 i ∧ Hid (Two w wx pa pb (seqOf (us.take us.length)) (seqOf (us.take us.length)) (.slice vo us.length vcap) us))
  case first =>
    clear HSc HZ1
    go_wp2_with fail
    go_loopw [8] (fun i wr => ∃ j : Nat, i = .int .i64 (j : Int) ∧ j ≤ us.length ∧ Hid (Two w wr pa pb (seqOf (us.take j)) (seqOf (us.take j)) (.slice vo us.length vcap) us)) (fun i _ => (us.length - intOf i).toNat)
    case atStart => exact ⟨0, rfl, Nat.zero_le _, H4.out⟩
    case round =>
      obtain ⟨j, rfl, hj, HJ⟩ := hrel
      by_cases hlt : j < us.length
      rotate_left
      · have hjl : j = us.length := by omega
        have HF : Hid (Two w wr pa pb (seqOf (us.take us.length)) (seqOf (us.take us.length)) (.slice vo us.length vcap) us) := by
          have := HJ.out
          rw [hjl] at this
          exact this
        clear HJ HSI HSt HUok H4
        generalize us.length = nu at *
        go_wp2_with fail
        go_meet
        case rel => exact ⟨_, rfl, HF.out⟩
      · obtain ⟨g, rfl⟩ := HVo.out (by omega)
        have HCe : Hid (∀ W Sa Sb, Two w W pa pb Sa Sb (.slice (some ⟨g, 0, none⟩) us.length vcap) us → W.cell? ⟨g, j * 6, none⟩ = some (.int .u64 us[j].c) ∧ W.cell? ⟨g, j * 6 + 1, none⟩ = some (.int .u64 us[j].k) ∧ W.cell? ⟨g, j * 6 + 2, none⟩ = some (.int .u64 us[j].lc) ∧ W.cell? ⟨g, j * 6 + 3, none⟩ = some (.int .u64 us[j].lk) ∧ W.cell? ⟨g, j * 6 + 4, none⟩ = some (.int .u64 us[j].rc) ∧ W.cell? ⟨g, j * 6 + 5, none⟩ = some (.int .u64 us[j].rk)) := fun W Sa Sb h => by
          obtain ⟨_, _, _, _, _, hn⟩ := h
          obtain ⟨b, o, cap, e, _, _, _, hx⟩ := hn.sl.row (fun e => by rw [e] at hlt; exact absurd hlt (Nat.not_lt_zero _))
          simp only [Value.slice.injEq, Option.some.injEq, Addr.mk.injEq] at e
          obtain ⟨⟨rfl, rfl, -⟩, -, -⟩ := e
          have := hx j hlt
          simp only [Nat.zero_add] at this
          exact this
        have hS := HSI.out j hj
        have hu := (HUok.out us[j] (List.getElem_mem hlt)).1
        have HS1 := HSt.out j hlt
        have HA : Hid (∀ W, Two w W pa pb (seqOf (us.take j)) (seqOf (us.take j)) (.slice (some ⟨g, 0, none⟩) us.length vcap) us → Calls Try.prog 9 #[.pointer (some ⟨pa, 0, none⟩), .agg #[.int .u64 us[j].c, .int .u64 us[j].k, .int .u64 us[j].lc, .int .u64 us[j].lk, .int .u64 us[j].rc, .int .u64 us[j].rk]] W fun e w' => e = .returned (.bool ((seqOf (us.take j)).may us[j] 1)) ∧ Two w w' pa pb (seqOf (us.take (j + 1))) (seqOf (us.take j)) (.slice (some ⟨g, 0, none⟩) us.length vcap) us) := fun W h => by
          rw [HS1]; exact h.ins _ hu hS.2 (by omega)
        have HB : Hid (∀ W, Two w W pa pb (seqOf (us.take (j + 1))) (seqOf (us.take j)) (.slice (some ⟨g, 0, none⟩) us.length vcap) us → Calls Try.prog 9 #[.pointer (some ⟨pb, 0, none⟩), .agg #[.int .u64 us[j].c, .int .u64 us[j].k, .int .u64 us[j].lc, .int .u64 us[j].lk, .int .u64 us[j].rc, .int .u64 us[j].rk]] W fun e w' => e = .returned (.bool ((seqOf (us.take j)).may us[j] 1)) ∧ Two w w' pa pb (seqOf (us.take (j + 1))) (seqOf (us.take (j + 1))) (.slice (some ⟨g, 0, none⟩) us.length vcap) us) := fun W h => by
          have := h.swap.ins us[j] hu hS.2 (by omega)
          refine this.mono ?_
          rintro e w' ⟨rfl, h2⟩
          refine ⟨rfl, ?_⟩
          rw [← HS1] at h2
          exact h2.swap
        clear hS hu HS1 HSI HSt HUok H4
        obtain ⟨nu, hnu⟩ : ∃ n, Hid (n = us.length) := ⟨_, Eq.refl _⟩
        have l0 : (j : Int) < (us.length : Int) := by omega
        generalize (seqOf (us.take j)).may us[j] 1 = mb at *
        generalize us[j] = u at *
        obtain ⟨uc, uk, ulc, ulk, urc, urk⟩ := u
        simp only at HCe HA HB
        obtain ⟨k0, k1, k2, k3, k4, k5⟩ := HCe.out _ _ _ HJ.out
        go_wp2_with fail
        refine (HA.out _ HJ.out).mono ?_
        rintro e W5 ⟨rfl, h5⟩
        have H5 : Hid (Two w W5 pa pb (seqOf (us.take (j + 1))) (seqOf (us.take j)) (.slice (some ⟨g, 0, none⟩) us.length vcap) us) := h5
        clear h5 HA k0 k1 k2 k3 k4 k5
        obtain ⟨k0, k1, k2, k3, k4, k5⟩ := HCe.out _ _ _ H5.out
        go_wp2_with fail
        refine (HB.out _ H5.out).mono ?_
        rintro e W6 ⟨rfl, h6⟩
        have H6 : Hid (Two w W6 pa pb (seqOf (us.take (j + 1))) (seqOf (us.take (j + 1))) (.slice (some ⟨g, 0, none⟩) us.length vcap) us) := h6
        clear h6 HB k0 k1 k2 k3 k4 k5 HCe
        go_wp2_with fail
        exact ⟨⟨j + 1, by go_num, by omega, H6.out⟩, by simp [intOf]; omega⟩
  case rest =>
    obtain ⟨i8, rfl, H5⟩ := hcut
    obtain ⟨W5, hwf⟩ : ∃ we, we = wc := ⟨_, rfl⟩
    subst hwf
    have hSi := HSI.out us.length (Nat.le_refl _)
    obtain ⟨S, hS⟩ : ∃ s, Hid (s = seqOf (us.take us.length)) := ⟨_, Eq.refl _⟩
    rw [← hS.out] at H5 hSi HSc
    have HCp : Hid (Calls Try.prog 10 #[.pointer (some ⟨pa, 0, none⟩)] W5 fun e w' => ∃ pc, e = .returned (.pointer (some ⟨pc, 0, none⟩)) ∧ Tri w w' pa pb pc S S S) := H5.out.copy hSi.2 (by omega)
    have HS0 : Hid (CpI S S 30 0) := CpI.zero hSi.1 (hSi.2.mono hul) HSc.out
    have HSI1 : Hid (Inv S ∧ Size S 30) := ⟨hSi.1, hSi.2.mono hul⟩
    have HSl : Hid (S.units.length ≤ 30) := by
      have h1 := hSi.1.units_len
      have h2 := hSi.2.tot
      show S.units.length ≤ 30
      omega
    clear H4 HSI HSt HUok hS hSi HSc HVo H5
    generalize us.length = nu at *
    go_wp2_with fail
    refine HCp.out.mono ?_
    rintro e W6 ⟨pc, rfl, h6⟩
    have H6 : Hid (Tri w W6 pa pb pc S S S) := h6
    clear h6 HCp
    go_upto_block 2 with fail
    go_cut [10] (fun t wx => ∃ i C, t = .int .i64 i ∧ Hid (CpI S C 30 n1 ∧ Tri w wx pa pb pc S S C))
    case first =>
      clear HSI1 HSl
      go_wp2_with fail
      go_loopw [10] (fun v wr => ∃ (i : Nat) (C : SS), v = .int .i64 (i : Int) ∧ i ≤ n1 ∧ Hid (CpI S C 30 i ∧ Tri w wr pa pb pc S S C)) (fun v _ => (n1 - intOf v).toNat)
      case atStart => exact ⟨0, S, rfl, Nat.zero_le _, HS0.out, H6.out⟩
      case round =>
        obtain ⟨i, C, rfl, hi, HJ⟩ := hrel
        by_cases hlt : i < n1
        rotate_left
        · have hjl : i = n1 := by omega
          subst hjl
          clear HZ1 HS0 H6
          go_wp2_with fail
          go_meet
          case rel => exact ⟨_, C, rfl, HJ.out⟩
        · obtain ⟨g, o, x, rfl, x0, x1, hx⟩ := HZ1.out i hlt
          have HS' : Hid (∀ W, Touch (fun _ => False) wr W → W.cell? ⟨g, o + i, none⟩ = some (.int .u16 x)) := fun W t => hx W (HJ.out.2.1.trans t)
          have HId : Hid (∀ W, Calls Try.prog 11 #[.int .u64 50, .int .u64 ((i : Int) + 1)] W fun e w' => e = .returned (.agg #[.int .u64 50, .int .u64 ((i : Int) + 1)]) ∧ Touch (fun _ => False) W w') := fun W => id_any _ _ W
          have l0 : (i : Int) < (n1 : Int) := by omega
          have hib : i ≤ 30 := by omega
          have HStp : Hid (∀ m, C.may (cpU C i m) 1 = true ∧ CpI S (C.run (cpU C i m) 1) 30 (i + 1)) := fun m => HJ.out.1.step m (by omega) (by omega)
          have HUk : Hid (∀ m, (cpU C i m).ok) := fun m => HJ.out.1.uok m (by omega)
          have HTr : Hid (Tri w wr pa pb pc S S C) := HJ.out.2
          have HCz : Hid (Size C (30 + i)) := HJ.out.1.size
          have HCi : Hid (Inv C) := HJ.out.1.inv
          obtain ⟨cl, hcl⟩ : ∃ n : Nat, Hid (n = C.units.length) := ⟨_, Eq.refl _⟩
          have hclb : cl ≤ 100 := by
            have h1 := HCi.out.units_len
            have h2 := HCz.out.tot
            have h3 := hcl.out
            omega
          clear HZ1 HS0 H6 hx HJ
          have ew1 : IntKind.i64.wrap ((i : Int) + 1) = (i : Int) + 1 := by rw [IntKind.wrap_i64]; omega
          have ew2 : IntKind.u64.wrap ((i : Int) + 1) = (i : Int) + 1 := wrap_u64_small _ (by omega) (by omega)
          go_upto_region 16 with fail
          go_cut [11] (fun t wx => ∃ m, t = .pointer (some ⟨m, 0, none⟩) ∧ Hid (Touch (fun _ => False) wr wx ∧ wr.heap.size ≤ m ∧ wx.heap[m]? = some (unO ⟨50, (i : Int) + 1, 0, 0, 0, 0⟩)))
          case first =>
            go_wp2_with fail
            refine (HId.out _).mono ?_
            rintro e W7 ⟨rfl, t7⟩
            have HT7 : Hid (Touch (fun _ => False) wr W7) := t7
            clear t7
            go_wp2_with fail
            go_meet
            case rel => exact ⟨_, rfl, HT7.out.alloc _, HT7.out.size, heap_alloc_new _ _⟩
          case rest =>
            obtain ⟨m, rfl, H7⟩ := hcut
            obtain ⟨X, hwf⟩ : ∃ we, we = wc := ⟨_, rfl⟩
            subst hwf
            clear HId ew1 ew2
            obtain ⟨pm, hpm0⟩ : ∃ p, Hid (p = x % ((cl : Int) + 1)) := ⟨_, Eq.refl _⟩
            have hpmb : 0 ≤ pm ∧ pm ≤ 1000 := by
              have h1 := Int.emod_nonneg x (show ((cl : Int) + 1) ≠ 0 by omega)
              have h2 := Int.emod_lt_of_pos x (show 0 < ((cl : Int) + 1) by omega)
              have h3 := hpm0.out
              omega
            have hpm : x.tmod ((cl : Int) + 1) = pm := by rw [rem_u16 x cl x0 x1, hpm0.out]
            have hw64 : wrap64 x = x := wrap_64 x x0 x1
            have hwi : IntKind.i64.wrap x = x := by rw [IntKind.wrap_i64]; omega
            have ew : IntKind.i64.wrap ((cl : Int) + 1) = (cl : Int) + 1 := by rw [IntKind.wrap_i64]; omega
            have e40 : ((cl : Int) + 1 == 0) = false := by simp; omega
            have e41 : ¬ ((cl : Int) + 1 = 0) := by omega
            have e42 : ¬ ((cl : Int) + 1 = -1) := by omega
            have HTX0 : Hid (Tri w X pa pb pc S S C) := HTr.out.touch H7.out.1
            have HLn : Hid (∀ W, Touch (fun _ => False) X W → Calls Try.prog 13 #[.pointer (some ⟨pc, 0, none⟩)] W fun e w' => e = .returned (.int .i64 (cl : Int)) ∧ Touch (fun _ => False) W w') := fun W t => by
              rw [hcl.out]
              obtain ⟨_, _, _, _, _, _, h3, _, _⟩ := HTX0.out.touch t
              exact h3.len
            obtain ⟨xx, hxx⟩ : ∃ q, Hid (q = (C.at_ pm).1) := ⟨_, Eq.refl _⟩
            obtain ⟨xb, hxb⟩ : ∃ q, Hid (q = (C.at_ pm).2) := ⟨_, Eq.refl _⟩
            have HAt : Hid (∀ W, Touch (fun _ => False) X W → Calls Try.prog 12 #[.pointer (some ⟨pc, 0, none⟩), .int .i64 pm] W fun e w' => e = .returned (.tuple #[.agg #[.int .u64 xx.c, .int .u64 xx.k, .int .u64 xx.lc, .int .u64 xx.lk, .int .u64 xx.rc, .int .u64 xx.rk], .bool xb]) ∧ Touch (fun _ => False) W w') := fun W t => by
              rw [hxx.out, hxb.out]
              obtain ⟨_, _, _, _, _, _, h3, _, _⟩ := HTX0.out.touch t
              exact h3.at' pm (by omega)
            have HU : Hid (cpU C i pm = ⟨50, (i : Int) + 1, xx.c, xx.k, 0, 0⟩ ∧ (xb = false → xx = .zero)) := by
              refine ⟨by rw [hxx.out]; rfl, fun e => ?_⟩
              rw [hxx.out]
              rw [hxb.out] at e
              rcases at_zero HCi.out pm with e' | ⟨v, _, e'⟩
              · rw [e']
              · rw [e'] at e; cases e
            have HS : Hid (∀ W, Touch (fun _ => False) X W → W.cell? ⟨g, o + i, none⟩ = some (.int .u16 x)) := fun W t => HS'.out W (H7.out.1.trans t)
            have S0 := HS.out _ ((Touch.refl _ X).drew)
            have HTrW : Hid (∀ W, Touch (fun _ => False) wr W → Tri w W pa pb pc S S C) := fun W t => HTr.out.touch t
            clear HTr HS' hcl hxx hxb hpm0 HCi
            obtain ⟨xc, xk, xlc, xlk, xrc, xrk⟩ := xx
            simp only at HAt HU
            go_upto_region 17 with fail
            go_cut [12, 13] (fun t s wx => ∃ m2, t = .pointer (some ⟨m2, 0, none⟩) ∧ s = .bool xb ∧ Hid (Touch (fun _ => False) X wx ∧ wx.heap[m2]? = some (unO ⟨xc, xk, xlc, xlk, xrc, xrk⟩)))
            case first =>
              clear HStp HUk HCz HU HTX0 HTrW
              refine wp_region_held_drew (S := fun W : World => W.cell? ⟨g, o + i, none⟩ = some (.int .u16 x)) (by kernel_rfl) S0 (fun hHeld => ?_)
              refine wpAnyH_take (i := 0) (oi := { dst := some 65, op := Go.Op.move (Go.Operand.tmp 9), type := 24, pos := "more.go:26", after := #[], guard := none }) (v := .pointer (some ⟨pc, 0, none⟩)) rfl (by kernel_rfl) (by kernel_rfl) (by kernel_rfl) (fun _ _ _ h => h) (Or.inl ⟨by rfl, ?_⟩) hHeld ?_
              · intro w hSw; clear hSw; go_simp
              simp only [Act.put, List.setIfInBounds_toArray, List.set_cons_succ, List.set_cons_zero]
              refine wpAnyH_take (i := 1) (oi := { dst := some 66, op := Go.Op.move (Go.Operand.tmp 1), type := 22, pos := "more.go:26", after := #[], guard := none }) (v := .slice (some ⟨g, o, none⟩) n1 c1) rfl (by kernel_rfl) (by kernel_rfl) (by kernel_rfl) (fun _ _ _ h => h) (Or.inl ⟨by rfl, ?_⟩) hHeld ?_
              · intro w hSw; clear hSw; go_simp
              simp only [Act.put, List.setIfInBounds_toArray, List.set_cons_succ, List.set_cons_zero]
              refine wpAnyH_take (i := 2) (oi := { dst := some 67, op := Go.Op.move (Go.Operand.tmp 10), type := 3, pos := "more.go:26", after := #[], guard := none }) (v := .int .i64 (i : Int)) rfl (by kernel_rfl) (by kernel_rfl) (by kernel_rfl) (fun _ _ _ h => h) (Or.inl ⟨by rfl, ?_⟩) hHeld ?_
              · intro w hSw; clear hSw; go_simp
              simp only [Act.put, List.setIfInBounds_toArray, List.set_cons_succ, List.set_cons_zero]
              refine wpAnyH_take (i := 3) (oi := { dst := some 68, op := Go.Op.indexAddr 22 (Go.Operand.tmp 66) (Go.Operand.tmp 67), type := 0, pos := "more.go:26", after := #[{ on := 1, ground := Go.Ground.data }, { on := 2, ground := Go.Ground.data }], guard := none }) (v := .pointer (some ⟨g, o + i, none⟩)) rfl (by kernel_rfl) (by kernel_rfl) (by kernel_rfl) (fun _ _ _ h => h) (Or.inl ⟨by rfl, ?_⟩) hHeld ?_
              · intro w hSw; clear hSw; go_simp
              simp only [Act.put, List.setIfInBounds_toArray, List.set_cons_succ, List.set_cons_zero]
              refine wpAnyH_take (i := 4) (oi := { dst := some 69, op := Go.Op.load 37 (Go.Operand.tmp 68), type := 37, pos := "more.go:26", after := #[{ on := 3, ground := Go.Ground.data }], guard := none }) (v := .int .u16 x) rfl (by kernel_rfl) (by kernel_rfl) (by kernel_rfl) (fun _ _ _ h => h) (Or.inl ⟨by rfl, ?_⟩) hHeld ?_
              · intro w hSw; skip; go_simp
              simp only [Act.put, List.setIfInBounds_toArray, List.set_cons_succ, List.set_cons_zero]
              refine wpAnyH_take (i := 5) (oi := { dst := some 70, op := Go.Op.convert 37 3 (Go.Operand.tmp 69), type := 3, pos := "more.go:26", after := #[{ on := 4, ground := Go.Ground.data }], guard := none }) (v := .int .i64 x) rfl (by kernel_rfl) (by kernel_rfl) (by kernel_rfl) (fun _ _ _ h => h) (Or.inl ⟨by rfl, ?_⟩) hHeld ?_
              · intro w hSw; clear hSw; go_simp
              simp only [Act.put, List.setIfInBounds_toArray, List.set_cons_succ, List.set_cons_zero]
              refine wpAnyH_take (i := 6) (oi := { dst := some 71, op := Go.Op.move (Go.Operand.tmp 9), type := 24, pos := "more.go:26", after := #[], guard := none }) (v := .pointer (some ⟨pc, 0, none⟩)) rfl (by kernel_rfl) (by kernel_rfl) (by kernel_rfl) (fun _ _ _ h => h) (Or.inl ⟨by rfl, ?_⟩) hHeld ?_
              · intro w hSw; clear hSw; go_simp
              simp only [Act.put, List.setIfInBounds_toArray, List.set_cons_succ, List.set_cons_zero]
              refine wpAnyH_ready (rs := [7, 14]) (by kernel_rfl) (by simp) ?_
              refine (AllReadyH.cons (o := { dst := some 72, op := Go.Op.call { callee := Go.Callee.value (Go.Operand.func 13), args := #[Go.Operand.tmp 71], argTypes := #[24] }, type := 3, pos := "more.go:26", after := #[{ on := 6, ground := Go.Ground.data }], guard := none }) rfl (fun K hK => ?_) (AllReadyH.cons (o := { dst := some 12, op := Go.Op.alloc 33, type := 0, pos := "more.go:26", after := #[], guard := none }) rfl (fun K hK => ?_) AllReadyH.nil))
              · go_simp
                refine (HLn.out _ ((Touch.refl _ X).drew)).mono ?_
                rintro e w1 ⟨rfl, t1⟩
                have HT1 : Hid (Touch (fun _ => False) X w1 ∧ ∀ k o, X.heap.size ≤ k → (X).heap[k]? = some o → w1.heap[k]? = some o) := ⟨((Touch.refl _ X).drew).trans t1, fun k o _ h => heap_keep t1 h⟩
                have S1 := HS.out w1 HT1.out.1
                clear t1
                refine hK.out _ _ S1 (fun hHeld => ?_)
                clear hK K
                try simp only [Act.put, List.setIfInBounds_toArray, List.set_cons_succ, List.set_cons_zero]
                refine wpAnyH_take (i := 8) (oi := { dst := some 73, op := Go.Op.binOp Go.BinOp.add 3 (Go.Operand.tmp 72) (Go.Operand.const (Go.Value.int Go.IntKind.i64 1)) 3, type := 3, pos := "more.go:26", after := #[{ on := 7, ground := Go.Ground.data }], guard := none }) (v := .int .i64 ((cl : Int) + 1)) rfl (by kernel_rfl) (by kernel_rfl) (by kernel_rfl) (fun _ _ _ h => h) (Or.inl ⟨by rfl, ?_⟩) hHeld ?_
                · intro w hSw; clear hSw; go_simp
                simp only [Act.put, List.setIfInBounds_toArray, List.set_cons_succ, List.set_cons_zero]
                refine wpAnyH_take (i := 9) (oi := { dst := some 74, op := Go.Op.binOp Go.BinOp.rem 3 (Go.Operand.tmp 70) (Go.Operand.tmp 73) 3, type := 3, pos := "more.go:26", after := #[{ on := 5, ground := Go.Ground.data }, { on := 8, ground := Go.Ground.data }], guard := none }) (v := .int .i64 pm) rfl (by kernel_rfl) (by kernel_rfl) (by kernel_rfl) (fun _ _ _ h => h) (Or.inl ⟨by rfl, ?_⟩) hHeld ?_
                · intro w hSw; clear hSw; go_simp
                simp only [Act.put, List.setIfInBounds_toArray, List.set_cons_succ, List.set_cons_zero]
                refine wpAnyH_ready (rs := [10, 14]) (by kernel_rfl) (by simp) ?_
                refine (AllReadyH.cons (o := { dst := some 75, op := Go.Op.call { callee := Go.Callee.value (Go.Operand.func 12), args := #[Go.Operand.tmp 65, Go.Operand.tmp 74], argTypes := #[24, 3] }, type := 35, pos := "more.go:26", after := #[{ on := 0, ground := Go.Ground.data }, { on := 9, ground := Go.Ground.data }, { on := 7, ground := Go.Ground.chain }], guard := none }) rfl (fun K hK => ?_) (AllReadyH.cons (o := { dst := some 12, op := Go.Op.alloc 33, type := 0, pos := "more.go:26", after := #[], guard := none }) rfl (fun K hK => ?_) AllReadyH.nil))
                · go_simp
                  refine (HAt.out _ (HT1.out.1)).mono ?_
                  rintro e w2 ⟨rfl, t2⟩
                  have HT2 : Hid (Touch (fun _ => False) X w2 ∧ ∀ k o, w1.heap[k]? = some o → w2.heap[k]? = some o) := ⟨(HT1.out.1).trans t2, fun k o h => heap_keep t2 h⟩
                  have S2 := HS.out w2 HT2.out.1
                  clear t2
                  refine hK.out _ _ S2 (fun hHeld => ?_)
                  clear hK K
                  try simp only [Act.put, List.setIfInBounds_toArray, List.set_cons_succ, List.set_cons_zero]
                  refine wpAnyH_take (i := 11) (oi := { dst := some 64, op := Go.Op.move (Go.Operand.tmp 75), type := 35, pos := "more.go:26", after := #[{ on := 10, ground := Go.Ground.data }], guard := none }) (v := .tuple #[.agg #[.int .u64 xc, .int .u64 xk, .int .u64 xlc, .int .u64 xlk, .int .u64 xrc, .int .u64 xrk], .bool xb]) rfl (by kernel_rfl) (by kernel_rfl) (by kernel_rfl) (fun _ _ _ h => h) (Or.inl ⟨by rfl, ?_⟩) hHeld ?_
                  · intro w hSw; clear hSw; go_simp
                  simp only [Act.put, List.setIfInBounds_toArray, List.set_cons_succ, List.set_cons_zero]
                  refine wpAnyH_take (i := 12) (oi := { dst := some 76, op := Go.Op.extract (Go.Operand.tmp 64) 0, type := 33, pos := "more.go:26", after := #[{ on := 11, ground := Go.Ground.data }], guard := none }) (v := .agg #[.int .u64 xc, .int .u64 xk, .int .u64 xlc, .int .u64 xlk, .int .u64 xrc, .int .u64 xrk]) rfl (by kernel_rfl) (by kernel_rfl) (by kernel_rfl) (fun _ _ _ h => h) (Or.inl ⟨by rfl, ?_⟩) hHeld ?_
                  · intro w hSw; clear hSw; go_simp
                  simp only [Act.put, List.setIfInBounds_toArray, List.set_cons_succ, List.set_cons_zero]
                  refine wpAnyH_take (i := 13) (oi := { dst := some 77, op := Go.Op.extract (Go.Operand.tmp 64) 1, type := 4, pos := "more.go:26", after := #[{ on := 11, ground := Go.Ground.data }, { on := 15, ground := Go.Ground.gcOnly Go.Departure.lateStores }], guard := none }) (v := .bool xb) rfl (by kernel_rfl) (by kernel_rfl) (by kernel_rfl) (fun _ _ _ h => h) (Or.inl ⟨by rfl, ?_⟩) hHeld ?_
                  · intro w hSw; clear hSw; go_simp
                  simp only [Act.put, List.setIfInBounds_toArray, List.set_cons_succ, List.set_cons_zero]
                  refine wpAnyH_ready (rs := [14]) (by kernel_rfl) (by simp) ?_
                  refine (AllReadyH.cons (o := { dst := some 12, op := Go.Op.alloc 33, type := 0, pos := "more.go:26", after := #[], guard := none }) rfl (fun K hK => ?_) AllReadyH.nil)
                  go_simp
                  refine hK.out _ _ (show (w2.alloc zeroUO).cell? ⟨g, o + i, none⟩ = some (.int .u16 x) from HS.out _ (HT2.out.1.alloc _)) (fun hHeld => ?_)
                  clear hK K
                  try simp only [Act.put, List.setIfInBounds_toArray, List.set_cons_succ, List.set_cons_zero]
                  have HB : Hid ((w2.alloc zeroUO).heap[w2.heap.size]? = some (unO .zero)) := heap_alloc_new _ _
                  have HTh : Hid ((w2.alloc zeroUO).there w2.heap.size 0 6) := unO_there HB.out
                  have HTX : Hid (Touch (fun _ => False) X ((w2.alloc zeroUO).setCells w2.heap.size 0 [.int .u64 xc, .int .u64 xk, .int .u64 xlc, .int .u64 xlk, .int .u64 xrc, .int .u64 xrk]) ∧ ((w2.alloc zeroUO).setCells w2.heap.size 0 [.int .u64 xc, .int .u64 xk, .int .u64 xlc, .int .u64 xlk, .int .u64 xrc, .int .u64 xrk]).heap[w2.heap.size]? = some (unO ⟨xc, xk, xlc, xlk, xrc, xrk⟩)) := ⟨stored_fresh (HT2.out.1.alloc _) (HT2.out.1.size), unO_stored HB.out⟩
                  have S3 := HS.out _ HTX.out.1
                  refine wpAnyH_ready (rs := [15]) (by kernel_rfl) (by simp) ?_
                  refine (AllReadyH.cons (o := { dst := none, op := Go.Op.store 33 (Go.Operand.tmp 12) (Go.Operand.tmp 76), type := 0, pos := "more.go:26", after := #[{ on := 14, ground := Go.Ground.data }, { on := 12, ground := Go.Ground.data }, { on := 10, ground := Go.Ground.chain }, { on := 0, ground := Go.Ground.phase }, { on := 1, ground := Go.Ground.phase }, { on := 2, ground := Go.Ground.phase }, { on := 3, ground := Go.Ground.phase }, { on := 4, ground := Go.Ground.phase }, { on := 5, ground := Go.Ground.phase }, { on := 6, ground := Go.Ground.phase }, { on := 7, ground := Go.Ground.phase }, { on := 8, ground := Go.Ground.phase }, { on := 9, ground := Go.Ground.phase }, { on := 10, ground := Go.Ground.phase }, { on := 11, ground := Go.Ground.phase }, { on := 12, ground := Go.Ground.phase }, { on := 13, ground := Go.Ground.textOnly Go.Departure.lateStores }, { on := 14, ground := Go.Ground.phase }], guard := none }) rfl (fun K hK => ?_) AllReadyH.nil)
                  rw [if_pos (by rfl)]
                  refine wp_store_mid 33 (.tmp 12) (.tmp 76) rfl w2.heap.size 0 _ rfl rfl HTh.out (by kernel_rfl) (by kernel_rfl) ?_
                  refine hK.out _ _ S3 (fun hHeld => ?_)
                  clear hK K
                  try simp only [Act.put, List.setIfInBounds_toArray, List.set_cons_succ, List.set_cons_zero]
                  refine wpAnyH_take (i := 16) (oi := { dst := some 13, op := Go.Op.assign (Go.Operand.tmp 77), type := 4, pos := "more.go:26", after := #[{ on := 13, ground := Go.Ground.data }, { on := 15, ground := Go.Ground.chain }, { on := 0, ground := Go.Ground.phase }, { on := 1, ground := Go.Ground.phase }, { on := 2, ground := Go.Ground.phase }, { on := 3, ground := Go.Ground.phase }, { on := 4, ground := Go.Ground.phase }, { on := 5, ground := Go.Ground.phase }, { on := 6, ground := Go.Ground.phase }, { on := 7, ground := Go.Ground.phase }, { on := 8, ground := Go.Ground.phase }, { on := 9, ground := Go.Ground.phase }, { on := 10, ground := Go.Ground.phase }, { on := 11, ground := Go.Ground.phase }, { on := 12, ground := Go.Ground.phase }, { on := 13, ground := Go.Ground.phase }, { on := 14, ground := Go.Ground.phase }, { on := 15, ground := Go.Ground.phase }], guard := none }) (v := .bool xb) rfl (by kernel_rfl) (by kernel_rfl) (by kernel_rfl) (fun _ _ _ h => h) (Or.inl ⟨by rfl, ?_⟩) hHeld ?_
                  · intro w hSw; clear hSw; go_simp
                  simp only [Act.put, List.setIfInBounds_toArray, List.set_cons_succ, List.set_cons_zero]
                  refine wpAnyH_done (by kernel_rfl) ?_ _
                  try simp only [List.getElem_toArray, List.getElem_cons_succ, List.getElem_cons_zero, List.setIfInBounds_toArray, List.set_cons_succ, List.set_cons_zero]
                  try go_wp2_with fail
                  go_meet
                  case rel => exact ⟨_, rfl, rfl, HTX.out⟩
                · go_simp
                  refine hK.out _ _ (show (w1.alloc zeroUO).cell? ⟨g, o + i, none⟩ = some (.int .u16 x) from HS.out _ (HT1.out.1.alloc _)) (fun hHeld => ?_)
                  clear hK K
                  try simp only [Act.put, List.setIfInBounds_toArray, List.set_cons_succ, List.set_cons_zero]
                  refine wpAnyH_ready (rs := [10]) (by kernel_rfl) (by simp) ?_
                  refine (AllReadyH.cons (o := { dst := some 75, op := Go.Op.call { callee := Go.Callee.value (Go.Operand.func 12), args := #[Go.Operand.tmp 65, Go.Operand.tmp 74], argTypes := #[24, 3] }, type := 35, pos := "more.go:26", after := #[{ on := 0, ground := Go.Ground.data }, { on := 9, ground := Go.Ground.data }, { on := 7, ground := Go.Ground.chain }], guard := none }) rfl (fun K hK => ?_) AllReadyH.nil)
                  go_simp
                  refine (HAt.out _ (HT1.out.1.alloc _)).mono ?_
                  rintro e w2 ⟨rfl, t2⟩
                  have HT2 : Hid (Touch (fun _ => False) X w2 ∧ ∀ k o, (w1.alloc zeroUO).heap[k]? = some o → w2.heap[k]? = some o) := ⟨(HT1.out.1.alloc _).trans t2, fun k o h => heap_keep t2 h⟩
                  have S2 := HS.out w2 HT2.out.1
                  clear t2
                  refine hK.out _ _ S2 (fun hHeld => ?_)
                  clear hK K
                  try simp only [Act.put, List.setIfInBounds_toArray, List.set_cons_succ, List.set_cons_zero]
                  refine wpAnyH_take (i := 11) (oi := { dst := some 64, op := Go.Op.move (Go.Operand.tmp 75), type := 35, pos := "more.go:26", after := #[{ on := 10, ground := Go.Ground.data }], guard := none }) (v := .tuple #[.agg #[.int .u64 xc, .int .u64 xk, .int .u64 xlc, .int .u64 xlk, .int .u64 xrc, .int .u64 xrk], .bool xb]) rfl (by kernel_rfl) (by kernel_rfl) (by kernel_rfl) (fun _ _ _ h => h) (Or.inl ⟨by rfl, ?_⟩) hHeld ?_
                  · intro w hSw; clear hSw; go_simp
                  simp only [Act.put, List.setIfInBounds_toArray, List.set_cons_succ, List.set_cons_zero]
                  refine wpAnyH_take (i := 12) (oi := { dst := some 76, op := Go.Op.extract (Go.Operand.tmp 64) 0, type := 33, pos := "more.go:26", after := #[{ on := 11, ground := Go.Ground.data }], guard := none }) (v := .agg #[.int .u64 xc, .int .u64 xk, .int .u64 xlc, .int .u64 xlk, .int .u64 xrc, .int .u64 xrk]) rfl (by kernel_rfl) (by kernel_rfl) (by kernel_rfl) (fun _ _ _ h => h) (Or.inl ⟨by rfl, ?_⟩) hHeld ?_
                  · intro w hSw; clear hSw; go_simp
                  simp only [Act.put, List.setIfInBounds_toArray, List.set_cons_succ, List.set_cons_zero]
                  refine wpAnyH_take (i := 13) (oi := { dst := some 77, op := Go.Op.extract (Go.Operand.tmp 64) 1, type := 4, pos := "more.go:26", after := #[{ on := 11, ground := Go.Ground.data }, { on := 15, ground := Go.Ground.gcOnly Go.Departure.lateStores }], guard := none }) (v := .bool xb) rfl (by kernel_rfl) (by kernel_rfl) (by kernel_rfl) (fun _ _ _ h => h) (Or.inl ⟨by rfl, ?_⟩) hHeld ?_
                  · intro w hSw; clear hSw; go_simp
                  simp only [Act.put, List.setIfInBounds_toArray, List.set_cons_succ, List.set_cons_zero]
                  have HB : Hid (w2.heap[w1.heap.size]? = some (unO .zero)) := HT2.out.2 _ _ (heap_alloc_new _ _)
                  have HTh : Hid (w2.there w1.heap.size 0 6) := unO_there HB.out
                  have HTX : Hid (Touch (fun _ => False) X (w2.setCells w1.heap.size 0 [.int .u64 xc, .int .u64 xk, .int .u64 xlc, .int .u64 xlk, .int .u64 xrc, .int .u64 xrk]) ∧ (w2.setCells w1.heap.size 0 [.int .u64 xc, .int .u64 xk, .int .u64 xlc, .int .u64 xlk, .int .u64 xrc, .int .u64 xrk]).heap[w1.heap.size]? = some (unO ⟨xc, xk, xlc, xlk, xrc, xrk⟩)) := ⟨stored_fresh (HT2.out.1) (HT1.out.1.size), unO_stored HB.out⟩
                  have S3 := HS.out _ HTX.out.1
                  refine wpAnyH_ready (rs := [15]) (by kernel_rfl) (by simp) ?_
                  refine (AllReadyH.cons (o := { dst := none, op := Go.Op.store 33 (Go.Operand.tmp 12) (Go.Operand.tmp 76), type := 0, pos := "more.go:26", after := #[{ on := 14, ground := Go.Ground.data }, { on := 12, ground := Go.Ground.data }, { on := 10, ground := Go.Ground.chain }, { on := 0, ground := Go.Ground.phase }, { on := 1, ground := Go.Ground.phase }, { on := 2, ground := Go.Ground.phase }, { on := 3, ground := Go.Ground.phase }, { on := 4, ground := Go.Ground.phase }, { on := 5, ground := Go.Ground.phase }, { on := 6, ground := Go.Ground.phase }, { on := 7, ground := Go.Ground.phase }, { on := 8, ground := Go.Ground.phase }, { on := 9, ground := Go.Ground.phase }, { on := 10, ground := Go.Ground.phase }, { on := 11, ground := Go.Ground.phase }, { on := 12, ground := Go.Ground.phase }, { on := 13, ground := Go.Ground.textOnly Go.Departure.lateStores }, { on := 14, ground := Go.Ground.phase }], guard := none }) rfl (fun K hK => ?_) AllReadyH.nil)
                  rw [if_pos (by rfl)]
                  refine wp_store_mid 33 (.tmp 12) (.tmp 76) rfl w1.heap.size 0 _ rfl rfl HTh.out (by kernel_rfl) (by kernel_rfl) ?_
                  refine hK.out _ _ S3 (fun hHeld => ?_)
                  clear hK K
                  try simp only [Act.put, List.setIfInBounds_toArray, List.set_cons_succ, List.set_cons_zero]
                  refine wpAnyH_take (i := 16) (oi := { dst := some 13, op := Go.Op.assign (Go.Operand.tmp 77), type := 4, pos := "more.go:26", after := #[{ on := 13, ground := Go.Ground.data }, { on := 15, ground := Go.Ground.chain }, { on := 0, ground := Go.Ground.phase }, { on := 1, ground := Go.Ground.phase }, { on := 2, ground := Go.Ground.phase }, { on := 3, ground := Go.Ground.phase }, { on := 4, ground := Go.Ground.phase }, { on := 5, ground := Go.Ground.phase }, { on := 6, ground := Go.Ground.phase }, { on := 7, ground := Go.Ground.phase }, { on := 8, ground := Go.Ground.phase }, { on := 9, ground := Go.Ground.phase }, { on := 10, ground := Go.Ground.phase }, { on := 11, ground := Go.Ground.phase }, { on := 12, ground := Go.Ground.phase }, { on := 13, ground := Go.Ground.phase }, { on := 14, ground := Go.Ground.phase }, { on := 15, ground := Go.Ground.phase }], guard := none }) (v := .bool xb) rfl (by kernel_rfl) (by kernel_rfl) (by kernel_rfl) (fun _ _ _ h => h) (Or.inl ⟨by rfl, ?_⟩) hHeld ?_
                  · intro w hSw; clear hSw; go_simp
                  simp only [Act.put, List.setIfInBounds_toArray, List.set_cons_succ, List.set_cons_zero]
                  refine wpAnyH_done (by kernel_rfl) ?_ _
                  try simp only [List.getElem_toArray, List.getElem_cons_succ, List.getElem_cons_zero, List.setIfInBounds_toArray, List.set_cons_succ, List.set_cons_zero]
                  try go_wp2_with fail
                  go_meet
                  case rel => exact ⟨_, rfl, rfl, HTX.out⟩
              · go_simp
                refine hK.out _ _ (show (X.alloc zeroUO).drew.cell? ⟨g, o + i, none⟩ = some (.int .u16 x) from HS.out _ (((Touch.refl _ X).alloc _).drew)) (fun hHeld => ?_)
                clear hK K
                try simp only [Act.put, List.setIfInBounds_toArray, List.set_cons_succ, List.set_cons_zero]
                refine wpAnyH_ready (rs := [7]) (by kernel_rfl) (by simp) ?_
                refine (AllReadyH.cons (o := { dst := some 72, op := Go.Op.call { callee := Go.Callee.value (Go.Operand.func 13), args := #[Go.Operand.tmp 71], argTypes := #[24] }, type := 3, pos := "more.go:26", after := #[{ on := 6, ground := Go.Ground.data }], guard := none }) rfl (fun K hK => ?_) AllReadyH.nil)
                go_simp
                refine (HLn.out _ (((Touch.refl _ X).alloc _).drew)).mono ?_
                rintro e w1 ⟨rfl, t1⟩
                have HT1 : Hid (Touch (fun _ => False) X w1 ∧ ∀ k o, X.heap.size ≤ k → (X.alloc zeroUO).heap[k]? = some o → w1.heap[k]? = some o) := ⟨(((Touch.refl _ X).alloc _).drew).trans t1, fun k o _ h => heap_keep t1 h⟩
                have S1 := HS.out w1 HT1.out.1
                clear t1
                refine hK.out _ _ S1 (fun hHeld => ?_)
                clear hK K
                try simp only [Act.put, List.setIfInBounds_toArray, List.set_cons_succ, List.set_cons_zero]
                refine wpAnyH_take (i := 8) (oi := { dst := some 73, op := Go.Op.binOp Go.BinOp.add 3 (Go.Operand.tmp 72) (Go.Operand.const (Go.Value.int Go.IntKind.i64 1)) 3, type := 3, pos := "more.go:26", after := #[{ on := 7, ground := Go.Ground.data }], guard := none }) (v := .int .i64 ((cl : Int) + 1)) rfl (by kernel_rfl) (by kernel_rfl) (by kernel_rfl) (fun _ _ _ h => h) (Or.inl ⟨by rfl, ?_⟩) hHeld ?_
                · intro w hSw; clear hSw; go_simp
                simp only [Act.put, List.setIfInBounds_toArray, List.set_cons_succ, List.set_cons_zero]
                refine wpAnyH_take (i := 9) (oi := { dst := some 74, op := Go.Op.binOp Go.BinOp.rem 3 (Go.Operand.tmp 70) (Go.Operand.tmp 73) 3, type := 3, pos := "more.go:26", after := #[{ on := 5, ground := Go.Ground.data }, { on := 8, ground := Go.Ground.data }], guard := none }) (v := .int .i64 pm) rfl (by kernel_rfl) (by kernel_rfl) (by kernel_rfl) (fun _ _ _ h => h) (Or.inl ⟨by rfl, ?_⟩) hHeld ?_
                · intro w hSw; clear hSw; go_simp
                simp only [Act.put, List.setIfInBounds_toArray, List.set_cons_succ, List.set_cons_zero]
                refine wpAnyH_ready (rs := [10]) (by kernel_rfl) (by simp) ?_
                refine (AllReadyH.cons (o := { dst := some 75, op := Go.Op.call { callee := Go.Callee.value (Go.Operand.func 12), args := #[Go.Operand.tmp 65, Go.Operand.tmp 74], argTypes := #[24, 3] }, type := 35, pos := "more.go:26", after := #[{ on := 0, ground := Go.Ground.data }, { on := 9, ground := Go.Ground.data }, { on := 7, ground := Go.Ground.chain }], guard := none }) rfl (fun K hK => ?_) AllReadyH.nil)
                go_simp
                refine (HAt.out _ (HT1.out.1)).mono ?_
                rintro e w2 ⟨rfl, t2⟩
                have HT2 : Hid (Touch (fun _ => False) X w2 ∧ ∀ k o, w1.heap[k]? = some o → w2.heap[k]? = some o) := ⟨(HT1.out.1).trans t2, fun k o h => heap_keep t2 h⟩
                have S2 := HS.out w2 HT2.out.1
                clear t2
                refine hK.out _ _ S2 (fun hHeld => ?_)
                clear hK K
                try simp only [Act.put, List.setIfInBounds_toArray, List.set_cons_succ, List.set_cons_zero]
                refine wpAnyH_take (i := 11) (oi := { dst := some 64, op := Go.Op.move (Go.Operand.tmp 75), type := 35, pos := "more.go:26", after := #[{ on := 10, ground := Go.Ground.data }], guard := none }) (v := .tuple #[.agg #[.int .u64 xc, .int .u64 xk, .int .u64 xlc, .int .u64 xlk, .int .u64 xrc, .int .u64 xrk], .bool xb]) rfl (by kernel_rfl) (by kernel_rfl) (by kernel_rfl) (fun _ _ _ h => h) (Or.inl ⟨by rfl, ?_⟩) hHeld ?_
                · intro w hSw; clear hSw; go_simp
                simp only [Act.put, List.setIfInBounds_toArray, List.set_cons_succ, List.set_cons_zero]
                refine wpAnyH_take (i := 12) (oi := { dst := some 76, op := Go.Op.extract (Go.Operand.tmp 64) 0, type := 33, pos := "more.go:26", after := #[{ on := 11, ground := Go.Ground.data }], guard := none }) (v := .agg #[.int .u64 xc, .int .u64 xk, .int .u64 xlc, .int .u64 xlk, .int .u64 xrc, .int .u64 xrk]) rfl (by kernel_rfl) (by kernel_rfl) (by kernel_rfl) (fun _ _ _ h => h) (Or.inl ⟨by rfl, ?_⟩) hHeld ?_
                · intro w hSw; clear hSw; go_simp
                simp only [Act.put, List.setIfInBounds_toArray, List.set_cons_succ, List.set_cons_zero]
                refine wpAnyH_take (i := 13) (oi := { dst := some 77, op := Go.Op.extract (Go.Operand.tmp 64) 1, type := 4, pos := "more.go:26", after := #[{ on := 11, ground := Go.Ground.data }, { on := 15, ground := Go.Ground.gcOnly Go.Departure.lateStores }], guard := none }) (v := .bool xb) rfl (by kernel_rfl) (by kernel_rfl) (by kernel_rfl) (fun _ _ _ h => h) (Or.inl ⟨by rfl, ?_⟩) hHeld ?_
                · intro w hSw; clear hSw; go_simp
                simp only [Act.put, List.setIfInBounds_toArray, List.set_cons_succ, List.set_cons_zero]
                have HB : Hid (w2.heap[X.heap.size]? = some (unO .zero)) := HT2.out.2 _ _ (HT1.out.2 _ _ (Nat.le_refl _) (heap_alloc_new _ _))
                have HTh : Hid (w2.there X.heap.size 0 6) := unO_there HB.out
                have HTX : Hid (Touch (fun _ => False) X (w2.setCells X.heap.size 0 [.int .u64 xc, .int .u64 xk, .int .u64 xlc, .int .u64 xlk, .int .u64 xrc, .int .u64 xrk]) ∧ (w2.setCells X.heap.size 0 [.int .u64 xc, .int .u64 xk, .int .u64 xlc, .int .u64 xlk, .int .u64 xrc, .int .u64 xrk]).heap[X.heap.size]? = some (unO ⟨xc, xk, xlc, xlk, xrc, xrk⟩)) := ⟨stored_fresh (HT2.out.1) (Nat.le_refl _), unO_stored HB.out⟩
                have S3 := HS.out _ HTX.out.1
                refine wpAnyH_ready (rs := [15]) (by kernel_rfl) (by simp) ?_
                refine (AllReadyH.cons (o := { dst := none, op := Go.Op.store 33 (Go.Operand.tmp 12) (Go.Operand.tmp 76), type := 0, pos := "more.go:26", after := #[{ on := 14, ground := Go.Ground.data }, { on := 12, ground := Go.Ground.data }, { on := 10, ground := Go.Ground.chain }, { on := 0, ground := Go.Ground.phase }, { on := 1, ground := Go.Ground.phase }, { on := 2, ground := Go.Ground.phase }, { on := 3, ground := Go.Ground.phase }, { on := 4, ground := Go.Ground.phase }, { on := 5, ground := Go.Ground.phase }, { on := 6, ground := Go.Ground.phase }, { on := 7, ground := Go.Ground.phase }, { on := 8, ground := Go.Ground.phase }, { on := 9, ground := Go.Ground.phase }, { on := 10, ground := Go.Ground.phase }, { on := 11, ground := Go.Ground.phase }, { on := 12, ground := Go.Ground.phase }, { on := 13, ground := Go.Ground.textOnly Go.Departure.lateStores }, { on := 14, ground := Go.Ground.phase }], guard := none }) rfl (fun K hK => ?_) AllReadyH.nil)
                rw [if_pos (by rfl)]
                refine wp_store_mid 33 (.tmp 12) (.tmp 76) rfl X.heap.size 0 _ rfl rfl HTh.out (by kernel_rfl) (by kernel_rfl) ?_
                refine hK.out _ _ S3 (fun hHeld => ?_)
                clear hK K
                try simp only [Act.put, List.setIfInBounds_toArray, List.set_cons_succ, List.set_cons_zero]
                refine wpAnyH_take (i := 16) (oi := { dst := some 13, op := Go.Op.assign (Go.Operand.tmp 77), type := 4, pos := "more.go:26", after := #[{ on := 13, ground := Go.Ground.data }, { on := 15, ground := Go.Ground.chain }, { on := 0, ground := Go.Ground.phase }, { on := 1, ground := Go.Ground.phase }, { on := 2, ground := Go.Ground.phase }, { on := 3, ground := Go.Ground.phase }, { on := 4, ground := Go.Ground.phase }, { on := 5, ground := Go.Ground.phase }, { on := 6, ground := Go.Ground.phase }, { on := 7, ground := Go.Ground.phase }, { on := 8, ground := Go.Ground.phase }, { on := 9, ground := Go.Ground.phase }, { on := 10, ground := Go.Ground.phase }, { on := 11, ground := Go.Ground.phase }, { on := 12, ground := Go.Ground.phase }, { on := 13, ground := Go.Ground.phase }, { on := 14, ground := Go.Ground.phase }, { on := 15, ground := Go.Ground.phase }], guard := none }) (v := .bool xb) rfl (by kernel_rfl) (by kernel_rfl) (by kernel_rfl) (fun _ _ _ h => h) (Or.inl ⟨by rfl, ?_⟩) hHeld ?_
                · intro w hSw; clear hSw; go_simp
                simp only [Act.put, List.setIfInBounds_toArray, List.set_cons_succ, List.set_cons_zero]
                refine wpAnyH_done (by kernel_rfl) ?_ _
                try simp only [List.getElem_toArray, List.getElem_cons_succ, List.getElem_cons_zero, List.setIfInBounds_toArray, List.set_cons_succ, List.set_cons_zero]
                try go_wp2_with fail
                go_meet
                case rel => exact ⟨_, rfl, rfl, HTX.out⟩
            case rest =>
              obtain ⟨m2, rfl, rfl, H8⟩ := hcut
              obtain ⟨X8, hwf⟩ : ∃ we, we = wc := ⟨_, rfl⟩
              subst hwf
              clear HLn HAt HS S0 hpm hw64 hwi ew e40 e41 e42
              have HM8 : Hid (X8.heap[m]? = some (unO ⟨50, (i : Int) + 1, 0, 0, 0, 0⟩)) := heap_keep H8.out.1 H7.out.2.2
              have HMX : Hid (X.heap.size ≤ X8.heap.size ∧ wr.heap.size ≤ m) := ⟨H8.out.1.size, H7.out.2.1⟩
              have HT8 : Hid (Touch (fun _ => False) wr X8) := H7.out.1.trans H8.out.1
              have HTr8 : Hid (∀ W, Touch (fun _ => False) wr W → Tri w W pa pb pc S S C) := HTrW.out
              go_upto_if 78 with fail
              go_cut [11] (fun t wx => t = .pointer (some ⟨m, 0, none⟩) ∧ Hid (Touch (fun _ => False) wr wx ∧ wx.heap[m]? = some (unO ⟨50, (i : Int) + 1, xc, xk, 0, 0⟩)))
              case first =>
                clear HStp HUk HCz HTX0 HTr8
                cases xb with
                | true =>
                  obtain ⟨q0, q1, -, -, -, -⟩ := unO_cells H8.out.2
                  obtain ⟨-, -, p2, p3, -, -⟩ := unO_cells HM8.out
                  have z2 : X8.frozen? ⟨m, 2, none⟩ = false := free_of_block HM8.out
                  have z3 : X8.frozen? ⟨m, 3, none⟩ = false := free_of_block HM8.out
                  have s3 := heap_setCell_same X8 m 2 (.int .u64 xc) HM8.out
                  have p3' : (X8.setCell ⟨m, 2, none⟩ (.int .u64 xc)).cell? ⟨m, 3, none⟩ = some (.int .u64 0) := by rw [cell_of_block s3]; rfl
                  have z3' : (X8.setCell ⟨m, 2, none⟩ (.int .u64 xc)).frozen? ⟨m, 3, none⟩ = false := free_of_block s3
                  have HS9 : Hid (Touch (fun _ => False) wr ((X8.setCell ⟨m, 2, none⟩ (.int .u64 xc)).setCell ⟨m, 3, none⟩ (.int .u64 xk)) ∧ ((X8.setCell ⟨m, 2, none⟩ (.int .u64 xc)).setCell ⟨m, 3, none⟩ (.int .u64 xk)).heap[m]? = some (unO ⟨50, (i : Int) + 1, xc, xk, 0, 0⟩)) := ⟨(HT8.out.fresh _ _ _ HMX.out.2).fresh _ _ _ HMX.out.2, unO_set2 HM8.out _ _⟩
                  clear s3 HU
                  go_wp2_with fail
                  go_meet
                  case rel => exact ⟨rfl, HS9.out⟩
                | false =>
                  have HZ : Hid (xc = 0 ∧ xk = 0) := by
                    have := HU.out.2 rfl
                    simp only [Un.mk.injEq] at this
                    exact ⟨this.1, this.2.1⟩
                  clear HU
                  go_wp2_with fail
                  go_meet
                  case rel => exact ⟨rfl, HT8.out, by rw [HZ.out.1, HZ.out.2]; exact HM8.out⟩
              case rest =>
                obtain ⟨rfl, H9⟩ := hcut
                obtain ⟨X9, hwf⟩ : ∃ we, we = wc := ⟨_, rfl⟩
                subst hwf
                have hst := HStp.out pm
                have huk := HUk.out pm
                rw [HU.out.1] at hst huk
                have HIn : Hid (Calls Try.prog 9 #[.pointer (some ⟨pc, 0, none⟩), .agg #[.int .u64 50, .int .u64 ((i : Int) + 1), .int .u64 xc, .int .u64 xk, .int .u64 0, .int .u64 0]] X9 fun e w' => e = .returned (.bool true) ∧ Tri w w' pa pb pc S S (C.run ⟨50, (i : Int) + 1, xc, xk, 0, 0⟩ 1)) := by
                  have := (HTr8.out _ H9.out.1).ins ⟨50, (i : Int) + 1, xc, xk, 0, 0⟩ huk HCz.out (by omega)
                  rw [hst.1] at this
                  exact this
                have HFin : Hid (CpI S (C.run ⟨50, (i : Int) + 1, xc, xk, 0, 0⟩ 1) 30 (i + 1)) := hst.2
                obtain ⟨q0, q1, q2, q3, q4, q5⟩ := unO_cells H9.out.2
                clear hst huk HStp HUk HU HTX0 HTr8 HCz
                generalize C.run ⟨50, (i : Int) + 1, xc, xk, 0, 0⟩ 1 = C' at *
                go_wp2_with fail
                refine HIn.out.mono ?_
                rintro e X10 ⟨rfl, h10⟩
                have H10 : Hid (CpI S C' 30 (i + 1) ∧ Tri w X10 pa pb pc S S C') := ⟨HFin.out, h10⟩
                clear h10 HIn HFin q0 q1 q2 q3 q4 q5
                go_wp2_with fail
                exact ⟨⟨i + 1, C', by go_num, by omega, H10.out⟩, by simp [intOf]; omega⟩
    case rest =>
      obtain ⟨i10, C, rfl, H7⟩ := hcut
      obtain ⟨W7, hwf⟩ : ∃ we, we = wc := ⟨_, rfl⟩
      subst hwf
      obtain ⟨al, hal⟩ : ∃ n : Nat, Hid (n = S.units.length) := ⟨_, Eq.refl _⟩
      have halb : al ≤ 30 := by rw [hal.out]; exact HSl.out
      have HLa : Hid (∀ W, Touch (fun _ => False) W7 W → Calls Try.prog 13 #[.pointer (some ⟨pa, 0, none⟩)] W fun e w' => e = .returned (.int .i64 (al : Int)) ∧ Touch (fun _ => False) W w') := fun W t => by
        rw [hal.out]
        obtain ⟨_, _, _, _, h1, _, _, _, _⟩ := H7.out.2.touch t
        exact h1.len
      have HLb : Hid (∀ W, Touch (fun _ => False) W7 W → Calls Try.prog 13 #[.pointer (some ⟨pb, 0, none⟩)] W fun e w' => e = .returned (.int .i64 (al : Int)) ∧ Touch (fun _ => False) W w') := fun W t => by
        rw [hal.out]
        obtain ⟨_, _, _, _, _, h2, _, _, _⟩ := H7.out.2.touch t
        exact h2.len
      have HLc : Hid (∀ W, Touch (fun _ => False) W7 W → Calls Try.prog 13 #[.pointer (some ⟨pc, 0, none⟩)] W fun e w' => e = .returned (.int .i64 ((al : Int) + (n1 : Int))) ∧ Touch (fun _ => False) W w') := fun W t => by
        obtain ⟨_, _, _, _, _, _, h3, _, _⟩ := H7.out.2.touch t
        have h4 := h3.len
        have h5 := H7.out.1.len
        rw [h5, ← hal.out] at h4
        have e : ((al + n1 : Nat) : Int) = (al : Int) + (n1 : Int) := by omega
        rw [e] at h4
        exact h4
      have HX : Hid (∀ j, j < al → ∃ v : Un, (∀ W, Touch (fun _ => False) W7 W → Calls Try.prog 12 #[.pointer (some ⟨pa, 0, none⟩), .int .i64 (j : Int)] W fun e w' => e = .returned (.tuple #[.agg #[.int .u64 v.c, .int .u64 v.k, .int .u64 v.lc, .int .u64 v.lk, .int .u64 v.rc, .int .u64 v.rk], .bool true]) ∧ Touch (fun _ => False) W w') ∧ (∀ W, Touch (fun _ => False) W7 W → Calls Try.prog 12 #[.pointer (some ⟨pb, 0, none⟩), .int .i64 (j : Int)] W fun e w' => e = .returned (.tuple #[.agg #[.int .u64 v.c, .int .u64 v.k, .int .u64 v.lc, .int .u64 v.lk, .int .u64 v.rc, .int .u64 v.rk], .bool true]) ∧ Touch (fun _ => False) W w') ∧ ∃ f : Int, 0 ≤ f ∧ ∀ W, Touch (fun _ => False) W7 W → Calls Try.prog 14 #[.pointer (some ⟨pc, 0, none⟩), .agg #[.int .u64 v.c, .int .u64 v.k]] W fun e w' => e = .returned (.int .i64 f) ∧ Touch (fun _ => False) W w') := fun j hj => by
        have hj' : j < S.units.length := by rw [← hal.out]; exact hj
        have hat := HSI1.out.1.at_units j hj'
        have hv : S.units[j] ∈ S.units := List.getElem_mem hj'
        have hok := HSI1.out.1.units_ok hv
        refine ⟨S.units[j], fun W t => ?_, fun W t => ?_, C.find S.units[j].c S.units[j].k, H7.out.1.find hv, fun W t => ?_⟩
        · obtain ⟨_, _, _, _, h1, _, _, _, _⟩ := H7.out.2.touch t
          have := h1.at' (j : Int) (by omega)
          rw [hat] at this
          exact this
        · obtain ⟨_, _, _, _, _, h2, _, _, _⟩ := H7.out.2.touch t
          have := h2.at' (j : Int) (by omega)
          rw [hat] at this
          exact this
        · obtain ⟨_, _, _, _, _, _, h3, _, _⟩ := H7.out.2.touch t
          exact h3.find _ _ (by omega) (by omega) (by omega)
      have HT7 : Hid (Touch (fun _ => False) w W7) := H7.out.2.1
      have ew : IntKind.i64.wrap ((al : Int) + (n1 : Int)) = (al : Int) + (n1 : Int) := by rw [IntKind.wrap_i64]; omega
      clear H7 hal HSl HSI1 HZ1 HS0 H6
      go_wp2_with fail
      refine (HLa.out _ (Touch.refl _ _)).mono ?_
      rintro e Y1 ⟨rfl, t1⟩
      have HY1 : Hid (Touch (fun _ => False) W7 Y1) := t1
      clear t1
      go_wp2_with fail
      refine (HLb.out _ HY1.out).mono ?_
      rintro e Y2 ⟨rfl, t2⟩
      have HY2 : Hid (Touch (fun _ => False) W7 Y2) := HY1.out.trans t2
      clear t2 HY1
      go_wp2_with fail
      refine (HLc.out _ HY2.out).mono ?_
      rintro e Y3 ⟨rfl, t3⟩
      have HY3 : Hid (Touch (fun _ => False) W7 Y3) := HY2.out.trans t3
      clear t3 HY2
      go_wp2_with fail
      refine (HLa.out _ HY3.out).mono ?_
      rintro e Y4 ⟨rfl, t4⟩
      have HY4 : Hid (Touch (fun _ => False) W7 Y4) := HY3.out.trans t4
      clear t4 HY3
      go_wp2_with fail
      go_loopw [14] (fun v wr => ∃ j : Nat, v = .int .i64 (j : Int) ∧ j ≤ al ∧ Hid (Touch (fun _ => False) W7 wr)) (fun v _ => (al - intOf v).toNat)
      case atStart => exact ⟨0, rfl, Nat.zero_le _, HY4.out⟩
      case round =>
        obtain ⟨j, rfl, hj, HJ⟩ := hrel
        clear HY4
        by_cases hlt : j < al
        rotate_left
        · have hjl : j = al := by omega
          subst hjl
          clear HX
          go_wp2_with fail
          refine (HLa.out _ HJ.out).mono ?_
          rintro e Z1 ⟨rfl, t1⟩
          have HZ1 : Hid (Touch (fun _ => False) W7 Z1) := HJ.out.trans t1
          clear t1
          go_wp2_with fail
          go_ret
          exact ⟨rfl, HT7.out.trans HZ1.out⟩
        · obtain ⟨v, ha, hb, f, hf, hc⟩ := HX.out j hlt
          have HA : Hid (∀ W, Touch (fun _ => False) W7 W → Calls Try.prog 12 #[.pointer (some ⟨pa, 0, none⟩), .int .i64 (j : Int)] W fun e w' => e = .returned (.tuple #[.agg #[.int .u64 v.c, .int .u64 v.k, .int .u64 v.lc, .int .u64 v.lk, .int .u64 v.rc, .int .u64 v.rk], .bool true]) ∧ Touch (fun _ => False) W w') := ha
          have HB : Hid (∀ W, Touch (fun _ => False) W7 W → Calls Try.prog 12 #[.pointer (some ⟨pb, 0, none⟩), .int .i64 (j : Int)] W fun e w' => e = .returned (.tuple #[.agg #[.int .u64 v.c, .int .u64 v.k, .int .u64 v.lc, .int .u64 v.lk, .int .u64 v.rc, .int .u64 v.rk], .bool true]) ∧ Touch (fun _ => False) W w') := hb
          have HC : Hid (∀ W, Touch (fun _ => False) W7 W → Calls Try.prog 14 #[.pointer (some ⟨pc, 0, none⟩), .agg #[.int .u64 v.c, .int .u64 v.k]] W fun e w' => e = .returned (.int .i64 f) ∧ Touch (fun _ => False) W w') := hc
          clear ha hb hc HX
          have l0 : (j : Int) < (al : Int) := by omega
          have hf' : ¬ f < 0 := by omega
          go_wp2_with fail
          refine (HLa.out _ HJ.out).mono ?_
          rintro e Z1 ⟨rfl, t1⟩
          have HZ1 : Hid (Touch (fun _ => False) W7 Z1) := HJ.out.trans t1
          clear t1
          go_wp2_with fail
          refine (HA.out _ HZ1.out).mono ?_
          rintro e Z2 ⟨rfl, t2⟩
          have HZ2 : Hid (Touch (fun _ => False) W7 (Z2.alloc (unO v)) ∧ (Z2.alloc (unO v)).heap[Z2.heap.size]? = some (unO v)) := ⟨(HZ1.out.trans t2).alloc _, heap_alloc_new _ _⟩
          clear t2 HA HZ1
          go_upto_region 28 with fail
          obtain ⟨Z3, hZ3⟩ : ∃ X, Hid (X = Z2.alloc (unO v)) := ⟨_, Eq.refl _⟩
          rw [← hZ3.out] at HZ2 ⊢
          clear hZ3
          generalize Z2.heap.size = mx at *
          go_wp2_with fail
          refine (HB.out _ HZ2.out.1).mono ?_
          rintro e Z4 ⟨rfl, t4⟩
          have HZ4 : Hid (Touch (fun _ => False) W7 (Z4.alloc (unO v)) ∧ (Z4.alloc (unO v)).heap[mx]? = some (unO v) ∧ (Z4.alloc (unO v)).heap[Z4.heap.size]? = some (unO v)) := ⟨(HZ2.out.1.trans t4).alloc _, heap_keep (t4.alloc _) HZ2.out.2, heap_alloc_new _ _⟩
          clear t4 HB HZ2
          go_upto_region 29 with fail
          obtain ⟨Z5, hZ5⟩ : ∃ X, Hid (X = Z4.alloc (unO v)) := ⟨_, Eq.refl _⟩
          rw [← hZ5.out] at HZ4 ⊢
          clear hZ5
          generalize Z4.heap.size = my at *
          obtain ⟨q0, q1, q2, q3, q4, q5⟩ := unO_cells HZ4.out.2.1
          obtain ⟨r0, r1, r2, r3, r4, r5⟩ := unO_cells HZ4.out.2.2
          obtain ⟨vc, vk, vlc, vlk, vrc, vrk⟩ := v
          simp only at q0 q1 q2 q3 q4 q5 r0 r1 r2 r3 r4 r5 HC
          have b0 : (vc == vc) = true := by simp
          have b1 : (vk == vk) = true := by simp
          have b2 : (vlc == vlc) = true := by simp
          have b3 : (vlk == vlk) = true := by simp
          have b4 : (vrc == vrc) = true := by simp
          have b5 : (vrk == vrk) = true := by simp
          go_wp2_with fail
          refine (HC.out _ HZ4.out.1).mono ?_
          rintro e Z6 ⟨rfl, t6⟩
          have HZ6 : Hid (Touch (fun _ => False) W7 Z6) := HZ4.out.1.trans t6
          clear t6 HC HZ4 q0 q1 q2 q3 q4 q5 r0 r1 r2 r3 r4 r5 b0 b1 b2 b3 b4 b5
          go_wp2_with fail
          exact ⟨⟨j + 1, by go_num, by omega, HZ6.out⟩, by simp [intOf]; omega⟩
end Go.Proofs.Ytcolbgbmnmkogab
