/- quirelaw9.SeqNoMix: two writers who write at one place have their texts one behind the other. -/
import Derived.Test.YtnbphdmpbjahhaaPart30
import Derived.Test.YtnbphdmpbjahhaaPart31
import Derived.Test.YtnbphdmpbjahhaaGrown
import Derived.Test.YtnbphdmpbjahhaaPart34
import Derived.Deep.CutBlock
namespace Go.Proofs.Ytnbphdmpbjahhaa
open Go.RowKit
set_option linter.unusedVariables false
set_option linter.unusedSimpArgs false
set_option maxRecDepth 100000

set_option maxHeartbeats 16000000 in
theorem seqNoMix_any (w : World) (ao0 : Option Addr) (zs0 : List Int) (n0 c0 : Nat) (hn0 : n0 = zs0.length) (hz0 : LiesK w .u16 ao0 zs0) (hm0 : c0 ≤ maxLen) (hc0 : n0 ≤ c0) (hr0 : ∀ y ∈ zs0, 0 ≤ y ∧ y < 65536) (at0 : Int) (hat0 : -9223372036854775808 ≤ at0 ∧ at0 ≤ 9223372036854775807) (nn0 : Int) (hnn0 : -9223372036854775808 ≤ nn0 ∧ nn0 ≤ 9223372036854775807) (mm0 : Int) (hmm0 : -9223372036854775808 ≤ mm0 ∧ mm0 ≤ 9223372036854775807) (back : Bool) :
    Calls Try.prog 8 #[.slice ao0 n0 c0, .int .i64 at0, .int .i64 nn0, .int .i64 mm0, .bool back] w fun e w' => e = .returned (.bool true) ∧ Touch (fun _ => False) w w' := by
  obtain ⟨E, hE⟩ : ∃ E, Hid (E = w.alloc (blO back)) := ⟨_, Eq.refl _⟩
  have HTE : Hid (Touch (fun _ => False) w E) := by rw [hE.out]; exact (Touch.refl _ _).alloc _
  have HEb : Hid (E.heap[w.heap.size]? = some (blO back)) := by rw [hE.out]; exact heap_alloc_new _ _
  have HK : Hid (Calls Try.prog 9 #[] E fun e w' => e = .returned (.bool true) ∧ Touch (fun _ => False) E w') := known_any E
  have hx0 : (n0 : Int) ≤ 9223372036854775807 := by unfold maxLen at hm0; omega
  clear hm0 hc0
  by_cases h0 : 40 < n0
  · have g0 : (40 : Int) < (n0 : Int) := by omega
    clear h0 hz0 hr0
    go_enter Try.func8, Try.ntmps8
    go_wp2_with fail
    rw [← hE.out]
    refine HK.out.mono ?_
    rintro e W1 ⟨rfl, t1⟩
    have HT1 : Hid (Touch (fun _ => False) w W1) := HTE.out.trans t1
    clear t1 HK
    go_wp2_with fail
    go_ret
    exact ⟨rfl, HT1.out⟩
  have g0 : ¬ (40 : Int) < (n0 : Int) := by omega
  obtain ⟨us, hus⟩ : ∃ us, Hid (us = (grownG zs0).out) := ⟨_, Eq.refl _⟩
  obtain ⟨gok, ginv⟩ := grown_ok zs0 hr0 (by omega)
  have hul : us.length ≤ 40 := by
    have := ginv.out
    rw [hus.out]; omega
  have HUok : Hid (∀ u ∈ us, u.ok ∧ u.c ≤ 4) := fun u hu => by
    rw [hus.out] at hu
    exact ⟨(gok.ok u hu).1, (gok.ok u hu).2.2.1⟩
  have HSI : Hid (∀ j, j ≤ us.length → Inv (seqOf (us.take j)) ∧ Size (seqOf (us.take j)) j) := seqOf_inv us (fun u hu => (HUok.out u hu).1) (by omega)
  have HSt : Hid (∀ j (hj : j < us.length), seqOf (us.take (j + 1)) = (seqOf (us.take j)).run us[j] 1) := seqOf_take us
  have HSc : Hid (∀ v ∈ (seqOf (us.take us.length)).units, v.c ≤ 900) := fun v hv => by
    have := (HUok.out v (seqOf_mem us (fun u hu => (HUok.out u hu).1) (by omega) us.length (Nat.le_refl _) v hv)).2
    omega
  have HCo : Hid (∃ sp, Corr (seqOf (us.take us.length)) (treeOf (us.take us.length)) sp) := seqOf_corr us (fun u hu => (HUok.out u hu).1) (by omega) us.length (Nat.le_refl _)
  have HG : Hid (∀ W, Touch (fun _ => False) w W → Calls Try.prog 18 #[.slice ao0 n0 c0] W fun e w' => ∃ v, e = .returned v ∧ NewV W w' v us) := fun W t => by
    rw [hn0, hus.out]
    exact grown_any zs0 (hz0.touch t) hr0 (by omega)
  have HN : Hid (∀ W, Touch (fun _ => False) w W → Calls Try.prog 10 #[] W fun e w' => ∃ p B, e = .returned (.pointer (some ⟨p, 0, none⟩)) ∧ Sq1 w w' p B .new ∧ (∀ k, B.has k → W.heap.size ≤ k) ∧ Touch (fun _ => False) W w') := fun W t => Sq1.fresh w W t
  clear h0 hz0 hr0 gok ginv hn0 hus
  go_enter Try.func8, Try.ntmps8
  go_wp2_with fail
  rw [← hE.out]
  clear hE
  obtain ⟨mb, hmb⟩ : ∃ m, Hid (m = w.heap.size) := ⟨_, Eq.refl _⟩
  rw [← hmb.out] at HEb ⊢
  refine HK.out.mono ?_
  rintro e W1 ⟨rfl, t1⟩
  have HT1 : Hid (Touch (fun _ => False) w W1 ∧ W1.heap[mb]? = some (blO back)) := ⟨HTE.out.trans t1, heap_keep t1 HEb.out⟩
  clear t1 HK HTE HEb hmb
  go_wp2_with fail
  refine (HG.out _ HT1.out.1).mono ?_
  rintro e W2 ⟨v, rfl, n2⟩
  have H2 : Hid (NewV w W2 v us ∧ W2.heap[mb]? = some (blO back)) := ⟨n2.since HT1.out.1, heap_keep n2.touch HT1.out.2⟩
  obtain ⟨vo, vcap, rfl, hvo, -⟩ := n2.shape
  have HVo : Hid (0 < us.length → ∃ g, vo = some ⟨g, 0, none⟩) := hvo
  clear n2 HG HT1 hvo
  go_wp2_with fail
  refine (HN.out _ H2.out.1.touch).mono ?_
  rintro e W3 ⟨pa, A, rfl, a3, -, t3⟩
  have H3 : Hid (NmG w (W3.alloc (ptO pa)) pa W3.heap.size mb .new back (.slice vo us.length vcap) us) := ⟨⟨A, a3.touch ((Touch.refl _ _).alloc _), H2.out.1.on (t3.alloc _)⟩, heap_alloc_new _ _, heap_keep (t3.alloc _) H2.out.2⟩
  clear a3 t3 HN H2
  go_upto_block 0 with fail
  obtain ⟨X3, hX3⟩ : ∃ X, Hid (X = W3.alloc (ptO pa)) := ⟨_, Eq.refl _⟩
  rw [← hX3.out] at H3 ⊢
  clear hX3
  generalize W3.heap.size = ms at *
  go_cut [13] (fun t wx => ∃ i, t = .int .i64 i ∧ Hid (NmG w wx pa ms mb (seqOf (us.take us.length)) back (.slice vo us.length vcap) us))
  case first =>
    clear HSc HCo
    go_wp2_with fail
    go_loopw [13] (fun i wr => ∃ j : Nat, i = .int .i64 (j : Int) ∧ j ≤ us.length ∧ Hid (NmG w wr pa ms mb (seqOf (us.take j)) back (.slice vo us.length vcap) us)) (fun i _ => (us.length - intOf i).toNat)
    case atStart => exact ⟨0, rfl, Nat.zero_le _, H3.out⟩
    case round =>
      obtain ⟨j, rfl, hj, HJ⟩ := hrel
      by_cases hlt : j < us.length
      rotate_left
      · have hjl : j = us.length := by omega
        have HF : Hid (NmG w wr pa ms mb (seqOf (us.take us.length)) back (.slice vo us.length vcap) us) := by
          have := HJ.out
          rw [hjl] at this
          exact this
        clear HJ HSI HSt HUok H3
        generalize us.length = nu at *
        go_wp2_with fail
        go_meet
        case rel => exact ⟨_, rfl, HF.out⟩
      · obtain ⟨g, rfl⟩ := HVo.out (by omega)
        have hS := HSI.out j hj
        have hu := (HUok.out us[j] (List.getElem_mem hlt)).1
        have HS1 := HSt.out j hlt
        have HA : Hid (∀ W, NmG w W pa ms mb (seqOf (us.take j)) back (.slice (some ⟨g, 0, none⟩) us.length vcap) us → Calls Try.prog 14 #[.pointer (some ⟨pa, 0, none⟩), .agg #[.int .u64 us[j].c, .int .u64 us[j].k, .int .u64 us[j].lc, .int .u64 us[j].lk, .int .u64 us[j].rc, .int .u64 us[j].rk]] W fun e w' => e = .returned (.bool ((seqOf (us.take j)).may us[j] 1)) ∧ NmG w w' pa ms mb (seqOf (us.take (j + 1))) back (.slice (some ⟨g, 0, none⟩) us.length vcap) us) := fun W h => by
          rw [HS1]; exact h.ins _ hu hS.2 (by omega)
        have HCl : Hid (∀ W S, NmG w W pa ms mb S back (.slice (some ⟨g, 0, none⟩) us.length vcap) us → W.cell? ⟨ms, 0, none⟩ = some (.pointer (some ⟨pa, 0, none⟩)) ∧ W.cell? ⟨g, j * 6, none⟩ = some (.int .u64 us[j].c) ∧ W.cell? ⟨g, j * 6 + 1, none⟩ = some (.int .u64 us[j].k) ∧ W.cell? ⟨g, j * 6 + 2, none⟩ = some (.int .u64 us[j].lc) ∧ W.cell? ⟨g, j * 6 + 3, none⟩ = some (.int .u64 us[j].lk) ∧ W.cell? ⟨g, j * 6 + 4, none⟩ = some (.int .u64 us[j].rc) ∧ W.cell? ⟨g, j * 6 + 5, none⟩ = some (.int .u64 us[j].rk)) := fun W S h => ⟨h.toF.cells.1, h.one.cells j hlt⟩
        clear hS hu HS1 HSI HSt HUok H3
        have l0 : (j : Int) < (us.length : Int) := by omega
        generalize (seqOf (us.take j)).may us[j] 1 = mb' at *
        generalize us[j] = u at *
        obtain ⟨uc, uk, ulc, ulk, urc, urk⟩ := u
        simp only at HA HCl
        have HJd : Hid (NmG w wr.drew pa ms mb (seqOf (us.take j)) back (.slice (some ⟨g, 0, none⟩) us.length vcap) us) := HJ.out.on (Touch.refl _ _).drew
        have S0 := HCl.out _ _ HJd.out
        go_upto_region 10 with fail
        go_region_held3 (fun W => W.cell? ⟨ms, 0, none⟩ = some (.pointer (some ⟨pa, 0, none⟩)) ∧ W.cell? ⟨g, j * 6, none⟩ = some (.int .u64 uc) ∧ W.cell? ⟨g, j * 6 + 1, none⟩ = some (.int .u64 uk) ∧ W.cell? ⟨g, j * 6 + 2, none⟩ = some (.int .u64 ulc) ∧ W.cell? ⟨g, j * 6 + 3, none⟩ = some (.int .u64 ulk) ∧ W.cell? ⟨g, j * 6 + 4, none⟩ = some (.int .u64 urc) ∧ W.cell? ⟨g, j * 6 + 5, none⟩ = some (.int .u64 urk)) (first | assumption | exact S0)
          (first | (go_at_call 14; (with_reducible refine (HA.out _ HJd.out).mono ?_); rintro e W5 ⟨rfl, h5⟩; have H5 : Hid (NmG w W5 pa ms mb (seqOf (us.take (j + 1))) back (.slice (some ⟨g, 0, none⟩) us.length vcap) us) := h5; have S5 := HCl.out _ _ h5; clear h5))
        all_goals (try go_wp2_with fail)
        all_goals exact ⟨⟨j + 1, by go_num, by omega, H5.out⟩, by simp [intOf]; omega⟩
  case rest =>
    obtain ⟨i13, rfl, H5⟩ := hcut
    obtain ⟨W5, hwf⟩ : ∃ we, we = wc := ⟨_, rfl⟩
    subst hwf
    have hSi := HSI.out us.length (Nat.le_refl _)
    obtain ⟨S, hS⟩ : ∃ s, Hid (s = seqOf (us.take us.length)) := ⟨_, Eq.refl _⟩
    rw [← hS.out] at H5 hSi HSc HCo
    have HI : Hid (Inv S ∧ Size S 40) := ⟨hSi.1, hSi.2.mono hul⟩
    have HF5 : Hid (NmF w W5 pa ms mb S back) := H5.out.toF
    obtain ⟨sl, hsl⟩ : ∃ n : Nat, Hid (n = S.units.length) := ⟨_, Eq.refl _⟩
    have hslb : sl ≤ 40 := by
      have h1 := HI.out.1.units_len
      have h2 := HI.out.2.tot
      have h3 := hsl.out
      omega
    have HLn : Hid (Calls Try.prog 20 #[.pointer (some ⟨pa, 0, none⟩)] W5 fun e w' => e = .returned (.int .i64 (sl : Int)) ∧ Touch (fun _ => False) W5 w') := by
      rw [hsl.out]
      obtain ⟨A, a⟩ := HF5.out.seq
      exact a.len
    have HPl : Hid (∀ W, Calls Try.prog 22 #[.int .i64 at0, .int .i64 ((sl : Int) + 1)] W fun e w' => ∃ p : Nat, e = .returned (.int .i64 (p : Int)) ∧ p ≤ sl ∧ w' = W) := fun W => by
      have := placeG_any at0 (sl + 1) (by omega) W hat0.1 hat0.2
      have e : ((sl + 1 : Nat) : Int) = (sl : Int) + 1 := by omega
      rw [e] at this
      refine this.mono ?_
      rintro e2 w' ⟨p, rfl, hp, rfl⟩
      exact ⟨p, rfl, by omega, rfl⟩
    have HPn : Hid (∀ W, Calls Try.prog 22 #[.int .i64 nn0, .int .i64 9] W fun e w' => ∃ p : Nat, e = .returned (.int .i64 (p : Int)) ∧ p < 9 ∧ w' = W) := fun W => placeG_any nn0 9 (by omega) W hnn0.1 hnn0.2
    have HPm : Hid (∀ W, Calls Try.prog 22 #[.int .i64 mm0, .int .i64 9] W fun e w' => ∃ p : Nat, e = .returned (.int .i64 (p : Int)) ∧ p < 9 ∧ w' = W) := fun W => placeG_any mm0 9 (by omega) W hmm0.1 hmm0.2
    have HId : Hid (∀ a b W, Calls Try.prog 15 #[.int .u64 a, .int .u64 b] W fun e w' => e = .returned (.agg #[.int .u64 a, .int .u64 b]) ∧ Touch (fun _ => False) W w') := fun a b W => id_any a b W
    have ew : IntKind.i64.wrap ((sl : Int) + 1) = (sl : Int) + 1 := by rw [IntKind.wrap_i64]; omega
    obtain ⟨x0, -⟩ := HF5.out.cells
    clear H3 HSI HSt HUok hS hSi HVo H5
    generalize us.length = nu at *
    go_wp2_with fail
    refine HLn.out.mono ?_
    rintro e W6 ⟨rfl, t6⟩
    have HF6 : Hid (NmF w W6 pa ms mb S back) := HF5.out.on t6
    clear t6 HLn HF5 x0
    go_wp2_with fail
    refine (HPl.out _).mono ?_
    rintro e W7 ⟨p, rfl, hp, hw7⟩
    rw [hw7]
    clear hw7 HPl ew
    go_wp2_with fail
    refine (HPn.out _).mono ?_
    rintro e W7 ⟨pn, rfl, hpn, hw7⟩
    rw [hw7]
    clear hw7 HPn
    obtain ⟨n, hn⟩ : ∃ n : Nat, Hid (n = 1 + pn) := ⟨_, Eq.refl _⟩
    have hnb : 1 ≤ n ∧ n ≤ 9 := by have := hn.out; omega
    have en : (1 : Int) + (pn : Int) = (n : Int) := by have := hn.out; omega
    have ewn : IntKind.i64.wrap (n : Int) = (n : Int) := by rw [IntKind.wrap_i64]; omega
    clear hn hpn
    go_wp2_with fail
    refine (HPm.out _).mono ?_
    rintro e W7 ⟨pm, rfl, hpm, hw7⟩
    rw [hw7]
    clear hw7 HPm en ewn
    obtain ⟨m, hm⟩ : ∃ n : Nat, Hid (n = 1 + pm) := ⟨_, Eq.refl _⟩
    have hmb : 1 ≤ m ∧ m ≤ 9 := by have := hm.out; omega
    have em : (1 : Int) + (pm : Int) = (m : Int) := by have := hm.out; omega
    have ewm : IntKind.i64.wrap (m : Int) = (m : Int) := by rw [IntKind.wrap_i64]; omega
    clear hm hpm
    go_upto_region 13 with fail
    clear em ewm
    have HNm : Hid (NmR S back (S.at_ ((p : Int) - 1)).1.c (S.at_ ((p : Int) - 1)).1.k (S.at_ (p : Int)).1.c (S.at_ (p : Int)).1.k p n m 40) := by
      obtain ⟨sp, hco⟩ := HCo.out
      exact NmR.at_ hco HI.out.2 HSc.out p (by have := hsl.out; omega) hnb.1 (by omega)
    have HX6 : Hid (NmF w ((W6.alloc (idO 0 0)).alloc (idO 0 0)) pa ms mb S back ∧ ((W6.alloc (idO 0 0)).alloc (idO 0 0)).heap[W6.heap.size]? = some (idO 0 0) ∧ ((W6.alloc (idO 0 0)).alloc (idO 0 0)).heap[W6.heap.size + 1]? = some (idO 0 0) ∧ w.heap.size ≤ W6.heap.size) := ⟨HF6.out.on (((Touch.refl _ _).alloc _).alloc _), (two_new W6 _ _).1, (two_new W6 _ _).2, HF6.out.touch.size⟩
    obtain ⟨X6, hX6⟩ : ∃ X, Hid (X = (W6.alloc (idO 0 0)).alloc (idO 0 0)) := ⟨_, Eq.refl _⟩
    rw [← hX6.out] at HX6 ⊢
    obtain ⟨ml, hml⟩ : ∃ X, Hid (X = W6.heap.size) := ⟨_, Eq.refl _⟩
    rw [← hml.out] at HX6 ⊢
    obtain ⟨mr, hmr⟩ : ∃ X, Hid (X = ml + 1) := ⟨_, Eq.refl _⟩
    have HMlr : Hid (ml ≠ mr ∧ w.heap.size ≤ ml ∧ w.heap.size ≤ mr) := by
      have h1 := hmr.out
      have h2 := HX6.out.2.2.2
      show ml ≠ mr ∧ w.heap.size ≤ ml ∧ w.heap.size ≤ mr
      omega
    rw [← hmr.out] at HX6 ⊢
    clear hX6 hml hmr HF6
    obtain ⟨L, hL⟩ : ∃ u, Hid (u = (S.at_ ((p : Int) - 1)).1) := ⟨_, Eq.refl _⟩
    obtain ⟨lb, hlb⟩ : ∃ u, Hid (u = (S.at_ ((p : Int) - 1)).2) := ⟨_, Eq.refl _⟩
    obtain ⟨R, hR⟩ : ∃ u, Hid (u = (S.at_ (p : Int)).1) := ⟨_, Eq.refl _⟩
    obtain ⟨rb, hrb⟩ : ∃ u, Hid (u = (S.at_ (p : Int)).2) := ⟨_, Eq.refl _⟩
    have HA1 : Hid (∀ W, NmF w W pa ms mb S back → Calls Try.prog 21 #[.pointer (some ⟨pa, 0, none⟩), .int .i64 ((p : Int) - 1)] W fun e w' => e = .returned (.tuple #[.agg #[.int .u64 L.c, .int .u64 L.k, .int .u64 L.lc, .int .u64 L.lk, .int .u64 L.rc, .int .u64 L.rk], .bool lb]) ∧ Touch (fun _ => False) W w') := fun W h => by
      rw [hL.out, hlb.out]; exact h.at' _ (by omega)
    have HA2 : Hid (∀ W, NmF w W pa ms mb S back → Calls Try.prog 21 #[.pointer (some ⟨pa, 0, none⟩), .int .i64 (p : Int)] W fun e w' => e = .returned (.tuple #[.agg #[.int .u64 R.c, .int .u64 R.k, .int .u64 R.lc, .int .u64 R.lk, .int .u64 R.rc, .int .u64 R.rk], .bool rb]) ∧ Touch (fun _ => False) W w') := fun W h => by
      rw [hR.out, hrb.out]; exact h.at' _ (by omega)
    have HLz : Hid (lb = false → L = .zero) := fun e => by
      rw [hL.out]; exact at_no HI.out.1 _ (by rw [← hlb.out]; exact e)
    have HRz : Hid (rb = false → R = .zero) := fun e => by
      rw [hR.out]; exact at_no HI.out.1 _ (by rw [← hrb.out]; exact e)
    rw [← hL.out, ← hR.out] at HNm
    clear hL hR hlb hrb HCo HSc hsl HI
    have ew : IntKind.i64.wrap ((p : Int) - 1) = (p : Int) - 1 := by rw [IntKind.wrap_i64]; omega
    obtain ⟨x0, -⟩ := HX6.out.1.cells
    go_wp2_with fail
    refine (HA1.out _ HX6.out.1).mono ?_
    rintro e W9 ⟨rfl, t9⟩
    have H9 : Hid (NmF w (W9.alloc (unO L)) pa ms mb S back ∧ (W9.alloc (unO L)).heap[ml]? = some (idO 0 0) ∧ (W9.alloc (unO L)).heap[mr]? = some (idO 0 0) ∧ (W9.alloc (unO L)).heap[W9.heap.size]? = some (unO L)) := ⟨HX6.out.1.on (t9.alloc _), heap_keep (t9.alloc _) HX6.out.2.1, heap_keep (t9.alloc _) HX6.out.2.2.1, heap_alloc_new _ _⟩
    clear t9 HA1 HX6 ew x0
    go_upto_if 64 with fail
    obtain ⟨X2, hX2⟩ : ∃ X, Hid (X = W9.alloc (unO L)) := ⟨_, Eq.refl _⟩
    rw [← hX2.out] at H9 ⊢
    clear hX2
    generalize W9.heap.size = m1 at *
    go_cut [14] (fun t wx => t = .pointer (some ⟨ml, 0, none⟩) ∧ Hid (NmF w wx pa ms mb S back ∧ wx.heap[ml]? = some (idO L.c L.k) ∧ wx.heap[mr]? = some (idO 0 0)))
    case first =>
      clear HA2 HRz HNm HId
      cases lb with
      | true =>
        obtain ⟨q0, q1, -, -, -, -⟩ := unO_cells H9.out.2.2.2
        obtain ⟨p0, p1⟩ := idO_cells H9.out.2.1
        have z0 : X2.frozen? ⟨ml, 0, none⟩ = false := free_of_block H9.out.2.1
        have s1 := heap_setCell_same X2 ml 0 (.int .u64 L.c) H9.out.2.1
        have p1' : (X2.setCell ⟨ml, 0, none⟩ (.int .u64 L.c)).cell? ⟨ml, 1, none⟩ = some (.int .u64 0) := by rw [cell_of_block s1]; rfl
        have z1 : (X2.setCell ⟨ml, 0, none⟩ (.int .u64 L.c)).frozen? ⟨ml, 1, none⟩ = false := free_of_block s1
        have hset := H9.out.1.setId H9.out.2.1 HMlr.out.2.1 L.c L.k
        have HS : Hid (NmF w ((X2.setCell ⟨ml, 0, none⟩ (.int .u64 L.c)).setCell ⟨ml, 1, none⟩ (.int .u64 L.k)) pa ms mb S back ∧ ((X2.setCell ⟨ml, 0, none⟩ (.int .u64 L.c)).setCell ⟨ml, 1, none⟩ (.int .u64 L.k)).heap[ml]? = some (idO L.c L.k) ∧ ((X2.setCell ⟨ml, 0, none⟩ (.int .u64 L.c)).setCell ⟨ml, 1, none⟩ (.int .u64 L.k)).heap[mr]? = some (idO 0 0)) := ⟨hset.1, hset.2.1, by rw [hset.2.2 mr (fun e => HMlr.out.1 e.symm)]; exact H9.out.2.2.1⟩
        clear s1 HLz hset H9 HMlr
        go_wp2_with fail
        go_meet
        case rel => exact ⟨rfl, HS.out⟩
      | false =>
        have HZ : Hid (L = .zero) := HLz.out rfl
        clear HLz
        go_wp2_with fail
        go_meet
        case rel => exact ⟨rfl, H9.out.1, by rw [HZ.out]; exact H9.out.2.1, H9.out.2.2.1⟩
    case rest =>
      obtain ⟨rfl, H10⟩ := hcut
      obtain ⟨X3, hwf⟩ : ∃ we, we = wc := ⟨_, rfl⟩
      subst hwf
      clear H9 HLz
      obtain ⟨x0, -⟩ := H10.out.1.cells
      go_wp2_with fail
      refine (HA2.out _ H10.out.1).mono ?_
      rintro e W11 ⟨rfl, t11⟩
      have H11 : Hid (NmF w (W11.alloc (unO R)) pa ms mb S back ∧ (W11.alloc (unO R)).heap[ml]? = some (idO L.c L.k) ∧ (W11.alloc (unO R)).heap[mr]? = some (idO 0 0) ∧ (W11.alloc (unO R)).heap[W11.heap.size]? = some (unO R)) := ⟨H10.out.1.on (t11.alloc _), heap_keep (t11.alloc _) H10.out.2.1, heap_keep (t11.alloc _) H10.out.2.2, heap_alloc_new _ _⟩
      clear t11 HA2 H10 x0
      go_upto_if 73 with fail
      obtain ⟨X4, hX4⟩ : ∃ X, Hid (X = W11.alloc (unO R)) := ⟨_, Eq.refl _⟩
      rw [← hX4.out] at H11 ⊢
      clear hX4
      generalize W11.heap.size = m2 at *
      go_cut [15] (fun t wx => t = .pointer (some ⟨mr, 0, none⟩) ∧ Hid (NmF w wx pa ms mb S back ∧ wx.heap[ml]? = some (idO L.c L.k) ∧ wx.heap[mr]? = some (idO R.c R.k)))
      case first =>
        clear HNm HId
        cases rb with
        | true =>
          obtain ⟨q0, q1, -, -, -, -⟩ := unO_cells H11.out.2.2.2
          obtain ⟨p0, p1⟩ := idO_cells H11.out.2.2.1
          have z0 : X4.frozen? ⟨mr, 0, none⟩ = false := free_of_block H11.out.2.2.1
          have s1 := heap_setCell_same X4 mr 0 (.int .u64 R.c) H11.out.2.2.1
          have p1' : (X4.setCell ⟨mr, 0, none⟩ (.int .u64 R.c)).cell? ⟨mr, 1, none⟩ = some (.int .u64 0) := by rw [cell_of_block s1]; rfl
          have z1 : (X4.setCell ⟨mr, 0, none⟩ (.int .u64 R.c)).frozen? ⟨mr, 1, none⟩ = false := free_of_block s1
          have hset := H11.out.1.setId H11.out.2.2.1 HMlr.out.2.2 R.c R.k
          have HS : Hid (NmF w ((X4.setCell ⟨mr, 0, none⟩ (.int .u64 R.c)).setCell ⟨mr, 1, none⟩ (.int .u64 R.k)) pa ms mb S back ∧ ((X4.setCell ⟨mr, 0, none⟩ (.int .u64 R.c)).setCell ⟨mr, 1, none⟩ (.int .u64 R.k)).heap[ml]? = some (idO L.c L.k) ∧ ((X4.setCell ⟨mr, 0, none⟩ (.int .u64 R.c)).setCell ⟨mr, 1, none⟩ (.int .u64 R.k)).heap[mr]? = some (idO R.c R.k)) := ⟨hset.1, by rw [hset.2.2 ml HMlr.out.1]; exact H11.out.2.1, hset.2.1⟩
          clear s1 HRz hset H11 HMlr
          go_wp2_with fail
          go_meet
          case rel => exact ⟨rfl, HS.out⟩
        | false =>
          have HZ : Hid (R = .zero) := HRz.out rfl
          clear HRz
          go_wp2_with fail
          go_meet
          case rel => exact ⟨rfl, H11.out.1, H11.out.2.1, by rw [HZ.out]; exact H11.out.2.2.1⟩
      case rest =>
        obtain ⟨rfl, H12⟩ := hcut
        obtain ⟨X5, hwf⟩ : ∃ we, we = wc := ⟨_, rfl⟩
        subst hwf
        clear H11 HRz HMlr
        obtain ⟨T1, hT1⟩ : ∃ s, Hid (s = nmSeq S back 901 L.c L.k R.c R.k n) := ⟨_, Eq.refl _⟩
        obtain ⟨T2, hT2⟩ : ∃ s, Hid (s = nmSeq T1 back 902 L.c L.k R.c R.k m) := ⟨_, Eq.refl _⟩
        have HW1 : Hid (Calls Try.prog 25 #[.int .u64 901, .int .i64 (n : Int), .pointer (some ⟨ml, 0, none⟩), .pointer (some ⟨mr, 0, none⟩), .pointer (some ⟨ms, 0, none⟩), .pointer (some ⟨mb, 0, none⟩)] X5 fun e w' => e = .returned (.bool true) ∧ NmF w w' pa ms mb T1 back ∧ w'.heap[ml]? = some (idO L.c L.k) ∧ w'.heap[mr]? = some (idO R.c R.k)) := by
          rw [hT1.out]; exact H12.out.1.write H12.out.2.1 H12.out.2.2 (by omega) (by omega) (by omega) HNm.out.first
        have HW2 : Hid (∀ W, NmF w W pa ms mb T1 back ∧ W.heap[ml]? = some (idO L.c L.k) ∧ W.heap[mr]? = some (idO R.c R.k) → Calls Try.prog 25 #[.int .u64 902, .int .i64 (m : Int), .pointer (some ⟨ml, 0, none⟩), .pointer (some ⟨mr, 0, none⟩), .pointer (some ⟨ms, 0, none⟩), .pointer (some ⟨mb, 0, none⟩)] W fun e w' => e = .returned (.bool true) ∧ NmF w w' pa ms mb T2 back) := fun W h => by
          have hsec := HNm.out.second
          rw [← hT1.out] at hsec
          rw [hT2.out]
          refine (h.1.write h.2.1 h.2.2 (by omega) (by omega) (by omega) hsec).mono ?_
          rintro e w' ⟨rfl, q, _⟩
          exact ⟨rfl, q⟩
        have HF1 : Hid (∀ i, i < n → ∀ k : Int, k = ((nmI back n i : Nat) : Int) + 1 → ∀ W, NmF w W pa ms mb T2 back → Calls Try.prog 19 #[.pointer (some ⟨pa, 0, none⟩), .agg #[.int .u64 901, .int .u64 k]] W fun e w' => e = .returned (.int .i64 ((p : Int) + (i : Int))) ∧ Touch (fun _ => False) W w') := fun i hi k hk W h => by
          have hf := HNm.out.find1 i hi
          rw [← hT1.out, ← hT2.out] at hf
          have hb : nmI back n i ≤ 9 := by unfold nmI; split <;> omega
          subst hk
          have := h.find 901 (((nmI back n i : Nat) : Int) + 1) (by omega) (by omega) (by omega)
          rw [hf, show ((p + i : Nat) : Int) = (p : Int) + (i : Int) by omega] at this
          exact this
        have HF2 : Hid (∀ i, i < m → ∀ k : Int, k = ((nmI back m i : Nat) : Int) + 1 → ∀ W, NmF w W pa ms mb T2 back → Calls Try.prog 19 #[.pointer (some ⟨pa, 0, none⟩), .agg #[.int .u64 902, .int .u64 k]] W fun e w' => e = .returned (.int .i64 ((p : Int) + (n : Int) + (i : Int))) ∧ Touch (fun _ => False) W w') := fun i hi k hk W h => by
          have hf := HNm.out.find2 i hi
          rw [← hT1.out, ← hT2.out] at hf
          have hb : nmI back m i ≤ 9 := by unfold nmI; split <;> omega
          subst hk
          have := h.find 902 (((nmI back m i : Nat) : Int) + 1) (by omega) (by omega) (by omega)
          rw [hf, show ((p + n + i : Nat) : Int) = (p : Int) + (n : Int) + (i : Int) by omega] at this
          exact this
        have HF0 : Hid (∀ W, NmF w W pa ms mb T2 back → ∃ f : Int, Calls Try.prog 19 #[.pointer (some ⟨pa, 0, none⟩), .agg #[.int .u64 901, .int .u64 1]] W fun e w' => e = .returned (.int .i64 f) ∧ Touch (fun _ => False) W w') := fun W h => ⟨_, h.find 901 1 (by omega) (by omega) (by omega)⟩
        clear hT1 hT2 HNm
        go_wp2_with fail
        refine HW1.out.mono ?_
        rintro e Y1 ⟨rfl, h1⟩
        have HY1 : Hid (NmF w Y1 pa ms mb T1 back ∧ Y1.heap[ml]? = some (idO L.c L.k) ∧ Y1.heap[mr]? = some (idO R.c R.k)) := h1
        clear h1 HW1 H12
        go_wp2_with fail
        refine (HW2.out _ HY1.out).mono ?_
        rintro e Y2 ⟨rfl, h2⟩
        have HY2 : Hid (NmF w Y2 pa ms mb T2 back) := h2
        clear h2 HW2 HY1
        go_upto_region 22 with fail
        have HCm0 : Hid (∀ W, NmF w W pa ms mb T2 back → W.cell? ⟨ms, 0, none⟩ = some (.pointer (some ⟨pa, 0, none⟩))) := fun W h => h.cells.1
        have S0 := HCm0.out _ (HY2.out.on (Touch.refl _ _).drew)
        go_cut [21] (fun t wx => ∃ f, t = .int .i64 f ∧ Hid (NmF w wx pa ms mb T2 back))
        case first =>
          clear HF1 HF2
          go_region_held3 (fun W => W.cell? ⟨ms, 0, none⟩ = some (.pointer (some ⟨pa, 0, none⟩))) (first | assumption | exact S0)
            (first
              | (go_at_call 15; (with_reducible refine (HId.out _ _ _).mono ?_); rintro e w1 ⟨rfl, t1⟩; have HT1 : Hid (NmF w w1 pa ms mb T2 back) := HY2.out.on ((Touch.refl _ _).drew.trans t1); have S1 := HCm0.out _ HT1.out; obtain ⟨f0, hf0⟩ := HF0.out _ HT1.out; clear t1)
              | (go_at_call 19; (with_reducible refine hf0.mono ?_); rintro e w2 ⟨rfl, t2⟩; have HT2 : Hid (NmF w w2 pa ms mb T2 back) := HT1.out.on t2; have S2 := HCm0.out _ HT2.out; clear t2))
          all_goals (try go_wp2_with fail)
          all_goals go_meet
          all_goals (case rel => exact ⟨_, rfl, HT2.out⟩)
        case rest =>
          obtain ⟨f21, rfl, HY3⟩ := hcut
          obtain ⟨Y3, hwf⟩ : ∃ we, we = wc := ⟨_, rfl⟩
          subst hwf
          clear HY2 HCm0 S0 HF0
          go_wp2_with fail
          go_loopw [21, 22, 23] (fun s t v wr => ∃ (j : Nat) (f : Int), s = .int .i64 f ∧ (0 < j → f = (p : Int)) ∧ t = .int .i64 (j : Int) ∧ j ≤ n ∧ Hid (NmF w wr pa ms mb T2 back)) (fun s t v _ => (n - intOf t).toNat)
          case atStart => exact ⟨0, _, rfl, fun h => absurd h (Nat.lt_irrefl _), rfl, Nat.zero_le _, HY3.out⟩
          case round =>
            obtain ⟨j, f, rfl, hf, rfl, hj, HJ⟩ := hrel
            clear HY3
            by_cases hlt : j < n
            rotate_left
            · have hjl : n = j := by omega
              subst hjl
              clear HF1 hf
              have HY3 : Hid (NmF w wr pa ms mb T2 back) := HJ.out
              clear HJ
              go_wp2_with fail
              go_loopw [21, 24, 25] (fun s t v wr => ∃ (j : Nat) (f : Int), s = .int .i64 f ∧ (0 < j → f = ((p : Int) + (n : Int))) ∧ t = .int .i64 (j : Int) ∧ j ≤ m ∧ Hid (NmF w wr pa ms mb T2 back)) (fun s t v _ => (m - intOf t).toNat)
              case atStart => exact ⟨0, _, rfl, fun h => absurd h (Nat.lt_irrefl _), rfl, Nat.zero_le _, HY3.out⟩
              case round =>
                obtain ⟨j, f, rfl, hf, rfl, hj, HJ⟩ := hrel
                clear HY3
                by_cases hlt : j < m
                rotate_left
                · have hjl : m = j := by omega
                  subst hjl
                  clear HF2 hf
                  go_wp2_with fail
                  go_ret
                  exact ⟨rfl, HJ.out.touch⟩
                · have l0 : (j : Int) < (m : Int) := by omega
                  have Hf : Hid (0 < j → f = ((p : Int) + (n : Int))) := hf
                  have hFi := HF2.out j hlt
                  clear hf HF2
                  obtain ⟨-, x1⟩ := HJ.out.cells
                  go_upto_if 125 with fail
                  go_cut [25] (fun t wx => ∃ k : Int, t = .int .i64 k ∧ Hid (k = ((nmI back m j : Nat) : Int) ∧ NmF w wx pa ms mb T2 back))
                  case first =>
                    clear hFi HId
                    have e1 : IntKind.i64.wrap ((m : Int) - 1) = (m : Int) - 1 := by rw [IntKind.wrap_i64]; omega
                    have e2 : IntKind.i64.wrap ((m : Int) - 1 - (j : Int)) = (m : Int) - 1 - (j : Int) := by rw [IntKind.wrap_i64]; omega
                    cases back with
                    | true =>
                      go_wp2_with fail
                      go_meet
                      case rel => exact ⟨_, rfl, by unfold nmI; rw [if_pos rfl]; omega, HJ.out⟩
                    | false =>
                      go_wp2_with fail
                      go_meet
                      case rel => exact ⟨_, rfl, by unfold nmI; rw [if_neg (by simp)], HJ.out⟩
                  case rest =>
                    obtain ⟨k, rfl, HK2⟩ := hcut
                    obtain ⟨Z1, hwf⟩ : ∃ we, we = wc := ⟨_, rfl⟩
                    subst hwf
                    have hkb : 0 ≤ k ∧ k ≤ 9 := by
                      have h1 := HK2.out.1
                      have h2 : nmI back m j ≤ 9 := by unfold nmI; split <;> omega
                      omega
                    have HFd : Hid (∀ W, NmF w W pa ms mb T2 back → Calls Try.prog 19 #[.pointer (some ⟨pa, 0, none⟩), .agg #[.int .u64 902, .int .u64 (k + 1)]] W fun e w' => e = .returned (.int .i64 (((p : Int) + (n : Int)) + (j : Int))) ∧ Touch (fun _ => False) W w') := hFi (k + 1) (by have := HK2.out.1; omega)
                    have HCm : Hid (∀ W, NmF w W pa ms mb T2 back → W.cell? ⟨ms, 0, none⟩ = some (.pointer (some ⟨pa, 0, none⟩))) := fun W h => h.cells.1
                    have ek1 : IntKind.i64.wrap (k + 1) = k + 1 := by rw [IntKind.wrap_i64]; omega
                    have ek2 : IntKind.u64.wrap (k + 1) = k + 1 := wrap_u64_small _ (by omega) (by omega)
                    have HZ1 : Hid (NmF w Z1 pa ms mb T2 back) := HK2.out.2
                    clear hFi HK2 HJ x1 hkb
                    go_upto_if 131 with fail
                    go_cut [21] (fun t wx => t = .int .i64 ((p : Int) + (n : Int)) ∧ Hid (NmF w wx pa ms mb T2 back))
                    case first =>
                      by_cases hj0 : j = 0
                      · subst hj0
                        have hFd0 := HFd.out
                        rw [show (((p : Int) + (n : Int)) + ((0 : Nat) : Int)) = ((p : Int) + (n : Int)) by omega] at hFd0
                        have HFd0 : Hid (∀ W, NmF w W pa ms mb T2 back → Calls Try.prog 19 #[.pointer (some ⟨pa, 0, none⟩), .agg #[.int .u64 902, .int .u64 (k + 1)]] W fun e w' => e = .returned (.int .i64 ((p : Int) + (n : Int))) ∧ Touch (fun _ => False) W w') := hFd0
                        have S0 := HCm.out _ (HZ1.out.on (Touch.refl _ _).drew)
                        clear hFd0 Hf HFd
                        go_upto_region 40 with fail
                        go_region_held3 (fun W => W.cell? ⟨ms, 0, none⟩ = some (.pointer (some ⟨pa, 0, none⟩))) (first | assumption | exact S0)
                          (first
                            | (go_at_call 15; (with_reducible refine (HId.out _ _ _).mono ?_); rintro e w1 ⟨rfl, t1⟩; have HT1 : Hid (NmF w w1 pa ms mb T2 back) := HZ1.out.on ((Touch.refl _ _).drew.trans t1); have S1 := HCm.out _ HT1.out; clear t1)
                            | (go_at_call 19; (with_reducible refine (HFd0.out _ HT1.out).mono ?_); rintro e w2 ⟨rfl, t2⟩; have HT2 : Hid (NmF w w2 pa ms mb T2 back) := HT1.out.on t2; have S2 := HCm.out _ HT2.out; clear t2))
                        all_goals (try go_wp2_with fail)
                        all_goals go_meet
                        all_goals (case rel => exact ⟨rfl, HT2.out⟩)
                      · have hfp : f = ((p : Int) + (n : Int)) := Hf.out (by omega)
                        subst hfp
                        have hj1 : ¬ ((j : Int) = 0) := by omega
                        clear HFd Hf
                        go_wp2_with fail
                        go_meet
                        case rel => exact ⟨rfl, HZ1.out⟩
                    case rest =>
                      obtain ⟨rfl, H2⟩ := hcut
                      obtain ⟨Z2, hwf⟩ : ∃ we, we = wc := ⟨_, rfl⟩
                      subst hwf
                      clear HZ1 Hf
                      have e3 : IntKind.i64.wrap (((p : Int) + (n : Int)) + (j : Int)) = ((p : Int) + (n : Int)) + (j : Int) := by rw [IntKind.wrap_i64]; omega
                      have S0 := HCm.out _ (H2.out.on (Touch.refl _ _).drew)
                      go_upto_region 41 with fail
                      go_region_held3 (fun W => W.cell? ⟨ms, 0, none⟩ = some (.pointer (some ⟨pa, 0, none⟩))) (first | assumption | exact S0)
                        (first
                          | (go_at_call 15; (with_reducible refine (HId.out _ _ _).mono ?_); rintro e w1 ⟨rfl, t1⟩; have HT1 : Hid (NmF w w1 pa ms mb T2 back) := H2.out.on ((Touch.refl _ _).drew.trans t1); have S1 := HCm.out _ HT1.out; clear t1)
                          | (go_at_call 19; (with_reducible refine (HFd.out _ HT1.out).mono ?_); rintro e w2 ⟨rfl, t2⟩; have HT2 : Hid (NmF w w2 pa ms mb T2 back) := HT1.out.on t2; have S2 := HCm.out _ HT2.out; clear t2))
                      all_goals (try go_wp2_with fail)
                      all_goals exact ⟨⟨j + 1, _, rfl, fun _ => rfl, by go_num, by omega, HT2.out⟩, by simp [intOf]; omega⟩
            · have l0 : (j : Int) < (n : Int) := by omega
              have Hf : Hid (0 < j → f = (p : Int)) := hf
              have hFi := HF1.out j hlt
              clear hf HF1 HF2
              obtain ⟨-, x1⟩ := HJ.out.cells
              go_upto_if 96 with fail
              go_cut [23] (fun t wx => ∃ k : Int, t = .int .i64 k ∧ Hid (k = ((nmI back n j : Nat) : Int) ∧ NmF w wx pa ms mb T2 back))
              case first =>
                clear hFi HId
                have e1 : IntKind.i64.wrap ((n : Int) - 1) = (n : Int) - 1 := by rw [IntKind.wrap_i64]; omega
                have e2 : IntKind.i64.wrap ((n : Int) - 1 - (j : Int)) = (n : Int) - 1 - (j : Int) := by rw [IntKind.wrap_i64]; omega
                cases back with
                | true =>
                  go_wp2_with fail
                  go_meet
                  case rel => exact ⟨_, rfl, by unfold nmI; rw [if_pos rfl]; omega, HJ.out⟩
                | false =>
                  go_wp2_with fail
                  go_meet
                  case rel => exact ⟨_, rfl, by unfold nmI; rw [if_neg (by simp)], HJ.out⟩
              case rest =>
                obtain ⟨k, rfl, HK2⟩ := hcut
                obtain ⟨Z1, hwf⟩ : ∃ we, we = wc := ⟨_, rfl⟩
                subst hwf
                have hkb : 0 ≤ k ∧ k ≤ 9 := by
                  have h1 := HK2.out.1
                  have h2 : nmI back n j ≤ 9 := by unfold nmI; split <;> omega
                  omega
                have HFd : Hid (∀ W, NmF w W pa ms mb T2 back → Calls Try.prog 19 #[.pointer (some ⟨pa, 0, none⟩), .agg #[.int .u64 901, .int .u64 (k + 1)]] W fun e w' => e = .returned (.int .i64 ((p : Int) + (j : Int))) ∧ Touch (fun _ => False) W w') := hFi (k + 1) (by have := HK2.out.1; omega)
                have HCm : Hid (∀ W, NmF w W pa ms mb T2 back → W.cell? ⟨ms, 0, none⟩ = some (.pointer (some ⟨pa, 0, none⟩))) := fun W h => h.cells.1
                have ek1 : IntKind.i64.wrap (k + 1) = k + 1 := by rw [IntKind.wrap_i64]; omega
                have ek2 : IntKind.u64.wrap (k + 1) = k + 1 := wrap_u64_small _ (by omega) (by omega)
                have HZ1 : Hid (NmF w Z1 pa ms mb T2 back) := HK2.out.2
                clear hFi HK2 HJ x1 hkb
                go_upto_if 102 with fail
                go_cut [21] (fun t wx => t = .int .i64 (p : Int) ∧ Hid (NmF w wx pa ms mb T2 back))
                case first =>
                  by_cases hj0 : j = 0
                  · subst hj0
                    have hFd0 := HFd.out
                    rw [show ((p : Int) + ((0 : Nat) : Int)) = (p : Int) by omega] at hFd0
                    have HFd0 : Hid (∀ W, NmF w W pa ms mb T2 back → Calls Try.prog 19 #[.pointer (some ⟨pa, 0, none⟩), .agg #[.int .u64 901, .int .u64 (k + 1)]] W fun e w' => e = .returned (.int .i64 (p : Int)) ∧ Touch (fun _ => False) W w') := hFd0
                    have S0 := HCm.out _ (HZ1.out.on (Touch.refl _ _).drew)
                    clear hFd0 Hf HFd
                    go_upto_region 30 with fail
                    go_region_held3 (fun W => W.cell? ⟨ms, 0, none⟩ = some (.pointer (some ⟨pa, 0, none⟩))) (first | assumption | exact S0)
                      (first
                        | (go_at_call 15; (with_reducible refine (HId.out _ _ _).mono ?_); rintro e w1 ⟨rfl, t1⟩; have HT1 : Hid (NmF w w1 pa ms mb T2 back) := HZ1.out.on ((Touch.refl _ _).drew.trans t1); have S1 := HCm.out _ HT1.out; clear t1)
                        | (go_at_call 19; (with_reducible refine (HFd0.out _ HT1.out).mono ?_); rintro e w2 ⟨rfl, t2⟩; have HT2 : Hid (NmF w w2 pa ms mb T2 back) := HT1.out.on t2; have S2 := HCm.out _ HT2.out; clear t2))
                    all_goals (try go_wp2_with fail)
                    all_goals go_meet
                    all_goals (case rel => exact ⟨rfl, HT2.out⟩)
                  · have hfp : f = (p : Int) := Hf.out (by omega)
                    subst hfp
                    have hj1 : ¬ ((j : Int) = 0) := by omega
                    clear HFd Hf
                    go_wp2_with fail
                    go_meet
                    case rel => exact ⟨rfl, HZ1.out⟩
                case rest =>
                  obtain ⟨rfl, H2⟩ := hcut
                  obtain ⟨Z2, hwf⟩ : ∃ we, we = wc := ⟨_, rfl⟩
                  subst hwf
                  clear HZ1 Hf
                  have e3 : IntKind.i64.wrap ((p : Int) + (j : Int)) = (p : Int) + (j : Int) := by rw [IntKind.wrap_i64]; omega
                  have S0 := HCm.out _ (H2.out.on (Touch.refl _ _).drew)
                  go_upto_region 31 with fail
                  go_region_held3 (fun W => W.cell? ⟨ms, 0, none⟩ = some (.pointer (some ⟨pa, 0, none⟩))) (first | assumption | exact S0)
                    (first
                      | (go_at_call 15; (with_reducible refine (HId.out _ _ _).mono ?_); rintro e w1 ⟨rfl, t1⟩; have HT1 : Hid (NmF w w1 pa ms mb T2 back) := H2.out.on ((Touch.refl _ _).drew.trans t1); have S1 := HCm.out _ HT1.out; clear t1)
                      | (go_at_call 19; (with_reducible refine (HFd.out _ HT1.out).mono ?_); rintro e w2 ⟨rfl, t2⟩; have HT2 : Hid (NmF w w2 pa ms mb T2 back) := HT1.out.on t2; have S2 := HCm.out _ HT2.out; clear t2))
                  all_goals (try go_wp2_with fail)
                  all_goals exact ⟨⟨j + 1, _, rfl, fun _ => rfl, by go_num, by omega, HT2.out⟩, by simp [intOf]; omega⟩
end Go.Proofs.Ytnbphdmpbjahhaa
