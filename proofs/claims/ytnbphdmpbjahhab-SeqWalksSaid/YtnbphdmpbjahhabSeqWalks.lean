/- quirelaw9.SeqWalks: going through a sequence tells places and units in order, may be left at any of them, and be done again. -/
import Derived.Test.YtnbphdmpbjahhabWkA
import Derived.Test.YtnbphdmpbjahhabPart28
import Derived.Test.YtnbphdmpbjahhabGrown
import Derived.Test.YtnbphdmpbjahhabPart32
import Derived.Deep.CutBlock
namespace Go.Proofs.Ytnbphdmpbjahhab
open Go.RowKit
set_option linter.unusedVariables false
set_option linter.unusedSimpArgs false
set_option maxRecDepth 100000

theorem OneS.walks {w W : World} {p : Nat} {S : SS} {v : Value} {us : List Un} (h : OneS w W p S v us) (hn : S.units.length ≤ 1000000) (k : Nat) (hk : k ≤ S.units.length) :
    Calls Try.prog 16 #[.pointer (some ⟨p, 0, none⟩), .int .i64 (k : Int)] W fun e w' => e = .returned (.bool true) ∧ Touch (fun _ => False) W w' := by
  obtain ⟨A, a, d⟩ := h
  have hp := a.at_
  subst hp
  exact walks_any a.mem a.inv hn k hk
set_option maxHeartbeats 16000000 in
theorem seqWalks_any (w : World) (ao0 : Option Addr) (zs0 : List Int) (n0 c0 : Nat) (hn0 : n0 = zs0.length) (hz0 : LiesK w .u16 ao0 zs0) (hm0 : c0 ≤ maxLen) (hc0 : n0 ≤ c0) (hr0 : ∀ y ∈ zs0, 0 ≤ y ∧ y < 65536) (at0 : Int) (hat0 : -9223372036854775808 ≤ at0 ∧ at0 ≤ 9223372036854775807) :
    Calls Try.prog 5 #[.slice ao0 n0 c0, .int .i64 at0] w fun e w' => e = .returned (.bool true) ∧ Touch (fun _ => False) w w' := by
  have HK : Hid (Calls Try.prog 6 #[] w fun e w' => e = .returned (.bool true) ∧ Touch (fun _ => False) w w') := known_any w
  have hx0 : (n0 : Int) ≤ 9223372036854775807 := by unfold maxLen at hm0; omega
  clear hm0 hc0
  by_cases h0 : 40 < n0
  · have g0 : (40 : Int) < (n0 : Int) := by omega
    clear h0 hz0 hr0
    go_enter Try.func5, Try.ntmps5
    go_wp2_with fail
    refine HK.out.mono ?_
    rintro e W1 ⟨rfl, t1⟩
    have HT1 : Hid (Touch (fun _ => False) w W1) := t1
    clear t1 HK
    go_wp2_with fail
    go_ret
    exact ⟨rfl, HT1.out⟩
  have g0 : ¬ (40 : Int) < (n0 : Int) := by omega
  obtain ⟨us, hus⟩ : ∃ us, Hid (us = (grownG zs0).out) := ⟨_, Eq.refl _⟩
  obtain ⟨gok, ginv⟩ := grown_ok zs0 hr0 (by omega)
  have hul : us.length ≤ 40 := by
    have := ginv.out
    rw [hus.out]; omega
  have HUok : Hid (∀ u ∈ us, u.ok) := fun u hu => by
    rw [hus.out] at hu
    exact (gok.ok u hu).1
  have HSI : Hid (∀ j, j ≤ us.length → Inv (seqOf (us.take j)) ∧ Size (seqOf (us.take j)) j) := seqOf_inv us HUok.out (by omega)
  have HSt : Hid (∀ j (hj : j < us.length), seqOf (us.take (j + 1)) = (seqOf (us.take j)).run us[j] 1) := seqOf_take us
  have HG : Hid (∀ W, Touch (fun _ => False) w W → Calls Try.prog 8 #[.slice ao0 n0 c0] W fun e w' => ∃ v, e = .returned v ∧ NewV W w' v us) := fun W t => by
    rw [hn0, hus.out]
    exact grown_any zs0 (hz0.touch t) hr0 (by omega)
  have HN : Hid (∀ W, Touch (fun _ => False) w W → Calls Try.prog 7 #[] W fun e w' => ∃ p B, e = .returned (.pointer (some ⟨p, 0, none⟩)) ∧ Sq1 w w' p B .new ∧ (∀ k, B.has k → W.heap.size ≤ k) ∧ Touch (fun _ => False) W w') := fun W t => Sq1.fresh w W t
  clear h0 hz0 hr0 gok ginv hn0 hus
  go_enter Try.func5, Try.ntmps5
  go_wp2_with fail
  refine HK.out.mono ?_
  rintro e W1 ⟨rfl, t1⟩
  have HT1 : Hid (Touch (fun _ => False) w W1) := t1
  clear t1 HK
  go_wp2_with fail
  refine (HN.out _ HT1.out).mono ?_
  rintro e W2 ⟨pa, A, rfl, a2, -, t2⟩
  have H2 : Hid (Sq1 w W2 pa A .new ∧ Touch (fun _ => False) w W2) := ⟨a2, HT1.out.trans t2⟩
  clear a2 t2 HN HT1
  go_wp2_with fail
  refine (HG.out _ H2.out.2).mono ?_
  rintro e W3 ⟨v, rfl, n3⟩
  have H3 : Hid (OneS w W3 pa .new v us) := ⟨A, H2.out.1.touch n3.touch, n3.since H2.out.2⟩
  obtain ⟨vo, vcap, rfl, hvo, -⟩ := n3.shape
  have HVo : Hid (0 < us.length → ∃ g, vo = some ⟨g, 0, none⟩) := hvo
  clear n3 HG H2 hvo
  go_upto_block 0 with fail
  go_cut [7] (fun t wx => ∃ i, t = .int .i64 i ∧ Hid (OneS w wx pa (seqOf (us.take us.length)) (.slice vo us.length vcap) us))
  case first =>
    go_wp2_with fail
    go_loopw [7] (fun i wr => ∃ j : Nat, i = .int .i64 (j : Int) ∧ j ≤ us.length ∧ Hid (OneS w wr pa (seqOf (us.take j)) (.slice vo us.length vcap) us)) (fun i _ => (us.length - intOf i).toNat)
    case atStart => exact ⟨0, rfl, Nat.zero_le _, H3.out⟩
    case round =>
      obtain ⟨j, rfl, hj, HJ⟩ := hrel
      by_cases hlt : j < us.length
      rotate_left
      · have hjl : j = us.length := by omega
        have HF : Hid (OneS w wr pa (seqOf (us.take us.length)) (.slice vo us.length vcap) us) := by
          have := HJ.out
          rw [hjl] at this
          exact this
        clear HJ HSI HSt HUok H3
        generalize us.length = nu at *
        go_wp2_with fail
        go_meet
        case rel => exact ⟨_, rfl, HF.out⟩
      · obtain ⟨g, rfl⟩ := HVo.out (by omega)
        have hS := HSI.out j hj
        have hu := HUok.out us[j] (List.getElem_mem hlt)
        have HS1 := HSt.out j hlt
        have HA : Hid (Calls Try.prog 9 #[.pointer (some ⟨pa, 0, none⟩), .agg #[.int .u64 us[j].c, .int .u64 us[j].k, .int .u64 us[j].lc, .int .u64 us[j].lk, .int .u64 us[j].rc, .int .u64 us[j].rk]] wr fun e w' => e = .returned (.bool ((seqOf (us.take j)).may us[j] 1)) ∧ OneS w w' pa (seqOf (us.take (j + 1))) (.slice (some ⟨g, 0, none⟩) us.length vcap) us) := by
          rw [HS1]; exact HJ.out.ins _ hu hS.2 (by omega)
        obtain ⟨k0, k1, k2, k3, k4, k5⟩ := HJ.out.cells j hlt
        clear hS hu HS1 HSI HSt HUok H3
        have l0 : (j : Int) < (us.length : Int) := by omega
        generalize (seqOf (us.take j)).may us[j] 1 = mb at *
        generalize us[j] = u at *
        obtain ⟨uc, uk, ulc, ulk, urc, urk⟩ := u
        simp only at HA k0 k1 k2 k3 k4 k5
        go_wp2_with fail
        refine HA.out.mono ?_
        rintro e W5 ⟨rfl, h5⟩
        have H5 : Hid (OneS w W5 pa (seqOf (us.take (j + 1))) (.slice (some ⟨g, 0, none⟩) us.length vcap) us) := h5
        clear h5 HA k0 k1 k2 k3 k4 k5
        go_wp2_with fail
        exact ⟨⟨j + 1, by go_num, by omega, H5.out⟩, by simp [intOf]; omega⟩
  case rest =>
    obtain ⟨i7, rfl, H5⟩ := hcut
    obtain ⟨W5, hwf⟩ : ∃ we, we = wc := ⟨_, rfl⟩
    subst hwf
    have hSi := HSI.out us.length (Nat.le_refl _)
    obtain ⟨S, hS⟩ : ∃ s, Hid (s = seqOf (us.take us.length)) := ⟨_, Eq.refl _⟩
    rw [← hS.out] at H5 hSi
    obtain ⟨sl, hsl⟩ : ∃ n : Nat, Hid (n = S.units.length) := ⟨_, Eq.refl _⟩
    have hslb : sl ≤ 40 := by
      have h1 := hSi.1.units_len
      have h2 := hSi.2.tot
      have h3 := hsl.out
      omega
    have HLn : Hid (Calls Try.prog 13 #[.pointer (some ⟨pa, 0, none⟩)] W5 fun e w' => e = .returned (.int .i64 (sl : Int)) ∧ Touch (fun _ => False) W5 w') := by
      rw [hsl.out]
      obtain ⟨A, a, _⟩ := H5.out
      exact a.len
    have HPl : Hid (∀ W, Calls Try.prog 15 #[.int .i64 at0, .int .i64 ((sl : Int) + 1)] W fun e w' => ∃ p : Nat, e = .returned (.int .i64 (p : Int)) ∧ p ≤ sl ∧ w' = W) := fun W => by
      have := placeG_any at0 (sl + 1) (by omega) W hat0.1 hat0.2
      have e : ((sl + 1 : Nat) : Int) = (sl : Int) + 1 := by omega
      rw [e] at this
      refine this.mono ?_
      rintro e2 w' ⟨p, rfl, hp, rfl⟩
      exact ⟨p, rfl, by omega, rfl⟩
    have HWk : Hid (∀ W p, Touch (fun _ => False) W5 W → p ≤ sl → Calls Try.prog 16 #[.pointer (some ⟨pa, 0, none⟩), .int .i64 (p : Int)] W fun e w' => e = .returned (.bool true) ∧ Touch (fun _ => False) W w') := fun W p t hp => (H5.out.touch t).walks (by have := hsl.out; omega) p (by have := hsl.out; omega)
    have HT5 : Hid (Touch (fun _ => False) w W5) := H5.out.touch0
    clear H3 H5 hSi HSI HSt HUok HVo hS hsl
    go_wp2_with fail
    refine HLn.out.mono ?_
    rintro e W6 ⟨rfl, t6⟩
    have HT6 : Hid (Touch (fun _ => False) W5 W6) := t6
    clear t6 HLn
    go_wp2_with fail
    refine (HPl.out _).mono ?_
    rintro e W7 ⟨p, rfl, hp, hw⟩
    rw [hw]
    clear hw W7 HPl
    go_wp2_with fail
    refine (HWk.out _ p HT6.out hp).mono ?_
    rintro e W8 ⟨rfl, t8⟩
    have HT8 : Hid (Touch (fun _ => False) W5 W8) := HT6.out.trans t8
    clear t8 HT6
    go_wp2_with fail
    refine (HWk.out _ p HT8.out hp).mono ?_
    rintro e W9 ⟨rfl, t9⟩
    have HT9 : Hid (Touch (fun _ => False) w W9) := HT5.out.trans (HT8.out.trans t9)
    clear t9 HT8
    go_wp2_with fail
    go_ret
    exact ⟨rfl, HT9.out⟩
end Go.Proofs.Ytnbphdmpbjahhab
