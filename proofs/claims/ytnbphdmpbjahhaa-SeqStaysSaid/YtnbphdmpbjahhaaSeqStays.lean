/- quirelaw9.SeqStays: each insertion leaves all others as they stood to one another, and the new one stands between its origins. -/
import Derived.Test.YtnbphdmpbjahhaaOwn4
import Derived.Test.YtnbphdmpbjahhaaPart20
import Derived.Test.YtnbphdmpbjahhaaPart31
import Derived.Test.YtnbphdmpbjahhaaGrown
import Derived.Test.YtnbphdmpbjahhaaPart34
import Derived.Deep.CutBlock
namespace Go.Proofs.Ytnbphdmpbjahhaa
open Go.RowKit
set_option linter.unusedVariables false
set_option linter.unusedSimpArgs false
set_option maxRecDepth 100000

theorem SeqM.typD {w : World} {B : Bk} {S : SS} (h : SeqM w B S) {k : Nat} (hk : B.has k) : ∃ c t fr, w.heap[k]? = some (.cells c t fr) ∧ t ≠ 33 := by
  rcases hk with rfl | rfl | rfl | rfl | rfl
  · obtain ⟨c, hc⟩ := h.blk
    exact ⟨c, _, _, hc, by decide⟩
  · obtain ⟨c, hc, _⟩ := h.runs.row
    exact ⟨c, _, _, hc, by decide⟩
  · obtain ⟨c, hc, _⟩ := h.pcs.row
    exact ⟨c, _, _, hc, by decide⟩
  · obtain ⟨L, tr, h1, _⟩ := h.ord
    obtain ⟨c, hc, _⟩ := h1.row
    exact ⟨c, _, _, hc, by decide⟩
  · obtain ⟨L, tr, h1, _⟩ := h.idx
    obtain ⟨c, hc, _⟩ := h1.row
    exact ⟨c, _, _, hc, by decide⟩
/-- A sequence, the units, and the ids that were. -/
structure StW (w W : World) (p : Nat) (S : SS) (v : Value) (us : List Un) (vw : Value) (ws : List Ip) : Prop where
  one : OneS w W p S v us
  was : NewD w W vw ws
theorem StW.touch {w W W' : World} {p : Nat} {S : SS} {v : Value} {us : List Un} {vw : Value} {ws : List Ip} (h : StW w W p S v us vw ws) (t : Touch (fun _ => False) W W') : StW w W' p S v us vw ws := ⟨h.one.touch t, h.was.on t⟩
theorem StW.ins {w W : World} {p : Nat} {S : SS} {v : Value} {us : List Un} {vw : Value} {ws : List Ip} (h : StW w W p S v us vw ws) (u : Un) (hu : u.ok) {n : Nat} (hz : Size S n) (hn : n ≤ 1000000) :
    Calls Try.prog 14 #[.pointer (some ⟨p, 0, none⟩), .agg #[.int .u64 u.c, .int .u64 u.k, .int .u64 u.lc, .int .u64 u.lk, .int .u64 u.rc, .int .u64 u.rk]] W fun e w' => e = .returned (.bool (S.may u 1)) ∧ StW w w' p (S.run u 1) v us vw ws := by
  obtain ⟨A, a, d⟩ := h.one
  refine (a.ins u hu hz hn).mono ?_
  rintro e w' ⟨rfl, A', h1, h2, t⟩
  refine ⟨rfl, ⟨A', h1, d.onB a t⟩, ⟨ownD_touch h.was.owns t fun k e hk => ?_, h.was.touch.then t fun k hk hb => absurd hk (Nat.not_lt.2 (a.new k hb)), h.was.fresh⟩⟩
  obtain ⟨c, ty, fr, e2, ht⟩ := a.mem.typD hk
  rcases h.was.owns.2 with ⟨e', _⟩ | ⟨g, cap, cur, e', q, hg, _⟩
  · rw [e'] at e; simp [Value.ownBlock] at e
  · rw [e'] at e
    have hgk : g = k := by simpa [Value.ownBlock] using e
    rw [hgk, e2] at hg
    simp at hg
    exact ht hg.2.1
theorem StW.find {w W : World} {p : Nat} {S : SS} {v : Value} {us : List Un} {vw : Value} {ws : List Ip} (h : StW w W p S v us vw ws) (c k : Int) (hc : 0 ≤ c) (hk : 0 ≤ k) (hk2 : k < 18446744073709551616) :
    Calls Try.prog 19 #[.pointer (some ⟨p, 0, none⟩), .agg #[.int .u64 c, .int .u64 k]] W fun e w' => e = .returned (.int .i64 (S.find c k)) ∧ Touch (fun _ => False) W w' := by
  obtain ⟨A, a, d⟩ := h.one
  exact a.find c k hc hk hk2
theorem StW.ids {w W : World} {p : Nat} {S : SS} {v : Value} {us : List Un} {vw : Value} {ws : List Ip} (h : StW w W p S v us vw ws) (hn : S.units.length ≤ 1000000) :
    Calls Try.prog 23 #[.pointer (some ⟨p, 0, none⟩)] W fun e w' => ∃ v', e = .returned v' ∧ NewD w w' v' (S.units.map idOf) ∧ Touch (fun _ => False) W w' := by
  obtain ⟨A, a, d⟩ := h.one
  have hp := a.at_
  subst hp
  refine (allIds_any a.mem a.inv hn).mono ?_
  rintro e w' ⟨v', rfl, h1⟩
  exact ⟨v', rfl, h1.since d.touch, h1.touch⟩
theorem newD_cells {w W : World} {g cap n : Nat} {l : List Ip} (h : NewD w W (.slice (some ⟨g, 0, none⟩) n cap) l) (j : Nat) (hlt : j < l.length) : W.cell? ⟨g, j * 2, none⟩ = some (.int .u64 l[j].c) ∧ W.cell? ⟨g, j * 2 + 1, none⟩ = some (.int .u64 l[j].k) := by
  obtain ⟨b, o, cap, e, _, _, _, hx⟩ := h.sl.row (fun e => by rw [e] at hlt; exact absurd hlt (Nat.not_lt_zero _))
  simp only [Value.slice.injEq, Option.some.injEq, Addr.mk.injEq] at e
  obtain ⟨⟨rfl, rfl, -⟩, -, -⟩ := e
  have := hx j hlt
  simp only [Nat.zero_add] at this
  exact this
def kOf (p n : Nat) : Nat := if n ≤ p then n else n - 1
set_option maxHeartbeats 16000000 in
theorem seqStays_any (w : World) (ao0 : Option Addr) (zs0 : List Int) (n0 c0 : Nat) (hn0 : n0 = zs0.length) (hz0 : LiesK w .u16 ao0 zs0) (hm0 : c0 ≤ maxLen) (hc0 : n0 ≤ c0) (hr0 : ∀ y ∈ zs0, 0 ≤ y ∧ y < 65536) :
    Calls Try.prog 6 #[.slice ao0 n0 c0] w fun e w' => e = .returned (.bool true) ∧ Touch (fun _ => False) w w' := by
  have HK : Hid (Calls Try.prog 9 #[] w fun e w' => e = .returned (.bool true) ∧ Touch (fun _ => False) w w') := known_any w
  have hx0 : (n0 : Int) ≤ 9223372036854775807 := by unfold maxLen at hm0; omega
  clear hm0 hc0
  by_cases h0 : 40 < n0
  · have g0 : (40 : Int) < (n0 : Int) := by omega
    clear h0 hz0 hr0
    go_enter Try.func6, Try.ntmps6
    go_wp2_with fail
    refine HK.out.mono ?_
    rintro e W1 ⟨rfl, t1⟩
    have HT1 : Hid (Touch (fun _ => False) w W1) := t1
    clear t1 HK
    go_wp2_with fail
    go_ret
    exact ⟨rfl, HT1.out⟩
  have g0 : ¬ (40 : Int) < (n0 : Int) := by omega
  obtain ⟨us, hus⟩ : ∃ us, Hid (us = (grownG zs0).out) := ⟨_, Eq.refl _⟩
  obtain ⟨gok, ginv⟩ := grown_ok zs0 hr0 (by omega)
  have hul : us.length ≤ 40 := by
    have := ginv.out
    rw [hus.out]; omega
  have HB : Hid (AoB us) := by rw [hus.out]; exact grown_aob zs0 hr0 (by omega)
  have HSI : Hid (∀ j, j ≤ us.length → Inv (seqOf (us.take j)) ∧ Size (seqOf (us.take j)) j) := seqOf_inv us HB.out.ok (by omega)
  have HSt : Hid (∀ j (hj : j < us.length), seqOf (us.take (j + 1)) = (seqOf (us.take j)).run us[j] 1) := seqOf_take us
  have HMa : Hid (∀ j (hj : j < us.length), (seqOf (us.take j)).may us[j] 1 = true) := fun j hj => by
    obtain ⟨sp, hc⟩ := seqOf_corr us HB.out.ok (by omega) j (by omega)
    rw [hc.may (HB.out.ok _ (List.getElem_mem _))]
    exact HB.out.may j hj
  have HG : Hid (∀ W, Touch (fun _ => False) w W → Calls Try.prog 18 #[.slice ao0 n0 c0] W fun e w' => ∃ v, e = .returned v ∧ NewV W w' v us) := fun W t => by
    rw [hn0, hus.out]
    exact grown_any zs0 (hz0.touch t) hr0 (by omega)
  have HN : Hid (∀ W, Touch (fun _ => False) w W → Calls Try.prog 10 #[] W fun e w' => ∃ p B, e = .returned (.pointer (some ⟨p, 0, none⟩)) ∧ Sq1 w w' p B .new ∧ (∀ k, B.has k → W.heap.size ≤ k) ∧ Touch (fun _ => False) W w') := fun W t => Sq1.fresh w W t
  clear h0 hz0 hr0 gok ginv hn0 hus
  go_enter Try.func6, Try.ntmps6
  go_wp2_with fail
  refine HK.out.mono ?_
  rintro e W1 ⟨rfl, t1⟩
  have HT1 : Hid (Touch (fun _ => False) w W1) := t1
  clear t1 HK
  go_wp2_with fail
  refine (HG.out _ HT1.out).mono ?_
  rintro e W2 ⟨v, rfl, n2⟩
  have H2 : Hid (NewV w W2 v us) := n2.since HT1.out
  obtain ⟨vo, vcap, rfl, hvo, -⟩ := n2.shape
  have HVo : Hid (0 < us.length → ∃ g, vo = some ⟨g, 0, none⟩) := hvo
  clear n2 HG HT1 hvo
  go_wp2_with fail
  refine (HN.out _ H2.out.touch).mono ?_
  rintro e W3 ⟨pa, A, rfl, a3, -, t3⟩
  have H3 : Hid (StW w W3 pa .new (.slice vo us.length vcap) us (.slice none 0 0) []) := ⟨⟨A, a3, H2.out.on t3⟩, NewD.nil w W3 (H2.out.touch.trans t3)⟩
  clear a3 t3 HN H2
  go_wp2_with fail
  go_loopw [5, 6] (fun s5 s6 wr => ∃ (j : Nat) (wo : Option Addr) (wcap wl : Nat), s5 = .slice wo wl wcap ∧ s6 = .int .i64 (j : Int) ∧ j ≤ us.length ∧ Hid (wl = (seqOf (us.take j)).units.length ∧ StW w wr pa (seqOf (us.take j)) (.slice vo us.length vcap) us (.slice wo wl wcap) ((seqOf (us.take j)).units.map idOf))) (fun _ s6 _ => (us.length - intOf s6).toNat)
  case atStart => exact ⟨0, none, 0, 0, rfl, rfl, Nat.zero_le _, rfl, H3.out⟩
  case round =>
    obtain ⟨j, wo, wcap, wl, rfl, rfl, hj, HJ⟩ := hrel
    clear H3
    by_cases hlt : j < us.length
    rotate_left
    · have hjl : us.length = j := by omega
      have HF : Hid (Touch (fun _ => False) w wr) := HJ.out.2.was.touch
      clear HJ HSI HSt HMa HB HVo
      generalize us.length = nu at *
      subst hjl
      go_wp2_with fail
      go_ret
      exact ⟨rfl, HF.out⟩
    · obtain ⟨g, rfl⟩ := HVo.out (by omega)
      have hS := HSI.out j hj
      have hS' := HSI.out (j + 1) (by omega)
      have hu := HB.out.ok us[j] (List.getElem_mem hlt)
      have HS1 := HSt.out j hlt
      have hmay := HMa.out j hlt
      obtain ⟨p, hp, he, f1, f2, f3⟩ := ins_stays hS.1 hu hmay hS.2 (by omega)
      rw [← HS1] at he f1 f2 f3
      have HA : Hid (Calls Try.prog 14 #[.pointer (some ⟨pa, 0, none⟩), .agg #[.int .u64 us[j].c, .int .u64 us[j].k, .int .u64 us[j].lc, .int .u64 us[j].lk, .int .u64 us[j].rc, .int .u64 us[j].rk]] wr fun e w' => e = .returned (.bool true) ∧ StW w w' pa (seqOf (us.take (j + 1))) (.slice (some ⟨g, 0, none⟩) us.length vcap) us (.slice wo wl wcap) ((seqOf (us.take j)).units.map idOf)) := by
        have := HJ.out.2.ins _ hu hS.2 (by omega)
        rw [hmay] at this
        rw [HS1]; exact this
      obtain ⟨k0, k1, k2, k3, k4, k5⟩ := HJ.out.2.one.cells j hlt
      obtain ⟨hlen, hids⟩ := ins_ids hS'.1 hp he
      obtain ⟨T, hT⟩ : ∃ T, Hid (T = seqOf (us.take (j + 1))) := ⟨_, Eq.refl _⟩
      obtain ⟨S, hSe⟩ : ∃ S, Hid (S = seqOf (us.take j)) := ⟨_, Eq.refl _⟩
      rw [← hT.out] at HA he f1 f2 f3 hS' hlen hids
      rw [← hSe.out] at HA he hp hlen hids
      have hwl : wl = S.units.length := by rw [hSe.out]; exact HJ.out.1
      have hwb : wl ≤ 40 := by
        have h1 := hS.1.units_len
        have h2 := hS.2.tot
        rw [hwl, hSe.out]
        omega
      rw [← hwl] at hp hlen
      have HLen : Hid (T.units.length = wl + 1) := hlen
      have HWl : Hid (wl = S.units.length) := hwl
      have HP : Hid (p ≤ wl) := hp
      have HAll : Hid (∀ W, StW w W pa T (.slice (some ⟨g, 0, none⟩) us.length vcap) us (.slice wo wl wcap) (S.units.map idOf) → Calls Try.prog 23 #[.pointer (some ⟨pa, 0, none⟩)] W fun e w' => ∃ v', e = .returned v' ∧ NewD w w' v' (T.units.map idOf) ∧ Touch (fun _ => False) W w') := fun W h => h.ids (by omega)
      have HIds : Hid (∀ n (hn : n < T.units.length), (n = p → T.units[n] = us[j]) ∧ (n ≠ p → ¬ (T.units[n].c = us[j].c ∧ T.units[n].k = us[j].k) ∧ ∃ hk : (if n < p then n else n - 1) < S.units.length, T.units[n] = S.units[if n < p then n else n - 1])) := hids
      have HF : Hid (∀ W, StW w W pa T (.slice (some ⟨g, 0, none⟩) us.length vcap) us (.slice wo wl wcap) (S.units.map idOf) →
          (Calls Try.prog 19 #[.pointer (some ⟨pa, 0, none⟩), .agg #[.int .u64 us[j].c, .int .u64 us[j].k]] W fun e w' => e = .returned (.int .i64 (p : Int)) ∧ Touch (fun _ => False) W w') ∧
          (Calls Try.prog 19 #[.pointer (some ⟨pa, 0, none⟩), .agg #[.int .u64 us[j].lc, .int .u64 us[j].lk]] W fun e w' => e = .returned (.int .i64 (T.find us[j].lc us[j].lk)) ∧ Touch (fun _ => False) W w') ∧
          (Calls Try.prog 19 #[.pointer (some ⟨pa, 0, none⟩), .agg #[.int .u64 us[j].rc, .int .u64 us[j].rk]] W fun e w' => e = .returned (.int .i64 (T.find us[j].rc us[j].rk)) ∧ Touch (fun _ => False) W w')) := fun W h => by
        have e1 := h.find us[j].c us[j].k hu.c hu.k.1 hu.k.2
        rw [f1] at e1
        exact ⟨e1, h.find _ _ hu.lc hu.lk.1 hu.lk.2, h.find _ _ hu.rc hu.rk.1 hu.rk.2⟩
      have HCl : Hid (∀ W, StW w W pa T (.slice (some ⟨g, 0, none⟩) us.length vcap) us (.slice wo wl wcap) (S.units.map idOf) → W.cell? ⟨g, j * 6, none⟩ = some (.int .u64 us[j].c) ∧ W.cell? ⟨g, j * 6 + 1, none⟩ = some (.int .u64 us[j].k) ∧ W.cell? ⟨g, j * 6 + 2, none⟩ = some (.int .u64 us[j].lc) ∧ W.cell? ⟨g, j * 6 + 3, none⟩ = some (.int .u64 us[j].lk) ∧ W.cell? ⟨g, j * 6 + 4, none⟩ = some (.int .u64 us[j].rc) ∧ W.cell? ⟨g, j * 6 + 5, none⟩ = some (.int .u64 us[j].rk)) := fun W h => h.one.cells j hlt
      have HEnd : Hid (∀ W v', StW w W pa T (.slice (some ⟨g, 0, none⟩) us.length vcap) us (.slice wo wl wcap) (S.units.map idOf) → NewD w W v' (T.units.map idOf) → T.units.length = (seqOf (us.take (j + 1))).units.length ∧ StW w W pa (seqOf (us.take (j + 1))) (.slice (some ⟨g, 0, none⟩) us.length vcap) us v' ((seqOf (us.take (j + 1))).units.map idOf)) := fun W v' h hn => by
        rw [← hT.out]
        exact ⟨rfl, h.one, hn⟩
      have l0 : (j : Int) < (us.length : Int) := by omega
      generalize T.find us[j].lc us[j].lk = fl at *
      generalize T.find us[j].rc us[j].rk = fr at *
      have HFl : Hid (fl < (p : Int) ∧ (0 ≤ fr → (p : Int) < fr)) := ⟨f2, f3⟩
      have HHu : Hid (us.length ≤ 40) := hul
      clear hS hS' hu HS1 HSI HSt HMa hmay HB hT hSe HVo hp he f1 f2 f3 hlen hids hwl HJ hul
      generalize us[j] = u at *
      obtain ⟨uc, uk, ulc, ulk, urc, urk⟩ := u
      simp only at HA k0 k1 k2 k3 k4 k5 HF HCl HIds
      go_wp2_with fail
      refine HA.out.mono ?_
      rintro e W5 ⟨rfl, h5⟩
      have H5 : Hid (StW w W5 pa T (.slice (some ⟨g, 0, none⟩) us.length vcap) us (.slice wo wl wcap) (S.units.map idOf)) := h5
      clear h5 HA k0 k1 k2 k3 k4 k5
      go_wp2_with fail
      refine (HAll.out _ H5.out).mono ?_
      rintro e W6 ⟨v', rfl, n6, t6⟩
      have H6 : Hid (StW w W6 pa T (.slice (some ⟨g, 0, none⟩) us.length vcap) us (.slice wo wl wcap) (S.units.map idOf) ∧ NewD w W6 v' (T.units.map idOf)) := ⟨H5.out.touch t6, n6⟩
      obtain ⟨no, ncap, ev, hno, -⟩ := n6.shape
      rw [List.length_map, HLen.out] at ev hno
      obtain ⟨gn, rfl⟩ := hno (by omega)
      subst ev
      clear n6 t6 H5 HAll hno
      go_wp2_with fail
      go_loopw [8, 9] (fun s8 s9 wq => ∃ n : Nat, s8 = .int .i64 (kOf p n : Int) ∧ s9 = .int .i64 (n : Int) ∧ n ≤ wl + 1 ∧ Hid (Touch (fun _ => False) W6 wq)) (fun _ s9 _ => (wl + 1 - intOf s9).toNat)
      case atStart => exact ⟨0, by simp [kOf], rfl, Nat.zero_le _, Touch.refl _ _⟩
      case round =>
        obtain ⟨n, rfl, rfl, hn, HQ⟩ := hrel
        obtain ⟨wq, hwq⟩ : ∃ wq, wq = wr := ⟨_, rfl⟩
        subst hwq
        have HQ6 : Hid (StW w wq pa T (.slice (some ⟨g, 0, none⟩) us.length vcap) us (.slice wo wl wcap) (S.units.map idOf) ∧ NewD w wq (.slice (some ⟨gn, 0, none⟩) (wl + 1) ncap) (T.units.map idOf)) := ⟨H6.out.1.touch HQ.out, H6.out.2.on HQ.out⟩
        by_cases hnl : n < wl + 1
        rotate_left
        · have hnw : n = wl + 1 := by omega
          subst hnw
          have hk : kOf p (wl + 1) = wl := by unfold kOf; rw [if_neg (by have := HP.out; omega)]; omega
          rw [hk]
          have HF1 : Hid (∀ W, Hid (Touch (fun _ => False) wq W) → Calls Try.prog 19 #[.pointer (some ⟨pa, 0, none⟩), .agg #[.int .u64 uc, .int .u64 uk]] W fun e w' => e = .returned (.int .i64 (p : Int)) ∧ Hid (Touch (fun _ => False) wq w')) := fun W t => (HF.out W (HQ6.out.1.touch t.out)).1.mono fun e w' h => ⟨h.1, t.out.trans h.2⟩
          have HF2 : Hid (∀ W, Hid (Touch (fun _ => False) wq W) → Calls Try.prog 19 #[.pointer (some ⟨pa, 0, none⟩), .agg #[.int .u64 ulc, .int .u64 ulk]] W fun e w' => e = .returned (.int .i64 fl) ∧ Hid (Touch (fun _ => False) wq w')) := fun W t => (HF.out W (HQ6.out.1.touch t.out)).2.1.mono fun e w' h => ⟨h.1, t.out.trans h.2⟩
          have HF3 : Hid (∀ W, Hid (Touch (fun _ => False) wq W) → Calls Try.prog 19 #[.pointer (some ⟨pa, 0, none⟩), .agg #[.int .u64 urc, .int .u64 urk]] W fun e w' => e = .returned (.int .i64 fr) ∧ Hid (Touch (fun _ => False) wq w')) := fun W t => (HF.out W (HQ6.out.1.touch t.out)).2.2.mono fun e w' h => ⟨h.1, t.out.trans h.2⟩
          have HC2 : Hid (∀ W, Hid (Touch (fun _ => False) wq W) → W.cell? ⟨g, j * 6, none⟩ = some (.int .u64 uc) ∧ W.cell? ⟨g, j * 6 + 1, none⟩ = some (.int .u64 uk) ∧ W.cell? ⟨g, j * 6 + 2, none⟩ = some (.int .u64 ulc) ∧ W.cell? ⟨g, j * 6 + 3, none⟩ = some (.int .u64 ulk) ∧ W.cell? ⟨g, j * 6 + 4, none⟩ = some (.int .u64 urc) ∧ W.cell? ⟨g, j * 6 + 5, none⟩ = some (.int .u64 urk)) := fun W t => HCl.out W (HQ6.out.1.touch t.out)
          have HE2 : Hid (∀ W, Hid (Touch (fun _ => False) wq W) → wl + 1 = (seqOf (us.take (j + 1))).units.length ∧ StW w W pa (seqOf (us.take (j + 1))) (.slice (some ⟨g, 0, none⟩) us.length vcap) us (.slice (some ⟨gn, 0, none⟩) (wl + 1) ncap) ((seqOf (us.take (j + 1))).units.map idOf)) := fun W t => by
            rw [← HLen.out]
            have := HEnd.out W _ (HQ6.out.1.touch t.out) (HQ6.out.2.on t.out)
            rw [← HLen.out] at this
            exact this
          have T0 : Hid (Touch (fun _ => False) wq wq.drew) := (Touch.refl _ _).drew
          have S0 := HC2.out _ T0
          have l1 : ¬ ((p : Int) ≤ fl) := by have := HFl.out.1; omega
          clear HQ6 HQ H6 HF HCl HIds HEnd HWl HLen HP hk hn hnl
          go_upto_region 22 with fail
          go_region_held3 (fun W => W.cell? ⟨g, j * 6, none⟩ = some (.int .u64 uc) ∧ W.cell? ⟨g, j * 6 + 1, none⟩ = some (.int .u64 uk) ∧ W.cell? ⟨g, j * 6 + 2, none⟩ = some (.int .u64 ulc) ∧ W.cell? ⟨g, j * 6 + 3, none⟩ = some (.int .u64 ulk) ∧ W.cell? ⟨g, j * 6 + 4, none⟩ = some (.int .u64 urc) ∧ W.cell? ⟨g, j * 6 + 5, none⟩ = some (.int .u64 urk)) (first | assumption | exact S0)
            (first | (go_at_call 19; first | ((with_reducible refine (HF1.out _ (by assumption)).mono ?_); rintro e w7 ⟨rfl, T7⟩; have S7 := HC2.out _ T7) | ((with_reducible refine (HF2.out _ (by assumption)).mono ?_); rintro e w8 ⟨rfl, T8⟩; have S8 := HC2.out _ T8) | ((with_reducible refine (HF3.out _ (by assumption)).mono ?_); rintro e w9 ⟨rfl, T9⟩; have S9 := HC2.out _ T9)))
          clear S0 S7 S8 S9 HF1 HF2 HF3 HC2
          have ewj : IntKind.i64.wrap ((j : Int) + 1) = (j : Int) + 1 := by have := HHu.out; rw [IntKind.wrap_i64]; omega
          by_cases hfr : 0 ≤ fr
          · have l2 : ¬ (fr ≤ (p : Int)) := by have := HFl.out.2 hfr; omega
            go_wp2_with fail
            exact ⟨⟨j + 1, _, _, _, rfl, by go_num, by omega, HE2.out _ T9⟩, by simp [intOf]; omega⟩
          · go_wp2_with fail
            exact ⟨⟨j + 1, _, _, _, rfl, by go_num, by omega, HE2.out _ T9⟩, by simp [intOf]; omega⟩
        · have hnT : n < T.units.length := by rw [HLen.out]; exact hnl
          obtain ⟨y0, y1⟩ := newD_cells HQ6.out.2 n (by rw [List.length_map]; exact hnT)
          obtain ⟨c0', c1', -, -, -, -⟩ := HCl.out wq HQ6.out.1
          rw [List.getElem_map] at y0 y1
          have l1 : (n : Int) < ((wl + 1 : Nat) : Int) := by omega
          have l3 : (n : Int) < (wl : Int) + 1 := by omega
          have ewn : IntKind.i64.wrap ((n : Int) + 1) = (n : Int) + 1 := by rw [IntKind.wrap_i64]; omega
          by_cases hnp : n = p
          · have hx := (HIds.out n hnT).1 hnp
            rw [hx] at y0 y1
            simp only [idOf] at y0 y1
            have hk : kOf p (n + 1) = kOf p n := by unfold kOf; rw [hnp, if_neg (by omega), if_pos (by omega)]; omega
            have HKe : Hid (kOf p (n + 1) = kOf p n) := hk
            have b0 : (uc == uc) = true := by simp
            have b1 : (uk == uk) = true := by simp
            clear hx hnp HQ6 H6 HF HCl HIds HEnd HWl HLen HP hk
            generalize kOf p n = kk at *
            go_upto_region 18 with fail
            go_region
            go_wp2_with fail
            exact ⟨⟨n + 1, by rw [HKe.out], by go_num, by omega, HQ.out.drew⟩, by simp [intOf]; omega⟩
          · obtain ⟨hne, hkl, hx⟩ := (HIds.out n hnT).2 hnp
            have hkk : (if n < p then n else n - 1) = kOf p n := by unfold kOf; by_cases h : n < p; (rw [if_pos h, if_pos (by omega)]); (rw [if_neg h, if_neg (by omega)])
            have hke : kOf p (n + 1) = kOf p n + 1 := by unfold kOf; by_cases h : n < p; (rw [if_pos (by omega), if_pos (by omega)]); (rw [if_neg (by omega), if_neg (by omega)]; omega)
            simp only [hkk] at hkl hx
            have hkw : kOf p n < wl := by rw [HWl.out]; exact hkl
            obtain ⟨ao, cp, e, hpos, -⟩ := HQ6.out.1.was.shape
            rw [List.length_map, ← HWl.out] at e hpos
            simp only [Value.slice.injEq] at e
            obtain ⟨rfl, -, rfl⟩ := e
            obtain ⟨gw, rfl⟩ := hpos (by omega)
            obtain ⟨z0, z1⟩ := newD_cells HQ6.out.1.was (kOf p n) (by rw [List.length_map]; exact hkl)
            rw [List.getElem_map, ← hx] at z0 z1
            simp only [idOf] at y0 y1 z0 z1
            have HKe : Hid (kOf p (n + 1) = kOf p n + 1) := hke
            clear hx hnp HQ6 H6 HF HCl HIds HEnd HWl HLen HP hkk hke hkl hpos
            generalize kOf p n = kk at *
            have l2 : ¬ ((wl : Int) ≤ (kk : Int)) := by omega
            have l4 : (kk : Int) < (wl : Int) := by omega
            have ewk : IntKind.i64.wrap ((kk : Int) + 1) = (kk : Int) + 1 := by rw [IntKind.wrap_i64]; omega
            generalize T.units[n].c = xc at *
            generalize T.units[n].k = xk at *
            have b2 : (xc == xc) = true := by simp
            have b3 : (xk == xk) = true := by simp
            by_cases hc : xc = uc
            · have b0 : (xc == uc) = true := by simp [hc]
              have b1 : (xk == uk) = false := by simp; exact fun h => hne ⟨hc, h⟩
              clear hne hc
              go_upto_region 18 with fail
              go_region
              go_upto_region 19 with fail
              go_region
              go_wp2_with fail
              exact ⟨⟨n + 1, by rw [HKe.out]; go_num, by go_num, by omega, HQ.out.drew.drew⟩, by simp [intOf]; omega⟩
            · have b0 : (xc == uc) = false := by simpa using hc
              clear hne hc
              go_upto_region 18 with fail
              go_region
              go_upto_region 19 with fail
              go_region
              go_wp2_with fail
              exact ⟨⟨n + 1, by rw [HKe.out]; go_num, by go_num, by omega, HQ.out.drew.drew⟩, by simp [intOf]; omega⟩
end Go.Proofs.Ytnbphdmpbjahhaa
