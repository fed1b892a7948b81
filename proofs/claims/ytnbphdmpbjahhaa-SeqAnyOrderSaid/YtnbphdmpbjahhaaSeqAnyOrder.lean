/- quirelaw9.SeqAnyOrder: units that are inserted in another order stand in the same one. -/
import Derived.Test.YtnbphdmpbjahhaaAoW
import Derived.Test.YtnbphdmpbjahhaaPart31
import Derived.Test.YtnbphdmpbjahhaaGrown
import Derived.Test.YtnbphdmpbjahhaaPart34
import Derived.Deep.CutBlock
namespace Go.Proofs.Ytnbphdmpbjahhaa
open Go.RowKit
set_option linter.unusedVariables false
set_option linter.unusedSimpArgs false
set_option maxRecDepth 100000

def slLen : Value → Nat
  | .slice _ n _ => n
  | _ => 0
def blOf : Value → Bool
  | .bool b => b
  | _ => false
def okAt (S : SS) (u : Un) : Prop := there S u.lc u.lk ∧ there S u.rc u.rk
theorem cmp0 (a b : Int) : ((a == 0) = true ∧ (b == 0) = true) ∨ ((a == 0) = true ∧ (b == 0) = false) ∨ (a == 0) = false := by
  by_cases h1 : a = 0 <;> by_cases h2 : b = 0 <;> simp [h1, h2]
theorem there_z {S : SS} {a b : Int} (h1 : (a == 0) = true) (h2 : (b == 0) = true) : there S a b := .inl ⟨by simpa using h1, by simpa using h2⟩
theorem there_n1 {S : SS} {a b : Int} (h1 : (a == 0) = true) (h2 : (b == 0) = false) (h : S.find a b < 0) : ¬ there S a b := fun q => by
  rcases q with ⟨_, q⟩ | q
  · simp [q] at h2
  · omega
theorem there_n2 {S : SS} {a b : Int} (h1 : (a == 0) = false) (h : S.find a b < 0) : ¬ there S a b := fun q => by
  rcases q with ⟨q, _⟩ | q
  · simp [q] at h1
  · omega
theorem there_f {S : SS} {a b : Int} (h : ¬ S.find a b < 0) : there S a b := .inr (by omega)
/-- The inner loop's state. -/
def AoL (w wx : World) (pa pb : Nat) (us vs ls : List Un) (S1 : SS) (lo : Option Addr) (lcap p : Nat) (s9 s12 : Value) (k : Nat) : Prop :=
  (s12 = .bool false ∧ s9 = .slice lo ls.length lcap ∧ k ≤ ls.length ∧ Two w wx pa pb S1 (seqOf vs) (.slice lo ls.length lcap) ls ∧ ∀ j, j < k → ∀ h : (p + j) % ls.length < ls.length, ¬ okAt (seqOf vs) ls[(p + j) % ls.length]) ∨
  (s12 = .bool true ∧ k ≤ ls.length ∧ ∃ vs' ls' lo' lcap', s9 = .slice lo' (List.length ls') lcap' ∧ ls'.length + 1 = ls.length ∧ AoI us vs' ls' ∧ Two w wx pa pb S1 (seqOf vs') (.slice lo' ls'.length lcap') ls')
set_option maxHeartbeats 32000000 in
theorem seqAnyOrder_any (w : World) (ao0 : Option Addr) (zs0 : List Int) (n0 c0 : Nat) (hn0 : n0 = zs0.length) (hz0 : LiesK w .u16 ao0 zs0) (hm0 : c0 ≤ maxLen) (hc0 : n0 ≤ c0) (hr0 : ∀ y ∈ zs0, 0 ≤ y ∧ y < 65536) (ao1 : Option Addr) (zs1 : List Int) (n1 c1 : Nat) (hn1 : n1 = zs1.length) (hz1 : LiesK w .u8 ao1 zs1) (hm1 : c1 ≤ maxLen) (hc1 : n1 ≤ c1) (hr1 : ∀ y ∈ zs1, 0 ≤ y ∧ y < 256) :
    Calls Try.prog 4 #[.slice ao0 n0 c0, .slice ao1 n1 c1] w fun e w' => e = .returned (.bool true) ∧ Touch (fun _ => False) w w' := by
  have HK : Hid (Calls Try.prog 9 #[] w fun e w' => e = .returned (.bool true) ∧ Touch (fun _ => False) w w') := known_any w
  have hx0 : (n0 : Int) ≤ 9223372036854775807 := by unfold maxLen at hm0; omega
  have hx1 : (n1 : Int) ≤ 9223372036854775807 := by unfold maxLen at hm1; omega
  clear hm0 hc0 hm1 hc1
  by_cases h0 : 40 < n0
  · have g0 : (40 : Int) < (n0 : Int) := by omega
    clear h0 hz0 hr0 hz1 hr1
    go_enter Try.func4, Try.ntmps4
    go_wp2_with fail
    refine HK.out.mono ?_
    rintro e W1 ⟨rfl, t1⟩
    have HT1 : Hid (Touch (fun _ => False) w W1) := t1
    clear t1 HK
    go_wp2_with fail
    go_ret
    exact ⟨rfl, HT1.out⟩
  have g0 : ¬ (40 : Int) < (n0 : Int) := by omega
  by_cases h1 : 200 < n1
  · have g1 : (200 : Int) < (n1 : Int) := by omega
    clear h0 h1 hz0 hr0 hz1 hr1
    go_enter Try.func4, Try.ntmps4
    go_wp2_with fail
    refine HK.out.mono ?_
    rintro e W1 ⟨rfl, t1⟩
    have HT1 : Hid (Touch (fun _ => False) w W1) := t1
    clear t1 HK
    go_wp2_with fail
    go_ret
    exact ⟨rfl, HT1.out⟩
  have g1 : ¬ (200 : Int) < (n1 : Int) := by omega
  obtain ⟨us, hus⟩ : ∃ us, Hid (us = (grownG zs0).out) := ⟨_, Eq.refl _⟩
  obtain ⟨gok, ginv⟩ := grown_ok zs0 hr0 (by omega)
  have hul : us.length ≤ 40 := by
    have := ginv.out
    rw [hus.out]; omega
  have HB : Hid (AoB us) := by rw [hus.out]; exact grown_aob zs0 hr0 (by omega)
  have HSI : Hid (∀ j, j ≤ us.length → Inv (seqOf (us.take j)) ∧ Size (seqOf (us.take j)) j) := seqOf_inv us HB.out.ok (by omega)
  have HSt : Hid (∀ j (hj : j < us.length), seqOf (us.take (j + 1)) = (seqOf (us.take j)).run us[j] 1) := seqOf_take us
  have HMa : Hid (∀ j (hj : j < us.length), (seqOf (us.take j)).may us[j] 1 = true) := fun j hj => by
    obtain ⟨sp, hc⟩ := seqOf_corr us HB.out.ok (by omega) j (by omega)
    rw [hc.may (HB.out.ok _ (List.getElem_mem _))]
    exact HB.out.may j hj
  have HG : Hid (∀ W, Touch (fun _ => False) w W → Calls Try.prog 18 #[.slice ao0 n0 c0] W fun e w' => ∃ v, e = .returned v ∧ NewV W w' v us) := fun W t => by
    rw [hn0, hus.out]
    exact grown_any zs0 (hz0.touch t) hr0 (by omega)
  have HN : Hid (∀ W, Touch (fun _ => False) w W → Calls Try.prog 10 #[] W fun e w' => ∃ p B, e = .returned (.pointer (some ⟨p, 0, none⟩)) ∧ Sq1 w w' p B .new ∧ (∀ k, B.has k → W.heap.size ≤ k) ∧ Touch (fun _ => False) W w') := fun W t => Sq1.fresh w W t
  have HZ1 : Hid (∀ j (hj : j < n1), ∃ g o x, ao1 = some ⟨g, o, none⟩ ∧ 0 ≤ x ∧ x < 256 ∧ ∀ W, Touch (fun _ => False) w W → W.cell? ⟨g, o + j, none⟩ = some (.int .u8 x)) := fun j hj => by
    rcases hz1 with h | ⟨g, o, e, h⟩
    · rw [hn1, h] at hj; exact absurd hj (Nat.not_lt_zero _)
    · have hx := hr1 _ (List.getElem_mem (show j < zs1.length by omega))
      refine ⟨g, o, _, e, hx.1, hx.2, fun W t => ?_⟩
      have := h j (by omega)
      rw [World.cell?_of_block (t.block _ (World.block_lt_of_cell? _ _ this) id)]; exact this
  clear h0 h1 hz0 hz1 hr0 hr1 gok ginv hn0 hn1 hus
  go_enter Try.func4, Try.ntmps4
  go_wp2_with fail
  refine HK.out.mono ?_
  rintro e W1 ⟨rfl, t1⟩
  have HT1 : Hid (Touch (fun _ => False) w W1) := t1
  clear t1 HK
  go_wp2_with fail
  refine (HG.out _ HT1.out).mono ?_
  rintro e W2 ⟨v, rfl, n2⟩
  have H2 : Hid (NewV w W2 v us) := n2.since HT1.out
  obtain ⟨vo, vcap, rfl, hvo, -⟩ := n2.shape
  have HVo : Hid (0 < us.length → ∃ g, vo = some ⟨g, 0, none⟩) := hvo
  clear n2 HG HT1 hvo
  go_wp2_with fail
  refine (HN.out _ H2.out.touch).mono ?_
  rintro e W3 ⟨pa, A, rfl, a3, n3, t3⟩
  have H3 : Hid (Sq1 w W3 pa A .new ∧ NewV w W3 (.slice vo us.length vcap) us) := ⟨a3, H2.out.on t3⟩
  clear a3 n3 t3 H2
  go_wp2_with fail
  refine (HN.out _ H3.out.2.touch).mono ?_
  rintro e W4 ⟨pb, B, rfl, b4, n4, t4⟩
  have H4 : Hid (Two w W4 pa pb .new .new (.slice vo us.length vcap) us) := ⟨A, B, H3.out.1.touch t4, b4, fun k hk hb => by
    have := H3.out.1.mem.lt hk
    have := n4 k hb
    omega, H3.out.2.on t4⟩
  clear b4 n4 t4 HN H3
  go_upto_block 0 with fail
  go_cut [8] (fun t wx => ∃ i, t = .int .i64 i ∧ Hid (Two w wx pa pb (seqOf us) .new (.slice vo us.length vcap) us))
  case first =>
    clear HZ1
    go_wp2_with fail
    go_loopw [8] (fun i wr => ∃ j : Nat, i = .int .i64 (j : Int) ∧ j ≤ us.length ∧ Hid (Two w wr pa pb (seqOf (us.take j)) .new (.slice vo us.length vcap) us)) (fun i _ => (us.length - intOf i).toNat)
    case atStart => exact ⟨0, rfl, Nat.zero_le _, H4.out⟩
    case round =>
      obtain ⟨j, rfl, hj, HJ⟩ := hrel
      by_cases hlt : j < us.length
      rotate_left
      · have hjl : j = us.length := by omega
        have HF : Hid (Two w wr pa pb (seqOf us) .new (.slice vo us.length vcap) us) := by
          have := HJ.out
          rw [hjl, List.take_length] at this
          exact this
        clear HJ HSI HSt HMa H4 HB
        generalize us.length = nu at *
        go_wp2_with fail
        go_meet
        case rel => exact ⟨_, rfl, HF.out⟩
      · obtain ⟨g, rfl⟩ := HVo.out (by omega)
        have hS := HSI.out j hj
        have hu := HB.out.ok us[j] (List.getElem_mem hlt)
        have HS1 := HSt.out j hlt
        have hmay := HMa.out j hlt
        have HA : Hid (Calls Try.prog 14 #[.pointer (some ⟨pa, 0, none⟩), .agg #[.int .u64 us[j].c, .int .u64 us[j].k, .int .u64 us[j].lc, .int .u64 us[j].lk, .int .u64 us[j].rc, .int .u64 us[j].rk]] wr fun e w' => e = .returned (.bool true) ∧ Two w w' pa pb (seqOf (us.take (j + 1))) .new (.slice (some ⟨g, 0, none⟩) us.length vcap) us) := by
          have := HJ.out.ins _ hu hS.2 (by omega)
          rw [hmay] at this
          rw [HS1]; exact this
        obtain ⟨k0, k1, k2, k3, k4, k5⟩ := HJ.out.cells j hlt
        clear hS hu HS1 HSI HSt HMa H4 hmay HB
        have l0 : (j : Int) < (us.length : Int) := by omega
        generalize us[j] = u at *
        obtain ⟨uc, uk, ulc, ulk, urc, urk⟩ := u
        simp only at HA k0 k1 k2 k3 k4 k5
        go_wp2_with fail
        refine HA.out.mono ?_
        rintro e W5 ⟨rfl, h5⟩
        have H5 : Hid (Two w W5 pa pb (seqOf (us.take (j + 1))) .new (.slice (some ⟨g, 0, none⟩) us.length vcap) us) := h5
        clear h5 HA k0 k1 k2 k3 k4 k5
        go_wp2_with fail
        exact ⟨⟨j + 1, by go_num, by omega, H5.out⟩, by simp [intOf]; omega⟩
  case rest =>
    obtain ⟨i8, rfl, H5⟩ := hcut
    obtain ⟨W5, hwf⟩ : ∃ we, we = wc := ⟨_, rfl⟩
    subst hwf
    clear H4 HSI HSt HMa HVo
    obtain ⟨S1, hS1⟩ : ∃ s, Hid (s = seqOf us) := ⟨_, Eq.refl _⟩
    rw [← hS1.out] at H5
    obtain ⟨lv, W6, hr6, n6, t6⟩ : ∃ v1 w1, (Builtin.append_ #[45, 45] 45 #[.slice none 0 0, .slice vo us.length vcap]).run Try.prog W5 = .ok v1 w1 ∧ NewV w w1 v1 us ∧ Touch (fun _ => False) W5 w1 := by
      obtain ⟨_, _, _, _, _, hn⟩ := H5.out
      exact list_copy hn (by omega)
    obtain ⟨lo0, lcap0, rfl, -, -⟩ := n6.shape
    have HR6 : Hid ((Builtin.append_ #[45, 45] 45 #[.slice none 0 0, .slice vo us.length vcap]).run Try.prog W5 = .ok (.slice lo0 us.length lcap0) W6) := hr6
    have H6 : Hid (Two w W6 pa pb S1 .new (.slice lo0 us.length lcap0) us) := H5.out.relist t6 n6
    clear hr6 n6 t6 H5
    obtain ⟨nu, hnu⟩ : ∃ n : Nat, Hid (n = us.length) := ⟨_, Eq.refl _⟩
    have hnub : nu ≤ 40 := by rw [hnu.out]; exact hul
    rw [← hnu.out] at HR6 ⊢
    clear hul
    go_wp2_with (first | (at_builtin; refine wpList_append_runV rfl _ _ rfl _ _ _ rfl rfl HR6.out ?_))
    clear HR6
    go_loopw [9, 10, 11, 12, 13, 14, 15] (fun s9 s10 s11 s12 s13 s14 s15 wr => ∃ (vs ls : List Un) (lo : Option Addr) (lcap i : Nat), s9 = .slice lo ls.length lcap ∧ s10 = .int .i64 (i : Int) ∧ i + ls.length = nu ∧ Hid (AoI us vs ls) ∧ Hid (Two w wr pa pb S1 (seqOf vs) (.slice lo ls.length lcap) ls)) (fun s9 _ _ _ _ _ _ _ => slLen s9)
    case atStart => exact ⟨[], us, lo0, lcap0, 0, by rw [hnu.out], rfl, by have := hnu.out; omega, AoI.start us, H6.out⟩
    case round =>
      obtain ⟨vs, ls, lo, lcap, i, rfl, rfl, hil, HAo, HJ⟩ := hrel
      clear H6
      by_cases hls : ls.length = 0
      · have hle : ls = [] := List.length_eq_zero_iff.1 hls
        obtain ⟨hdn, hdl⟩ : (seqOf vs).units = (seqOf us).units ∧ (seqOf us).units.length = us.length := by
          have := HAo.out
          rw [hle] at this
          exact this.done HB.out
        have hI1 : Inv S1 := by
          obtain ⟨_, _, a, _⟩ := HJ.out
          exact a.inv
        have hI2 : Inv (seqOf vs) := HAo.out.inv
        have HLa : Hid (∀ W, Touch (fun _ => False) wr W → Calls Try.prog 20 #[.pointer (some ⟨pa, 0, none⟩)] W fun e w' => e = .returned (.int .i64 (nu : Int)) ∧ Touch (fun _ => False) W w') := fun W t => by
          have := (HJ.out.touch t).lenA
          rw [hS1.out, hdl, ← hnu.out] at this
          exact this
        have HLb : Hid (∀ W, Touch (fun _ => False) wr W → Calls Try.prog 20 #[.pointer (some ⟨pb, 0, none⟩)] W fun e w' => e = .returned (.int .i64 (nu : Int)) ∧ Touch (fun _ => False) W w') := fun W t => by
          have := (HJ.out.touch t).swap.lenA
          rw [hdn, hdl, ← hnu.out] at this
          exact this
        have HX : Hid (∀ j, j < nu → ∃ v : Un, (∀ W, Touch (fun _ => False) wr W → Calls Try.prog 21 #[.pointer (some ⟨pa, 0, none⟩), .int .i64 (j : Int)] W fun e w' => e = .returned (.tuple #[.agg #[.int .u64 v.c, .int .u64 v.k, .int .u64 v.lc, .int .u64 v.lk, .int .u64 v.rc, .int .u64 v.rk], .bool true]) ∧ Touch (fun _ => False) W w') ∧ ∀ W, Touch (fun _ => False) wr W → Calls Try.prog 21 #[.pointer (some ⟨pb, 0, none⟩), .int .i64 (j : Int)] W fun e w' => e = .returned (.tuple #[.agg #[.int .u64 v.c, .int .u64 v.k, .int .u64 v.lc, .int .u64 v.lk, .int .u64 v.rc, .int .u64 v.rk], .bool true]) ∧ Touch (fun _ => False) W w') := fun j hj => by
          have h1 : j < S1.units.length := by rw [hS1.out, hdl, ← hnu.out]; exact hj
          have h2 : j < (seqOf vs).units.length := by rw [hdn, hdl, ← hnu.out]; exact hj
          have e1 := hI1.at_units j h1
          have e2 := hI2.at_units j h2
          have e3 : (seqOf vs).units[j] = S1.units[j] := by simp only [hdn, hS1.out]
          rw [e3] at e2
          refine ⟨S1.units[j], fun W t => ?_, fun W t => ?_⟩
          · have := (HJ.out.touch t).atA (j : Int) (by omega)
            rw [e1] at this
            exact this
          · have := (HJ.out.touch t).swap.atA (j : Int) (by omega)
            rw [e2] at this
            exact this
        have HTw : Hid (Touch (fun _ => False) w wr) := HJ.out.touch0
        obtain ⟨W7, hwf⟩ : ∃ we, we = wr := ⟨_, rfl⟩
        subst hwf
        have l0 : ¬ (0 : Int) < (ls.length : Int) := by omega
        clear hdn hdl hI1 hI2 HJ HAo HB HZ1 hnu hS1 hle
        go_wp2_with fail
        refine (HLa.out _ (Touch.refl _ _)).mono ?_
        rintro e Y1 ⟨rfl, t1⟩
        have HY1 : Hid (Touch (fun _ => False) W7 Y1) := t1
        clear t1
        go_wp2_with fail
        refine (HLb.out _ HY1.out).mono ?_
        rintro e Y2 ⟨rfl, t2⟩
        have HY2 : Hid (Touch (fun _ => False) W7 Y2) := HY1.out.trans t2
        clear t2 HY1
        go_wp2_with fail
        refine (HLa.out _ HY2.out).mono ?_
        rintro e Y4 ⟨rfl, t4⟩
        have HY4 : Hid (Touch (fun _ => False) W7 Y4) := HY2.out.trans t4
        clear t4 HY2 HLb
        go_wp2_with fail
        go_loopw [16, 17, 18, 19, 20] (fun s16 s17 s18 s19 s20 wq => ∃ j : Nat, s16 = .int .i64 (j : Int) ∧ j ≤ nu ∧ Hid (Touch (fun _ => False) W7 wq)) (fun s16 _ _ _ _ _ => (nu - intOf s16).toNat)
        case atStart => exact ⟨0, rfl, Nat.zero_le _, HY4.out⟩
        case round =>
          obtain ⟨j, rfl, hj, HJ⟩ := hrel
          clear HY4
          by_cases hlt : j < nu
          rotate_left
          · have hjl : nu = j := by omega
            subst hjl
            clear HX
            go_wp2_with fail
            refine (HLa.out _ HJ.out).mono ?_
            rintro e Z1 ⟨rfl, t1⟩
            have HZ1 : Hid (Touch (fun _ => False) W7 Z1) := HJ.out.trans t1
            clear t1
            go_wp2_with fail
            go_ret
            exact ⟨rfl, HTw.out.trans HZ1.out⟩
          · obtain ⟨v, ha, hb⟩ := HX.out j hlt
            have HA : Hid (∀ W, Touch (fun _ => False) W7 W → Calls Try.prog 21 #[.pointer (some ⟨pa, 0, none⟩), .int .i64 (j : Int)] W fun e w' => e = .returned (.tuple #[.agg #[.int .u64 v.c, .int .u64 v.k, .int .u64 v.lc, .int .u64 v.lk, .int .u64 v.rc, .int .u64 v.rk], .bool true]) ∧ Touch (fun _ => False) W w') := ha
            have HBb : Hid (∀ W, Touch (fun _ => False) W7 W → Calls Try.prog 21 #[.pointer (some ⟨pb, 0, none⟩), .int .i64 (j : Int)] W fun e w' => e = .returned (.tuple #[.agg #[.int .u64 v.c, .int .u64 v.k, .int .u64 v.lc, .int .u64 v.lk, .int .u64 v.rc, .int .u64 v.rk], .bool true]) ∧ Touch (fun _ => False) W w') := hb
            clear ha hb HX
            have l1 : (j : Int) < (nu : Int) := by omega
            go_wp2_with fail
            refine (HLa.out _ HJ.out).mono ?_
            rintro e Z1 ⟨rfl, t1⟩
            have HZ1 : Hid (Touch (fun _ => False) W7 Z1) := HJ.out.trans t1
            clear t1
            go_wp2_with fail
            refine (HA.out _ HZ1.out).mono ?_
            rintro e Z2 ⟨rfl, t2⟩
            have HZ2 : Hid (Touch (fun _ => False) W7 (Z2.alloc (unO v)) ∧ (Z2.alloc (unO v)).heap[Z2.heap.size]? = some (unO v)) := ⟨(HZ1.out.trans t2).alloc _, heap_alloc_new _ _⟩
            clear t2 HA HZ1
            go_upto_region 38 with fail
            obtain ⟨Z3, hZ3⟩ : ∃ X, Hid (X = Z2.alloc (unO v)) := ⟨_, Eq.refl _⟩
            rw [← hZ3.out] at HZ2 ⊢
            clear hZ3
            generalize Z2.heap.size = mx at *
            go_wp2_with fail
            refine (HBb.out _ HZ2.out.1).mono ?_
            rintro e Z4 ⟨rfl, t4⟩
            have HZ4 : Hid (Touch (fun _ => False) W7 (Z4.alloc (unO v)) ∧ (Z4.alloc (unO v)).heap[mx]? = some (unO v) ∧ (Z4.alloc (unO v)).heap[Z4.heap.size]? = some (unO v)) := ⟨(HZ2.out.1.trans t4).alloc _, heap_keep (t4.alloc _) HZ2.out.2, heap_alloc_new _ _⟩
            clear t4 HBb HZ2
            go_upto_region 39 with fail
            obtain ⟨Z5, hZ5⟩ : ∃ X, Hid (X = Z4.alloc (unO v)) := ⟨_, Eq.refl _⟩
            rw [← hZ5.out] at HZ4 ⊢
            clear hZ5
            generalize Z4.heap.size = my at *
            obtain ⟨q0, q1, q2, q3, q4, q5⟩ := unO_cells HZ4.out.2.1
            obtain ⟨r0, r1, r2, r3, r4, r5⟩ := unO_cells HZ4.out.2.2
            obtain ⟨vc, vk, vlc, vlk, vrc, vrk⟩ := v
            simp only at q0 q1 q2 q3 q4 q5 r0 r1 r2 r3 r4 r5
            have b0 : (vc == vc) = true := by simp
            have b1 : (vk == vk) = true := by simp
            have b2 : (vlc == vlc) = true := by simp
            have b3 : (vlk == vlk) = true := by simp
            have b4 : (vrc == vrc) = true := by simp
            have b5 : (vrk == vrk) = true := by simp
            go_wp2_with fail
            exact ⟨⟨j + 1, by go_num, by omega, HZ4.out.1⟩, by simp [intOf]; omega⟩
      · have l0 : (0 : Int) < (ls.length : Int) := by omega
        have HLo : Hid (∃ g, lo = some ⟨g, 0, none⟩) := by
          obtain ⟨_, _, _, _, _, hn⟩ := HJ.out
          obtain ⟨ao, cap, e, h1, _⟩ := OwnV.shape hn
          obtain ⟨rfl, -, -⟩ : lo = ao ∧ _ ∧ _ := by simpa only [Value.slice.injEq] using e
          exact h1 (by omega)
        obtain ⟨g, rfl⟩ := HLo.out
        clear HLo
        obtain ⟨L, hL⟩ : ∃ n : Nat, Hid (n = ls.length) := ⟨_, Eq.refl _⟩
        have hLb : 1 ≤ L ∧ L ≤ 40 := by have := hL.out; omega
        go_upto_if 58 with fail
        go_cut [11] (fun t wx => ∃ p : Nat, t = .int .i64 (p : Int) ∧ p < ls.length ∧ wx = wr)
        case first =>
          by_cases hi1 : i < n1
          · have l1 : (i : Int) < (n1 : Int) := by omega
            obtain ⟨g1', o1, x, rfl, hx1', hx2', hcell⟩ := HZ1.out i hi1
            have c0 := hcell wr HJ.out.touch0
            obtain ⟨p, hp⟩ : ∃ p : Nat, (p : Int) = x % (ls.length : Int) := ⟨(x % (ls.length : Int)).toNat, by rw [Int.toNat_of_nonneg (Int.emod_nonneg _ (by omega))]⟩
            have hpl : p < ls.length := by
              have := Int.emod_lt_of_pos x (b := (ls.length : Int)) (by omega)
              omega
            have e1 : x.tmod (ls.length : Int) = (p : Int) := by rw [Int.tmod_eq_emod_of_nonneg hx1', hp]
            have e2 : ((ls.length : Int) == 0) = false := by rw [beq_eq_false_iff_ne]; omega
            have e3 : ¬ ((ls.length : Int) = 0) := by omega
            have e4 : x % (ls.length : Int) = (p : Int) := hp.symm
            have e5 : ¬ ((ls.length : Int) = -1) := by omega
            clear hcell hp HZ1 HAo HJ HB hL
            go_wp2_with fail
            go_meet
            case rel => exact ⟨_, rfl, hpl, rfl⟩
          · have l1 : ¬ (i : Int) < (n1 : Int) := by omega
            clear HZ1 HAo HJ HB hL
            go_wp2_with fail
            go_meet
            case rel => exact ⟨0, rfl, by omega, rfl⟩
        case rest =>
          obtain ⟨p, rfl, hpl, rfl⟩ := hcut
          obtain ⟨W7, hwf⟩ : ∃ we, we = wc := ⟨_, rfl⟩
          subst hwf
          go_wp2_with fail
          go_loopw [9, 12, 13, 14, 15] (fun s9 s12 s13 s14 s15 wx => ∃ k : Nat, s13 = .int .i64 (k : Int) ∧ Hid (AoL w wx pa pb us vs ls S1 (some ⟨g, 0, none⟩) lcap p s9 s12 k)) (fun s9 s12 s13 _ _ _ => if blOf s12 then 0 else (ls.length + 1 - intOf s13).toNat)
          case atStart => exact ⟨0, rfl, .inl ⟨rfl, rfl, Nat.zero_le _, HJ.out, fun j hj => absurd hj (Nat.not_lt_zero _)⟩⟩
          case round =>
            obtain ⟨k, rfl, HL⟩ := hrel
            clear HJ
            rcases HL.out with ⟨rfl, rfl, hk, hT, hNo⟩ | ⟨rfl, hk, vs', ls', lo', lcap', rfl, hl', hA', hT'⟩
            · have HT : Hid (Two w wr pa pb S1 (seqOf vs) (.slice (some ⟨g, 0, none⟩) ls.length lcap) ls) := hT
              have HNo : Hid (∀ j, j < k → ∀ h : (p + j) % ls.length < ls.length, ¬ okAt (seqOf vs) ls[(p + j) % ls.length]) := hNo
              clear hT hNo HL
              have hkl : k < ls.length := by
                refine Decidable.byContradiction fun q => ?_
                obtain ⟨j, hj, hj2⟩ := mod_hits p ls.length (by omega)
                have h1 := HNo.out j (by omega) (by omega)
                have h2 := HAo.out.first HB.out (by omega)
                simp only [hj2] at h1
                exact h1 h2
              obtain ⟨n, hn⟩ : ∃ n : Nat, Hid (n = (p + k) % ls.length) := ⟨_, Eq.refl _⟩
              have hnl : n < ls.length := by rw [hn.out]; exact Nat.mod_lt _ (by omega)
              have en : ((p : Int) + (k : Int)) % (ls.length : Int) = (n : Int) := by rw [hn.out, Int.natCast_emod, Int.natCast_add]
              have en2 : ((p : Int) + (k : Int)).tmod (ls.length : Int) = (n : Int) := by rw [Int.tmod_eq_emod_of_nonneg (by omega)]; exact en
              have e2 : ((ls.length : Int) == 0) = false := by rw [beq_eq_false_iff_ne]; omega
              have e3 : ¬ ((ls.length : Int) = 0) := by omega
              have e5 : ¬ ((ls.length : Int) = -1) := by omega
              have ew1 : IntKind.i64.wrap ((p : Int) + (k : Int)) = (p : Int) + (k : Int) := by rw [IntKind.wrap_i64]; omega
              have l1 : (k : Int) < (ls.length : Int) := by omega
              have l2 : (n : Int) < (ls.length : Int) := by omega
              obtain ⟨k0, k1, k2, k3, k4, k5⟩ := HT.out.cells n hnl
              obtain ⟨u, hu⟩ : ∃ u : Un, Hid (u = ls[n]) := ⟨ls[n], Eq.refl ls[n]⟩
              rw [← hu.out] at k0 k1 k2 k3 k4 k5
              have huok : u.ok := HB.out.ok u (HAo.out.sub.mem (by rw [hu.out]; exact List.getElem_mem _))
              have HNn : Hid (¬ okAt (seqOf vs) u → ∀ j, j < k + 1 → ∀ h : (p + j) % ls.length < ls.length, ¬ okAt (seqOf vs) ls[(p + j) % ls.length]) := fun hno j hj h => by
                by_cases hjk : j < k
                · exact HNo.out j hjk h
                · have hjk : j = k := by omega
                  subst hjk
                  have e := hn.out
                  have : ls[(p + j) % ls.length] = u := by
                    rw [hu.out]
                    simp only [← e]
                  rw [this]; exact hno
              have HSt : Hid (okAt (seqOf vs) u → (seqOf vs).may u 1 = true ∧ AoI us (vs ++ [u]) (ls.take n ++ ls.drop (n + 1))) := fun hok => by
                rw [hu.out] at hok ⊢
                exact HAo.out.step HB.out hnl hok.1 hok.2
              have hsz := HAo.out.size
              have hvl : vs.length ≤ 40 := by have := HAo.out.len; have := hnu.out; omega
              obtain ⟨fL, hfL⟩ : ∃ f, Hid (f = (seqOf vs).find u.lc u.lk) := ⟨_, Eq.refl _⟩
              obtain ⟨fR, hfR⟩ : ∃ f, Hid (f = (seqOf vs).find u.rc u.rk) := ⟨_, Eq.refl _⟩
              have HFL : Hid (∀ W, Touch (fun _ => False) wr W → Calls Try.prog 19 #[.pointer (some ⟨pb, 0, none⟩), .agg #[.int .u64 u.lc, .int .u64 u.lk]] W fun e w' => e = .returned (.int .i64 fL) ∧ Touch (fun _ => False) W w') := fun W t => by
                rw [hfL.out]; exact (HT.out.touch t).findB _ _ huok.lc huok.lk.1 huok.lk.2
              have HFR : Hid (∀ W, Touch (fun _ => False) wr W → Calls Try.prog 19 #[.pointer (some ⟨pb, 0, none⟩), .agg #[.int .u64 u.rc, .int .u64 u.rk]] W fun e w' => e = .returned (.int .i64 fR) ∧ Touch (fun _ => False) W w') := fun W t => by
                rw [hfR.out]; exact (HT.out.touch t).findB _ _ huok.rc huok.rk.1 huok.rk.2
              have HIn : Hid ((seqOf vs).may u 1 = true → ∀ W, Touch (fun _ => False) wr W → Calls Try.prog 14 #[.pointer (some ⟨pb, 0, none⟩), .agg #[.int .u64 u.c, .int .u64 u.k, .int .u64 u.lc, .int .u64 u.lk, .int .u64 u.rc, .int .u64 u.rk]] W fun e w' => e = .returned (.bool true) ∧ Two w w' pa pb S1 (seqOf (vs ++ [u])) (.slice (some ⟨g, 0, none⟩) ls.length lcap) ls) := fun hm W t => by
                have := (HT.out.touch t).insB u huok hsz (by omega)
                rw [hm, ← seqOf_snoc] at this
                refine this.mono ?_
                rintro e w' ⟨rfl, q, _⟩
                exact ⟨rfl, q⟩
              have HTr : Hid (there (seqOf vs) u.lc u.lk ∨ fL < 0) := by
                by_cases q : fL < 0
                · exact .inr q
                · exact .inl (there_f (by rw [← hfL.out]; exact q))
              obtain ⟨uc, uk, ulc, ulk, urc, urk⟩ := u
              simp only at k0 k1 k2 k3 k4 k5 HFL HFR HIn hfL hfR
              clear HTr HNo hu huok hsz HAo
              go_upto_region 25 with fail
              have HX : Hid (Touch (fun _ => False) wr (wr.alloc (unO ⟨uc, uk, ulc, ulk, urc, urk⟩)) ∧ (wr.alloc (unO ⟨uc, uk, ulc, ulk, urc, urk⟩)).heap[wr.heap.size]? = some (unO ⟨uc, uk, ulc, ulk, urc, urk⟩)) := ⟨(Touch.refl _ _).alloc _, heap_alloc_new _ _⟩
              obtain ⟨X, hX⟩ : ∃ X, Hid (X = wr.alloc (unO ⟨uc, uk, ulc, ulk, urc, urk⟩)) := ⟨_, Eq.refl _⟩
              rw [← hX.out] at HX
              have eX : wr.alloc (unO ⟨uc, uk, ulc, ulk, urc, urk⟩) = X := hX.out.symm
              try rw [eX]
              clear hX eX
              obtain ⟨m, hm⟩ : ∃ m, Hid (m = wr.heap.size) := ⟨_, Eq.refl _⟩
              rw [← hm.out] at HX ⊢
              clear hm k0 k1 k2 k3 k4 k5 en en2 e2 e3 e5 ew1
              go_cut [110] (fun t wx => ∃ b : Bool, t = .bool b ∧ Hid ((b = true → ¬ okAt (seqOf vs) ⟨uc, uk, ulc, ulk, urc, urk⟩) ∧ (b = false → okAt (seqOf vs) ⟨uc, uk, ulc, ulk, urc, urk⟩)) ∧ Hid (Touch (fun _ => False) wr wx ∧ wx.heap[m]? = some (unO ⟨uc, uk, ulc, ulk, urc, urk⟩)))
              case first =>
                clear HIn HSt HNn HT HB
                obtain ⟨q0, q1, q2, q3, q4, q5⟩ := unO_cells HX.out.2
                simp only at q0 q1 q2 q3 q4 q5
                rcases cmp0 ulc ulk with ⟨a1, a2⟩ | ⟨a1, a2⟩ | a1
                · rcases cmp0 urc urk with ⟨r1, r2⟩ | ⟨r1, r2⟩ | r1
                  · go_wp2_with fail
                    go_meet
                    case rel => exact ⟨_, rfl, ⟨fun h => by first | (simp at h; done) | (simp at h; omega), fun _ => ⟨there_z a1 a2, there_z r1 r2⟩⟩, HX.out⟩
                  · by_cases f2 : fR < 0
                    · go_wp2_with fail
                      refine (HFR.out _ HX.out.1).mono ?_
                      rintro e x2 ⟨rfl, t⟩
                      have Hx2 : Hid (Touch (fun _ => False) wr x2 ∧ x2.heap[m]? = some (unO ⟨uc, uk, ulc, ulk, urc, urk⟩)) := ⟨HX.out.1.trans t, heap_keep t HX.out.2⟩
                      clear t q0 q1 q2 q3 q4 q5
                      obtain ⟨q0, q1, q2, q3, q4, q5⟩ := unO_cells Hx2.out.2
                      simp only at q0 q1 q2 q3 q4 q5
                      go_wp2_with fail
                      go_meet
                      case rel => exact ⟨_, rfl, ⟨fun _ q => there_n1 r1 r2 (by rw [← hfR.out]; omega) q.2, fun h => by first | (simp at h; done) | (simp at h; omega)⟩, Hx2.out⟩
                    · go_wp2_with fail
                      refine (HFR.out _ HX.out.1).mono ?_
                      rintro e x2 ⟨rfl, t⟩
                      have Hx2 : Hid (Touch (fun _ => False) wr x2 ∧ x2.heap[m]? = some (unO ⟨uc, uk, ulc, ulk, urc, urk⟩)) := ⟨HX.out.1.trans t, heap_keep t HX.out.2⟩
                      clear t q0 q1 q2 q3 q4 q5
                      obtain ⟨q0, q1, q2, q3, q4, q5⟩ := unO_cells Hx2.out.2
                      simp only at q0 q1 q2 q3 q4 q5
                      go_wp2_with fail
                      go_meet
                      case rel => exact ⟨_, rfl, ⟨fun h => by first | (simp at h; done) | (simp at h; omega), fun _ => ⟨there_z a1 a2, there_f (by rw [← hfR.out]; omega)⟩⟩, Hx2.out⟩
                  · by_cases f2 : fR < 0
                    · go_wp2_with fail
                      refine (HFR.out _ HX.out.1).mono ?_
                      rintro e x2 ⟨rfl, t⟩
                      have Hx2 : Hid (Touch (fun _ => False) wr x2 ∧ x2.heap[m]? = some (unO ⟨uc, uk, ulc, ulk, urc, urk⟩)) := ⟨HX.out.1.trans t, heap_keep t HX.out.2⟩
                      clear t q0 q1 q2 q3 q4 q5
                      obtain ⟨q0, q1, q2, q3, q4, q5⟩ := unO_cells Hx2.out.2
                      simp only at q0 q1 q2 q3 q4 q5
                      go_wp2_with fail
                      go_meet
                      case rel => exact ⟨_, rfl, ⟨fun _ q => there_n2 r1 (by rw [← hfR.out]; omega) q.2, fun h => by first | (simp at h; done) | (simp at h; omega)⟩, Hx2.out⟩
                    · go_wp2_with fail
                      refine (HFR.out _ HX.out.1).mono ?_
                      rintro e x2 ⟨rfl, t⟩
                      have Hx2 : Hid (Touch (fun _ => False) wr x2 ∧ x2.heap[m]? = some (unO ⟨uc, uk, ulc, ulk, urc, urk⟩)) := ⟨HX.out.1.trans t, heap_keep t HX.out.2⟩
                      clear t q0 q1 q2 q3 q4 q5
                      obtain ⟨q0, q1, q2, q3, q4, q5⟩ := unO_cells Hx2.out.2
                      simp only at q0 q1 q2 q3 q4 q5
                      go_wp2_with fail
                      go_meet
                      case rel => exact ⟨_, rfl, ⟨fun h => by first | (simp at h; done) | (simp at h; omega), fun _ => ⟨there_z a1 a2, there_f (by rw [← hfR.out]; omega)⟩⟩, Hx2.out⟩
                · by_cases f1 : fL < 0
                  · go_wp2_with fail
                    refine (HFL.out _ HX.out.1).mono ?_
                    rintro e x1 ⟨rfl, t⟩
                    have Hx1 : Hid (Touch (fun _ => False) wr x1 ∧ x1.heap[m]? = some (unO ⟨uc, uk, ulc, ulk, urc, urk⟩)) := ⟨HX.out.1.trans t, heap_keep t HX.out.2⟩
                    clear t q0 q1 q2 q3 q4 q5
                    obtain ⟨q0, q1, q2, q3, q4, q5⟩ := unO_cells Hx1.out.2
                    simp only at q0 q1 q2 q3 q4 q5
                    go_wp2_with fail
                    go_meet
                    case rel => exact ⟨_, rfl, ⟨fun _ q => there_n1 a1 a2 (by rw [← hfL.out]; omega) q.1, fun h => by first | (simp at h; done) | (simp at h; omega)⟩, Hx1.out⟩
                  · go_wp2_with fail
                    refine (HFL.out _ HX.out.1).mono ?_
                    rintro e x1 ⟨rfl, t⟩
                    have Hx1 : Hid (Touch (fun _ => False) wr x1 ∧ x1.heap[m]? = some (unO ⟨uc, uk, ulc, ulk, urc, urk⟩)) := ⟨HX.out.1.trans t, heap_keep t HX.out.2⟩
                    clear t q0 q1 q2 q3 q4 q5
                    obtain ⟨q0, q1, q2, q3, q4, q5⟩ := unO_cells Hx1.out.2
                    simp only at q0 q1 q2 q3 q4 q5
                    rcases cmp0 urc urk with ⟨r1, r2⟩ | ⟨r1, r2⟩ | r1
                    · go_wp2_with fail
                      go_meet
                      case rel => exact ⟨_, rfl, ⟨fun h => by first | (simp at h; done) | (simp at h; omega), fun _ => ⟨there_f (by rw [← hfL.out]; omega), there_z r1 r2⟩⟩, Hx1.out⟩
                    · by_cases f2 : fR < 0
                      · go_wp2_with fail
                        refine (HFR.out _ Hx1.out.1).mono ?_
                        rintro e x2 ⟨rfl, t⟩
                        have Hx2 : Hid (Touch (fun _ => False) wr x2 ∧ x2.heap[m]? = some (unO ⟨uc, uk, ulc, ulk, urc, urk⟩)) := ⟨Hx1.out.1.trans t, heap_keep t Hx1.out.2⟩
                        clear t q0 q1 q2 q3 q4 q5
                        obtain ⟨q0, q1, q2, q3, q4, q5⟩ := unO_cells Hx2.out.2
                        simp only at q0 q1 q2 q3 q4 q5
                        go_wp2_with fail
                        go_meet
                        case rel => exact ⟨_, rfl, ⟨fun _ q => there_n1 r1 r2 (by rw [← hfR.out]; omega) q.2, fun h => by first | (simp at h; done) | (simp at h; omega)⟩, Hx2.out⟩
                      · go_wp2_with fail
                        refine (HFR.out _ Hx1.out.1).mono ?_
                        rintro e x2 ⟨rfl, t⟩
                        have Hx2 : Hid (Touch (fun _ => False) wr x2 ∧ x2.heap[m]? = some (unO ⟨uc, uk, ulc, ulk, urc, urk⟩)) := ⟨Hx1.out.1.trans t, heap_keep t Hx1.out.2⟩
                        clear t q0 q1 q2 q3 q4 q5
                        obtain ⟨q0, q1, q2, q3, q4, q5⟩ := unO_cells Hx2.out.2
                        simp only at q0 q1 q2 q3 q4 q5
                        go_wp2_with fail
                        go_meet
                        case rel => exact ⟨_, rfl, ⟨fun h => by first | (simp at h; done) | (simp at h; omega), fun _ => ⟨there_f (by rw [← hfL.out]; omega), there_f (by rw [← hfR.out]; omega)⟩⟩, Hx2.out⟩
                    · by_cases f2 : fR < 0
                      · go_wp2_with fail
                        refine (HFR.out _ Hx1.out.1).mono ?_
                        rintro e x2 ⟨rfl, t⟩
                        have Hx2 : Hid (Touch (fun _ => False) wr x2 ∧ x2.heap[m]? = some (unO ⟨uc, uk, ulc, ulk, urc, urk⟩)) := ⟨Hx1.out.1.trans t, heap_keep t Hx1.out.2⟩
                        clear t q0 q1 q2 q3 q4 q5
                        obtain ⟨q0, q1, q2, q3, q4, q5⟩ := unO_cells Hx2.out.2
                        simp only at q0 q1 q2 q3 q4 q5
                        go_wp2_with fail
                        go_meet
                        case rel => exact ⟨_, rfl, ⟨fun _ q => there_n2 r1 (by rw [← hfR.out]; omega) q.2, fun h => by first | (simp at h; done) | (simp at h; omega)⟩, Hx2.out⟩
                      · go_wp2_with fail
                        refine (HFR.out _ Hx1.out.1).mono ?_
                        rintro e x2 ⟨rfl, t⟩
                        have Hx2 : Hid (Touch (fun _ => False) wr x2 ∧ x2.heap[m]? = some (unO ⟨uc, uk, ulc, ulk, urc, urk⟩)) := ⟨Hx1.out.1.trans t, heap_keep t Hx1.out.2⟩
                        clear t q0 q1 q2 q3 q4 q5
                        obtain ⟨q0, q1, q2, q3, q4, q5⟩ := unO_cells Hx2.out.2
                        simp only at q0 q1 q2 q3 q4 q5
                        go_wp2_with fail
                        go_meet
                        case rel => exact ⟨_, rfl, ⟨fun h => by first | (simp at h; done) | (simp at h; omega), fun _ => ⟨there_f (by rw [← hfL.out]; omega), there_f (by rw [← hfR.out]; omega)⟩⟩, Hx2.out⟩
                · by_cases f1 : fL < 0
                  · go_wp2_with fail
                    refine (HFL.out _ HX.out.1).mono ?_
                    rintro e x1 ⟨rfl, t⟩
                    have Hx1 : Hid (Touch (fun _ => False) wr x1 ∧ x1.heap[m]? = some (unO ⟨uc, uk, ulc, ulk, urc, urk⟩)) := ⟨HX.out.1.trans t, heap_keep t HX.out.2⟩
                    clear t q0 q1 q2 q3 q4 q5
                    obtain ⟨q0, q1, q2, q3, q4, q5⟩ := unO_cells Hx1.out.2
                    simp only at q0 q1 q2 q3 q4 q5
                    go_wp2_with fail
                    go_meet
                    case rel => exact ⟨_, rfl, ⟨fun _ q => there_n2 a1 (by rw [← hfL.out]; omega) q.1, fun h => by first | (simp at h; done) | (simp at h; omega)⟩, Hx1.out⟩
                  · go_wp2_with fail
                    refine (HFL.out _ HX.out.1).mono ?_
                    rintro e x1 ⟨rfl, t⟩
                    have Hx1 : Hid (Touch (fun _ => False) wr x1 ∧ x1.heap[m]? = some (unO ⟨uc, uk, ulc, ulk, urc, urk⟩)) := ⟨HX.out.1.trans t, heap_keep t HX.out.2⟩
                    clear t q0 q1 q2 q3 q4 q5
                    obtain ⟨q0, q1, q2, q3, q4, q5⟩ := unO_cells Hx1.out.2
                    simp only at q0 q1 q2 q3 q4 q5
                    rcases cmp0 urc urk with ⟨r1, r2⟩ | ⟨r1, r2⟩ | r1
                    · go_wp2_with fail
                      go_meet
                      case rel => exact ⟨_, rfl, ⟨fun h => by first | (simp at h; done) | (simp at h; omega), fun _ => ⟨there_f (by rw [← hfL.out]; omega), there_z r1 r2⟩⟩, Hx1.out⟩
                    · by_cases f2 : fR < 0
                      · go_wp2_with fail
                        refine (HFR.out _ Hx1.out.1).mono ?_
                        rintro e x2 ⟨rfl, t⟩
                        have Hx2 : Hid (Touch (fun _ => False) wr x2 ∧ x2.heap[m]? = some (unO ⟨uc, uk, ulc, ulk, urc, urk⟩)) := ⟨Hx1.out.1.trans t, heap_keep t Hx1.out.2⟩
                        clear t q0 q1 q2 q3 q4 q5
                        obtain ⟨q0, q1, q2, q3, q4, q5⟩ := unO_cells Hx2.out.2
                        simp only at q0 q1 q2 q3 q4 q5
                        go_wp2_with fail
                        go_meet
                        case rel => exact ⟨_, rfl, ⟨fun _ q => there_n1 r1 r2 (by rw [← hfR.out]; omega) q.2, fun h => by first | (simp at h; done) | (simp at h; omega)⟩, Hx2.out⟩
                      · go_wp2_with fail
                        refine (HFR.out _ Hx1.out.1).mono ?_
                        rintro e x2 ⟨rfl, t⟩
                        have Hx2 : Hid (Touch (fun _ => False) wr x2 ∧ x2.heap[m]? = some (unO ⟨uc, uk, ulc, ulk, urc, urk⟩)) := ⟨Hx1.out.1.trans t, heap_keep t Hx1.out.2⟩
                        clear t q0 q1 q2 q3 q4 q5
                        obtain ⟨q0, q1, q2, q3, q4, q5⟩ := unO_cells Hx2.out.2
                        simp only at q0 q1 q2 q3 q4 q5
                        go_wp2_with fail
                        go_meet
                        case rel => exact ⟨_, rfl, ⟨fun h => by first | (simp at h; done) | (simp at h; omega), fun _ => ⟨there_f (by rw [← hfL.out]; omega), there_f (by rw [← hfR.out]; omega)⟩⟩, Hx2.out⟩
                    · by_cases f2 : fR < 0
                      · go_wp2_with fail
                        refine (HFR.out _ Hx1.out.1).mono ?_
                        rintro e x2 ⟨rfl, t⟩
                        have Hx2 : Hid (Touch (fun _ => False) wr x2 ∧ x2.heap[m]? = some (unO ⟨uc, uk, ulc, ulk, urc, urk⟩)) := ⟨Hx1.out.1.trans t, heap_keep t Hx1.out.2⟩
                        clear t q0 q1 q2 q3 q4 q5
                        obtain ⟨q0, q1, q2, q3, q4, q5⟩ := unO_cells Hx2.out.2
                        simp only at q0 q1 q2 q3 q4 q5
                        go_wp2_with fail
                        go_meet
                        case rel => exact ⟨_, rfl, ⟨fun _ q => there_n2 r1 (by rw [← hfR.out]; omega) q.2, fun h => by first | (simp at h; done) | (simp at h; omega)⟩, Hx2.out⟩
                      · go_wp2_with fail
                        refine (HFR.out _ Hx1.out.1).mono ?_
                        rintro e x2 ⟨rfl, t⟩
                        have Hx2 : Hid (Touch (fun _ => False) wr x2 ∧ x2.heap[m]? = some (unO ⟨uc, uk, ulc, ulk, urc, urk⟩)) := ⟨Hx1.out.1.trans t, heap_keep t Hx1.out.2⟩
                        clear t q0 q1 q2 q3 q4 q5
                        obtain ⟨q0, q1, q2, q3, q4, q5⟩ := unO_cells Hx2.out.2
                        simp only at q0 q1 q2 q3 q4 q5
                        go_wp2_with fail
                        go_meet
                        case rel => exact ⟨_, rfl, ⟨fun h => by first | (simp at h; done) | (simp at h; omega), fun _ => ⟨there_f (by rw [← hfL.out]; omega), there_f (by rw [← hfR.out]; omega)⟩⟩, Hx2.out⟩
              case rest =>
                obtain ⟨b, rfl, HOk, HY⟩ := hcut
                obtain ⟨W8, hwf⟩ : ∃ we, we = wc := ⟨_, rfl⟩
                subst hwf
                clear HFL HFR hfL hfR HX
                have ewk : IntKind.i64.wrap ((k : Int) + 1) = (k : Int) + 1 := by rw [IntKind.wrap_i64]; omega
                cases b with
                | true =>
                  have HN2 : Hid (∀ j, j < k + 1 → ∀ h : (p + j) % ls.length < ls.length, ¬ okAt (seqOf vs) ls[(p + j) % ls.length]) := HNn.out (HOk.out.1 rfl)
                  have HT2 : Hid (Two w W8 pa pb S1 (seqOf vs) (.slice (some ⟨g, 0, none⟩) ls.length lcap) ls) := HT.out.touch HY.out.1
                  clear HNn HOk HSt HIn HT HY HB
                  go_wp2_with fail
                  exact ⟨⟨k + 1, by go_num, .inl ⟨rfl, rfl, by omega, HT2.out, HN2.out⟩⟩, by simp [blOf, intOf]; omega⟩
                | false =>
                  have hok := HOk.out.2 rfl
                  obtain ⟨hmay, hA2⟩ := HSt.out hok
                  have HI2 : Hid (∀ W, Touch (fun _ => False) wr W → Calls Try.prog 14 #[.pointer (some ⟨pb, 0, none⟩), .agg #[.int .u64 uc, .int .u64 uk, .int .u64 ulc, .int .u64 ulk, .int .u64 urc, .int .u64 urk]] W fun e w' => e = .returned (.bool true) ∧ Two w w' pa pb S1 (seqOf (vs ++ [⟨uc, uk, ulc, ulk, urc, urk⟩])) (.slice (some ⟨g, 0, none⟩) ls.length lcap) ls) := HIn.out hmay
                  have HA2 : Hid (AoI us (vs ++ [⟨uc, uk, ulc, ulk, urc, urk⟩]) (ls.take n ++ ls.drop (n + 1))) := hA2
                  obtain ⟨q0, q1, q2, q3, q4, q5⟩ := unO_cells HY.out.2
                  simp only at q0 q1 q2 q3 q4 q5
                  clear hok hmay hA2 HNn HOk HSt HIn HB
                  go_wp2_with fail
                  refine (HI2.out _ HY.out.1).mono ?_
                  rintro e Y ⟨rfl, hY⟩
                  have HY2 : Hid (Two w Y pa pb S1 (seqOf (vs ++ [⟨uc, uk, ulc, ulk, urc, urk⟩])) (.slice (some ⟨g, 0, none⟩) ls.length lcap) ls) := hY
                  clear hY HI2 HT HY q0 q1 q2 q3 q4 q5
                  obtain ⟨v1, w1, bo, cap2, v2, w2, s1, s2, hr1, hr2, n2, t2⟩ := left_cut (by obtain ⟨_, _, _, _, _, hn⟩ := HY2.out; exact hn) n hnl (by omega)
                  have HF2 : Hid (Two w w2 pa pb S1 (seqOf (vs ++ [⟨uc, uk, ulc, ulk, urc, urk⟩])) v2 (ls.take n ++ ls.drop (n + 1))) := HY2.out.relist t2 n2
                  have hnlen : (ls.take n ++ ls.drop (n + 1)).length + 1 = ls.length := by rw [List.length_append, List.length_take, List.length_drop]; omega
                  obtain ⟨nl, hnl2⟩ : ∃ l, Hid (l = ls.take n ++ ls.drop (n + 1)) := ⟨_, Eq.refl _⟩
                  rw [← hnl2.out] at HF2 HA2 hnlen n2
                  obtain ⟨lo2, lcap2, rfl, -, -⟩ := n2.shape
                  have HR1 : Hid ((Builtin.append_ #[45, 45] 45 #[.slice none 0 0, .slice (some ⟨g, 0, none⟩) n lcap]).run Try.prog Y.drew = .ok v1 w1) := hr1
                  have HR2 : Hid ((Builtin.append_ #[45, 45] 45 #[v1, .slice bo (ls.length - (n + 1)) cap2]).run Try.prog w1 = .ok (.slice lo2 nl.length lcap2) w2) := hr2
                  have ewn : IntKind.i64.wrap ((n : Int) + 1) = (n : Int) + 1 := by rw [IntKind.wrap_i64]; omega
                  clear hr1 hr2 n2 t2 HY2
                  go_upto_region 28 with fail
                  refine wp_region_held_drew (S := fun _ : World => True) (by kernel_rfl) trivial (fun hHeld => ?_)
                  refine wpAnyH_take (i := 0) (oi := { dst := some 115, op := Go.Op.move (Go.Operand.tmp 9), type := 45, pos := "law.go:142", after := #[], guard := none }) (v := .slice (some ⟨g, 0, none⟩) ls.length lcap) rfl (by kernel_rfl) (by kernel_rfl) (by kernel_rfl) (fun _ _ _ h => h) (Or.inl ⟨by rfl, ?_⟩) hHeld ?_
                  · intro w hSw; clear hSw; go_simp
                  simp only [Act.put, List.setIfInBounds_toArray, List.set_cons_succ, List.set_cons_zero]
                  refine wpAnyH_take (i := 1) (oi := { dst := some 116, op := Go.Op.move (Go.Operand.tmp 14), type := 3, pos := "law.go:142", after := #[], guard := none }) (v := .int .i64 (n : Int)) rfl (by kernel_rfl) (by kernel_rfl) (by kernel_rfl) (fun _ _ _ h => h) (Or.inl ⟨by rfl, ?_⟩) hHeld ?_
                  · intro w hSw; clear hSw; go_simp
                  simp only [Act.put, List.setIfInBounds_toArray, List.set_cons_succ, List.set_cons_zero]
                  refine wpAnyH_take (i := 2) (oi := { dst := some 117, op := Go.Op.slice 45 (Go.Operand.tmp 115) none (some (Go.Operand.tmp 116)) none, type := 45, pos := "law.go:142", after := #[{ on := 0, ground := Go.Ground.data }, { on := 1, ground := Go.Ground.data }], guard := none }) (v := .slice (some ⟨g, 0, none⟩) n lcap) rfl (by kernel_rfl) (by kernel_rfl) (by kernel_rfl) (fun _ _ _ h => h) (Or.inl ⟨by rfl, ?_⟩) hHeld ?_
                  · intro w hSw; clear hSw; go_simp
                  simp only [Act.put, List.setIfInBounds_toArray, List.set_cons_succ, List.set_cons_zero]
                  refine wpAnyH_take (i := 4) (oi := { dst := some 119, op := Go.Op.move (Go.Operand.tmp 9), type := 45, pos := "law.go:142", after := #[], guard := none }) (v := .slice (some ⟨g, 0, none⟩) ls.length lcap) rfl (by kernel_rfl) (by kernel_rfl) (by kernel_rfl) (fun _ _ _ h => h) (Or.inl ⟨by rfl, ?_⟩) hHeld ?_
                  · intro w hSw; clear hSw; go_simp
                  simp only [Act.put, List.setIfInBounds_toArray, List.set_cons_succ, List.set_cons_zero]
                  refine wpAnyH_take (i := 5) (oi := { dst := some 120, op := Go.Op.move (Go.Operand.tmp 14), type := 3, pos := "law.go:142", after := #[], guard := none }) (v := .int .i64 (n : Int)) rfl (by kernel_rfl) (by kernel_rfl) (by kernel_rfl) (fun _ _ _ h => h) (Or.inl ⟨by rfl, ?_⟩) hHeld ?_
                  · intro w hSw; clear hSw; go_simp
                  simp only [Act.put, List.setIfInBounds_toArray, List.set_cons_succ, List.set_cons_zero]
                  refine wpAnyH_take (i := 6) (oi := { dst := some 121, op := Go.Op.binOp Go.BinOp.add 3 (Go.Operand.tmp 120) (Go.Operand.const (Go.Value.int Go.IntKind.i64 1)) 3, type := 3, pos := "law.go:142", after := #[{ on := 5, ground := Go.Ground.data }], guard := none }) (v := .int .i64 ((n : Int) + 1)) rfl (by kernel_rfl) (by kernel_rfl) (by kernel_rfl) (fun _ _ _ h => h) (Or.inl ⟨by rfl, ?_⟩) hHeld ?_
                  · intro w hSw; clear hSw; go_simp
                  simp only [Act.put, List.setIfInBounds_toArray, List.set_cons_succ, List.set_cons_zero]
                  refine wpAnyH_take (i := 7) (oi := { dst := some 122, op := Go.Op.slice 45 (Go.Operand.tmp 119) (some (Go.Operand.tmp 121)) none none, type := 45, pos := "law.go:142", after := #[{ on := 4, ground := Go.Ground.data }, { on := 6, ground := Go.Ground.data }], guard := none }) (v := .slice bo (ls.length - (n + 1)) cap2) rfl (by kernel_rfl) (by kernel_rfl) (by kernel_rfl) (fun _ _ _ h => h) (Or.inl ⟨by rfl, ?_⟩) hHeld ?_
                  · intro w hSw; clear hSw; go_simp
                  simp only [Act.put, List.setIfInBounds_toArray, List.set_cons_succ, List.set_cons_zero]
                  refine wpAnyH_ready (rs := [3]) (by kernel_rfl) (by simp) ?_
                  refine (AllReadyH.cons (o := { dst := some 118, op := Go.Op.call { callee := Go.Callee.builtin Go.Builtin.append, args := #[Go.Operand.const (Go.Value.slice none 0 0), Go.Operand.tmp 117], argTypes := #[45, 45] }, type := 45, pos := "law.go:142", after := #[{ on := 2, ground := Go.Ground.data }], guard := none }) rfl (fun K hK => ?_) AllReadyH.nil)
                  refine step_append 45 (by rfl) _ _ rfl _ _ _ rfl rfl HR1.out ?_
                  refine hK.out _ _ trivial (fun hHeld => ?_)
                  clear hK K
                  try simp only [Act.put, List.setIfInBounds_toArray, List.set_cons_succ, List.set_cons_zero]
                  refine wpAnyH_ready (rs := [8]) (by kernel_rfl) (by simp) ?_
                  refine (AllReadyH.cons (o := { dst := some 123, op := Go.Op.call { callee := Go.Callee.builtin Go.Builtin.append, args := #[Go.Operand.tmp 118, Go.Operand.tmp 122], argTypes := #[45, 45] }, type := 45, pos := "law.go:142", after := #[{ on := 3, ground := Go.Ground.data }, { on := 7, ground := Go.Ground.data }, { on := 3, ground := Go.Ground.chain }], guard := none }) rfl (fun K hK => ?_) AllReadyH.nil)
                  refine step_append 45 (by rfl) _ _ rfl _ _ _ rfl rfl HR2.out ?_
                  refine hK.out _ _ trivial (fun hHeld => ?_)
                  clear hK K
                  try simp only [Act.put, List.setIfInBounds_toArray, List.set_cons_succ, List.set_cons_zero]
                  refine wpAnyH_take (i := 9) (oi := { dst := some 9, op := Go.Op.assign (Go.Operand.tmp 123), type := 45, pos := "law.go:142", after := #[{ on := 8, ground := Go.Ground.data }, { on := 8, ground := Go.Ground.chain }, { on := 0, ground := Go.Ground.phase }, { on := 1, ground := Go.Ground.phase }, { on := 2, ground := Go.Ground.phase }, { on := 3, ground := Go.Ground.phase }, { on := 4, ground := Go.Ground.phase }, { on := 5, ground := Go.Ground.phase }, { on := 6, ground := Go.Ground.phase }, { on := 7, ground := Go.Ground.phase }, { on := 8, ground := Go.Ground.phase }], guard := none }) (v := .slice lo2 nl.length lcap2) rfl (by kernel_rfl) (by kernel_rfl) (by kernel_rfl) (fun _ _ _ h => h) (Or.inl ⟨by rfl, ?_⟩) hHeld ?_
                  · intro w hSw; clear hSw; go_simp
                  simp only [Act.put, List.setIfInBounds_toArray, List.set_cons_succ, List.set_cons_zero]
                  refine wpAnyH_done (by kernel_rfl) ?_ _
                  try simp only [List.getElem_toArray, List.getElem_cons_succ, List.getElem_cons_zero, List.setIfInBounds_toArray, List.set_cons_succ, List.set_cons_zero]
                  try go_wp2_with fail
                  exact ⟨⟨k + 1, by go_num, .inr ⟨rfl, by omega, _, nl, lo2, lcap2, rfl, hnlen, HA2.out, HF2.out⟩⟩, by simp [blOf, intOf]; omega⟩
            · have HA' : Hid (AoI us vs' ls') := hA'
              have HT' : Hid (Two w wr pa pb S1 (seqOf vs') (.slice lo' ls'.length lcap') ls') := hT'
              clear hA' hT' HL
              by_cases hkl' : k < ls'.length
              · have l1 : (k : Int) < (ls'.length : Int) := by omega
                have ew : IntKind.i64.wrap ((i : Int) + 1) = (i : Int) + 1 := by rw [IntKind.wrap_i64]; omega
                clear HB HAo HZ1
                go_wp2_with fail
                exact ⟨⟨vs', ls', lo', lcap', i + 1, rfl, by go_num, by omega, HA', HT'⟩, by simp [slLen]; omega⟩
              · have l1 : ¬ (k : Int) < (ls'.length : Int) := by omega
                have ew : IntKind.i64.wrap ((i : Int) + 1) = (i : Int) + 1 := by rw [IntKind.wrap_i64]; omega
                clear HB HAo HZ1
                go_wp2_with fail
                exact ⟨⟨vs', ls', lo', lcap', i + 1, rfl, by go_num, by omega, HA', HT'⟩, by simp [slLen]; omega⟩
end Go.Proofs.Ytnbphdmpbjahhaa
