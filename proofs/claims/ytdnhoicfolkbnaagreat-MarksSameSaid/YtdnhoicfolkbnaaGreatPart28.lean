/- The contracts of quireref2: order, ints, Cmp. -/
import Derived.Test.YtdnhoicfolkbnaaGreatPart20
import Derived.Test.YtdnhoicfolkbnaaGreatPart23
import Derived.Test.YtdnhoicfolkbnaaGreatPart17
import Derived.Test.YtdnhoicfolkbnaaGreatPart27
import Derived.Deep.RegionHeld3
import Derived.BigQuiet
namespace Go.Proofs.YtdnhoicfolkbnaaGreat
open Go.RowKit
set_option linter.unusedVariables false

theorem i64_low63 (f : Nat) (h0 : ¬ f < 9223372036854775808) (h1 : f < 18446744073709551616) : wrap64 (-1 - bits .and .i64 (wrap64 (f : Int)) 9223372036854775807) = 9223372036854775807 - (f : Int) := by
  have e : wrap64 (f : Int) = (f : Int) - 18446744073709551616 := by rw [wrap64]; omega
  have e2 : bits .and .i64 ((f : Int) - 18446744073709551616) 9223372036854775807 = (f : Int) - 9223372036854775808 := by
    show IntKind.i64.wrap ((BitVec.ofInt 64 ((f : Int) - 18446744073709551616) &&& BitVec.ofInt 64 9223372036854775807).toNat : Int) = _
    have h2 : (BitVec.ofInt 64 ((f : Int) - 18446744073709551616)).toNat = f := by
      rw [BitVec.toNat_ofInt]; omega
    have h3 : (BitVec.ofInt 64 9223372036854775807).toNat = 9223372036854775807 := by decide
    rw [BitVec.toNat_and, h2, h3, show (9223372036854775807 : Nat) = 2 ^ 63 - 1 from by decide, Nat.and_two_pow_sub_one_eq_mod, IntKind.wrap_i64]
    omega
  rw [e, e2, wrap64]; omega

set_option maxHeartbeats 400000 in
theorem ref_order (f : Nat) (hf : f < 18446744073709551616) (w : World) : Calls Tryz.prog 90 #[.float .f64 f] w fun e w' => e = .returned (.int .i64 (refOrder f)) ∧ w' = w := by
  have h1 := f64bits_run
  have h2 := self_neq f
  cases h : isNaN f
  · rw [h] at h2
    by_cases hs : f < 9223372036854775808
    · have HE : Hid (refOrder f = f) := by simp [Hid, refOrder, h, hs]
      have h3 : wrap64 (f : Int) = f := by rw [wrap64]; omega
      go_enter Tryz.func90, Tryz.ntmps90
      go_wp2
      go_ret
      exact ⟨congrArg (fun x : Int => Ending.returned (.int .i64 x)) HE.out.symm, rfl⟩
    · have HE : Hid (refOrder f = wrap64 (-1 - bits .and .i64 (wrap64 (f : Int)) 9223372036854775807)) := by
        rw [Hid, i64_low63 f hs hf]; simp [refOrder, h, hs]
      have h3 : wrap64 (f : Int) < 0 := by rw [wrap64]; omega
      go_enter Tryz.func90, Tryz.ntmps90
      go_wp2
      go_ret
      exact ⟨congrArg (fun x : Int => Ending.returned (.int .i64 x)) HE.out.symm, rfl⟩
  · rw [h] at h2
    have HE : Hid (refOrder f = 9223372036854775807) := by simp [Hid, refOrder, h]
    go_enter Tryz.func90, Tryz.ntmps90
    go_wp2
    go_ret
    exact ⟨congrArg (fun x : Int => Ending.returned (.int .i64 x)) HE.out.symm, rfl⟩

set_option maxHeartbeats 400000 in
theorem ref_ints (a b : Int) (w : World) : Calls Tryz.prog 89 #[.int .i64 a, .int .i64 b] w fun e w' => e = .returned (.int .i64 (refInts a b)) ∧ w' = w := by
  by_cases h1 : a < b
  · have HE : Hid (refInts a b = -1) := by simp [Hid, refInts, h1]
    go_enter Tryz.func89, Tryz.ntmps89
    go_wp2
    go_ret
    exact ⟨congrArg (fun x : Int => Ending.returned (.int .i64 x)) HE.out.symm, rfl⟩
  · by_cases h2 : b < a
    · have HE : Hid (refInts a b = 1) := by simp [Hid, refInts, h1, h2]
      go_enter Tryz.func89, Tryz.ntmps89
      go_wp2
      go_ret
      exact ⟨congrArg (fun x : Int => Ending.returned (.int .i64 x)) HE.out.symm, rfl⟩
    · have HE : Hid (refInts a b = 0) := by simp [Hid, refInts, h1, h2]
      go_enter Tryz.func89, Tryz.ntmps89
      go_wp2
      go_ret
      exact ⟨congrArg (fun x : Int => Ending.returned (.int .i64 x)) HE.out.symm, rfl⟩

set_option maxRecDepth 100000 in
set_option maxHeartbeats 1000000 in
theorem ref_cmp (a b : V) (hfa : a.f < 18446744073709551616) (hfb : b.f < 18446744073709551616) (w : World) : Calls Tryz.prog 45 #[a.val, b.val] w fun e w' => e = .returned (.int .i64 (refCmp a b)) ∧ Touch (fun _ => False) w w' := by
  obtain ⟨k, n, f, s⟩ := a
  obtain ⟨k2, n2, f2, s2⟩ := b
  simp only [V.val] at *
  have HC : Hid (refCmp ⟨k, n, f, s⟩ ⟨k2, n2, f2, s2⟩ = if refInts k k2 ≠ 0 then refInts k k2 else if refInts n n2 ≠ 0 then refInts n n2 else if refInts (refOrder f) (refOrder f2) ≠ 0 then refInts (refOrder f) (refOrder f2) else refText s s2) := rfl
  generalize refCmp ⟨k, n, f, s⟩ ⟨k2, n2, f2, s2⟩ = C at *
  have HT : Hid (Touch (fun _ => False) w ((w.alloc (.cells #[.int .i64 k, .int .i64 n, .float .f64 f, .string s] 29)).alloc (.cells #[.int .i64 k2, .int .i64 n2, .float .f64 f2, .string s2] 29))) := ((Touch.refl _ _).alloc _).alloc _
  go_enter Tryz.func45, Tryz.ntmps45
  go_wp2_with fail
  refine (ref_ints k k2 _).mono ?_
  rintro e w1 ⟨rfl, rfl⟩
  generalize refInts k k2 = c1 at *
  by_cases h1 : c1 = 0
  · have t1 : (c1 == 0) = true := by rw [h1]; rfl
    have H1 : Hid (c1 = 0) := h1
    clear h1
    go_wp2_with fail
    refine (ref_ints n n2 _).mono ?_
    rintro e w2 ⟨rfl, rfl⟩
    generalize refInts n n2 = c2 at *
    by_cases h2 : c2 = 0
    · have t2 : (c2 == 0) = true := by rw [h2]; rfl
      have H2 : Hid (c2 = 0) := h2
      clear h2
      have HO : Hid (∀ w, Calls Tryz.prog 90 #[.float .f64 f] w fun e w' => e = .returned (.int .i64 (refOrder f)) ∧ w' = w) := ref_order f hfa
      have HO2 : Hid (∀ w, Calls Tryz.prog 90 #[.float .f64 f2] w fun e w' => e = .returned (.int .i64 (refOrder f2)) ∧ w' = w) := ref_order f2 hfb
      go_wp2_with fail
      go_quiet (first | (go_at_call_of 90 (Value.float FloatKind.f64 f); exact Calls.quiet_of_same (HO.out _)) | (go_at_call_of 90 (Value.float FloatKind.f64 f2); exact Calls.quiet_of_same (HO2.out _)) | (go_at_call 89; exact Calls.quiet_of_same (ref_ints _ _ _)))
      have HT3 : Hid (Touch (fun _ => False) w ((((w.alloc (.cells #[.int .i64 k, .int .i64 n, .float .f64 f, .string s] 29)).alloc (.cells #[.int .i64 k2, .int .i64 n2, .float .f64 f2, .string s2] 29))).drewN nq)) := HT.out.drewN _
      generalize refInts (refOrder f) (refOrder f2) = c3 at *
      by_cases h3 : c3 = 0
      · have t3 : (c3 != 0) = false := by rw [h3]; rfl
        have HE : Hid (C = refText s s2) := by rw [Hid, HC.out, if_neg (by simpa using H1.out), if_neg (by simpa using H2.out), if_neg (by simpa using h3)]
        clear h3 HO HO2
        cases h4 : Op.bytesLess s.toList s2.toList
        · cases h5 : (s.toList == s2.toList)
          · have HF : Hid (C = 1) := by rw [Hid, HE.out, refText, h4, h5]; rfl
            go_wp2_with fail
            go_ret
            exact ⟨congrArg (fun x : Int => Ending.returned (.int .i64 x)) HF.out.symm, HT3.out⟩
          · have HF : Hid (C = 0) := by rw [Hid, HE.out, refText, h4, h5]; rfl
            go_wp2_with fail
            go_ret
            exact ⟨congrArg (fun x : Int => Ending.returned (.int .i64 x)) HF.out.symm, HT3.out⟩
        · have HF : Hid (C = -1) := by rw [Hid, HE.out, refText, h4]; rfl
          go_wp2_with fail
          go_ret
          exact ⟨congrArg (fun x : Int => Ending.returned (.int .i64 x)) HF.out.symm, HT3.out⟩
      · have t3 : (c3 != 0) = true := by rw [bne_iff_ne]; exact h3
        have HE : Hid (C = c3) := by rw [Hid, HC.out, if_neg (by simpa using H1.out), if_neg (by simpa using H2.out), if_pos h3]
        go_wp2_with fail
        go_ret
        exact ⟨congrArg (fun x : Int => Ending.returned (.int .i64 x)) HE.out.symm, HT3.out⟩
    · have t2 : (c2 == 0) = false := by rw [beq_eq_false_iff_ne]; exact h2
      have t3 : (c2 != 0) = true := by rw [bne_iff_ne]; exact h2
      have HE : Hid (C = c2) := by rw [Hid, HC.out, if_neg (by simpa using H1.out), if_pos h2]
      go_wp2_with fail
      go_ret
      exact ⟨congrArg (fun x : Int => Ending.returned (.int .i64 x)) HE.out.symm, HT.out⟩
  · have t1 : (c1 == 0) = false := by rw [beq_eq_false_iff_ne]; exact h1
    have t2 : (c1 != 0) = true := by rw [bne_iff_ne]; exact h1
    have HE : Hid (C = c1) := by rw [Hid, HC.out, if_pos h1]
    go_wp2_with fail
    go_ret
    exact ⟨congrArg (fun x : Int => Ending.returned (.int .i64 x)) HE.out.symm, HT.out⟩
end Go.Proofs.YtdnhoicfolkbnaaGreat

/- The document's marks: Less, Same. -/
namespace Go.Proofs.YtdnhoicfolkbnaaGreat
open Go.RowKit
set_option linter.unusedVariables false
set_option linter.unusedSimpArgs false
set_option maxRecDepth 100000

set_option maxHeartbeats 8000000 in
theorem qmless_any (x y : O) (w : World) :
    Calls Tryz.prog 28 #[x.val, y.val] w fun e w' => e = .returned (.bool (lessM x y)) ∧ Touch (fun _ => False) w w' := by
  obtain ⟨E, hE⟩ : ∃ E, Hid (E = (w.alloc (opO x)).alloc (opO y)) := ⟨_, Eq.refl _⟩
  have HTE : Hid (Touch (fun _ => False) w E) := by rw [hE.out]; exact ((Touch.refl _ _).alloc _).alloc _
  have HB : Hid (E.heap[w.heap.size]? = some (opO x) ∧ E.heap[w.heap.size + 1]? = some (opO y)) := by
    rw [hE.out]
    refine ⟨(Below.heap_alloc _ _ _ (by simp)).trans (heap_alloc_new _ _), ?_⟩
    have := heap_alloc_new (w.alloc (opO x)) (opO y)
    simpa using this
  obtain ⟨x0, x1, -, x3, -, -⟩ := opO_head HB.out.1
  obtain ⟨y0, y1, -, y3, -, -⟩ := opO_head HB.out.2
  have HL : Hid (∀ W, Calls Tryz.prog 51 #[.agg #[.int .u64 x.c, .int .u64 x.k], .agg #[.int .u64 y.c, .int .u64 y.k]] W fun e w' => e = .returned (.bool (lessI x.c x.k y.c y.k)) ∧ Touch (fun _ => False) W w') := fun W => (rless_any x.c x.k y.c y.k W).mono fun e w' q => ⟨q.1, by rw [q.2]; exact ((Touch.refl _ _).alloc _).alloc _⟩
  obtain ⟨mb, hmb⟩ : ∃ mb, Hid (mb = lessM x y) := ⟨_, Eq.refl _⟩
  rw [← hmb.out]
  unfold lessM at hmb
  obtain ⟨xc, xk, xkind, xst, xlc, xlk, xrc, xrk, xtx, xvk, xvn, xvf, xvs, xky, xpc, xpk, xfc, xfk, xfa, xtc, xtk, xta⟩ := x
  obtain ⟨yc, yk, ykind, yst, ylc, ylk, yrc, yrk, ytx, yvk, yvn, yvf, yvs, yky, ypc, ypk, yfc, yfk, yfa, ytc, ytk, yta⟩ := y
  simp only at x0 x1 x3 y0 y1 y3 HL hmb ⊢
  clear HB
  go_enter Tryz.func28, Tryz.ntmps28
  go_upto_region 1 with fail
  rw [← hE.out]
  clear hE
  by_cases hst : xst = yst
  · subst hst
    have HM : Hid (mb = lessI xc xk yc yk) := by have := hmb.out; rw [if_pos rfl] at this; exact this
    have b0 : (xst == xst) = true := by simp
    have b1 : decide (xst < xst) = false := by simp
    go_wp2_with fail
    refine (HL.out _).mono ?_
    rintro e W1 ⟨rfl, t1⟩
    have HT : Hid (Touch (fun _ => False) w W1) := HTE.out.trans t1
    clear t1 HL x0 x1 x3 y0 y1 y3
    go_wp2_with fail
    go_ret
    exact ⟨by rw [HM.out]; rfl, HT.out⟩
  · have HM : Hid (mb = decide (xst < yst)) := by have := hmb.out; rw [if_neg hst] at this; exact this
    have b0 : (xst == yst) = false := by simpa using hst
    cases hb : decide (xst < yst) with
    | true =>
      have HM2 : Hid (mb = true) := HM.out.trans hb
      go_wp2_with fail
      go_ret
      exact ⟨by rw [HM2.out]; rfl, HTE.out⟩
    | false =>
      have HM2 : Hid (mb = false) := HM.out.trans hb
      go_wp2_with fail
      go_ret
      exact ⟨by rw [HM2.out]; rfl, HTE.out⟩

set_option maxHeartbeats 8000000 in
theorem qsame_any {w : World} {va vb : Value} {a b : List Mk} (hA : SlY w va a) (hB : SlY w vb b) (fa : ∀ m ∈ a, m.vf < 18446744073709551616) (fb : ∀ m ∈ b, m.vf < 18446744073709551616) :
    Calls Tryz.prog 20 #[va, vb] w fun e w' => e = .returned (.bool (sameL a b)) ∧ Touch (fun _ => False) w w' := by
  obtain ⟨ao, ac, rfl, a1, a2, a3⟩ := hA.shape
  obtain ⟨bo, bc, rfl, b1, b2, b3⟩ := hB.shape
  have HA : Hid (a ≠ [] → _) := hA.at
  have HB : Hid (b ≠ [] → _) := hB.at
  have HF : Hid (∀ j (h1 : j < a.length) (h2 : j < b.length) W, Calls Tryz.prog 45 #[.agg #[.int .i64 a[j].vk, .int .i64 a[j].vn, .float .f64 a[j].vf, .string a[j].vs], .agg #[.int .i64 b[j].vk, .int .i64 b[j].vn, .float .f64 b[j].vf, .string b[j].vs]] W fun e w' => e = .returned (.int .i64 (refCmp a[j].v b[j].v)) ∧ Touch (fun _ => False) W w') := fun j h1 h2 W => ref_cmp a[j].v b[j].v (fa _ (List.getElem_mem h1)) (fb _ (List.getElem_mem h2)) W
  clear hA hB fa fb
  by_cases hn : a.length = b.length
  · have HN : Hid (a.length = b.length) := hn
    have HNo : Hid (∀ j (h1 : j < a.length) (h2 : j < b.length), sameK a[j] b[j] = false → sameL a b = false) := fun j h1 h2 => sameL_no hn h1 h2
    have HAll : Hid ((∀ j (ha : j < a.length) (hb : j < b.length), sameK a[j] b[j] = true) → sameL a b = true) := sameL_all hn
    have hnb : ((a.length : Int) != (b.length : Int)) = false := by simp [hn]
    clear hn
    generalize sameL a b = R at *
    go_enter Tryz.func20, Tryz.ntmps20
    go_wp2_with fail
    clear hnb
    go_loopw [5] (fun i wr => ∃ j : Nat, i = .int .i64 (j : Int) ∧ j ≤ a.length ∧ Touch (fun _ => False) w wr ∧ ∀ k (h1 : k < a.length) (h2 : k < b.length), k < j → sameK a[k] b[k] = true) (fun i _ => a.length - (intOf i).toNat)
    case atStart => exact ⟨0, rfl, Nat.zero_le _, Touch.refl _ _, fun k _ _ h => absurd h (Nat.not_lt_zero _)⟩
    case round =>
      obtain ⟨j, rfl, hj, hT, hk⟩ := hrel
      by_cases hlt : j < a.length
      · have hltb : j < b.length := by rw [← HN.out]; exact hlt
        obtain ⟨ab, ax, rfl, hca⟩ := HA.out (by intro e; subst e; simp at hlt)
        obtain ⟨bb, bx, rfl, hcb⟩ := HB.out (by intro e; subst e; simp at hltb)
        have HCA : Hid (∀ W, Touch (fun _ => False) w W → _) := fun W t => hca W t j hlt
        have HCB : Hid (∀ W, Touch (fun _ => False) w W → _) := fun W t => hcb W t j hltb
        have HC := HF.out j hlt hltb
        have HNj : Hid (sameK a[j] b[j] = false → R = false) := HNo.out j hlt hltb
        have hi1 : (0 : Int) ≤ (j : Int) := by omega
        have hi2 : (j : Int) < (a.length : Int) := by omega
        have hi3 : (j : Int) < (b.length : Int) := by omega
        have hjm : (j : Int) + 1 < 9223372036854775808 := by omega
        have HU : Hid (∀ W, Touch (fun _ => False) w W → sameK a[j] b[j] = true → ∃ j' : Nat, (.int .i64 ((j : Int) + 1) : Value) = .int .i64 (j' : Int) ∧ j' ≤ a.length ∧ Touch (fun _ => False) w W ∧ ∀ k (h1 : k < a.length) (h2 : k < b.length), k < j' → sameK a[k] b[k] = true) := fun W t e => ⟨j + 1, by go_num, by omega, t, fun k h1 h2 h3 => by
          rcases Nat.lt_or_eq_of_le (Nat.le_of_lt_succ h3) with h | h
          · exact hk k h1 h2 h
          · subst h; exact e⟩
        have HT : Hid (Touch (fun _ => False) w wr) := hT
        have hm0 : Hid (a.length - (j + 1) < a.length - j) := by rw [Hid]; omega
        have HK0 : Hid (sameK a[j] b[j] = ((a[j].ky.toList == b[j].ky.toList) && (refCmp a[j].v b[j].v == 0))) := Eq.refl _
        clear hk hT hca hcb HA HB HF HN HNo HAll a1 b1 hj
        generalize a[j] = x at *
        generalize b[j] = y at *
        clear hlt hltb
        have HC' : Hid (∀ W, Calls Tryz.prog 45 #[.agg #[.int .i64 x.vk, .int .i64 x.vn, .float .f64 x.vf, .string x.vs], .agg #[.int .i64 y.vk, .int .i64 y.vn, .float .f64 y.vf, .string y.vs]] W fun e w' => e = .returned (.int .i64 (refCmp x.v y.v)) ∧ Touch (fun _ => False) W w') := HC
        clear HC
        generalize sameK x y = sk at *
        generalize refCmp x.v y.v = rc at *
        obtain ⟨xk, xvk, xvn, xvf, xvs⟩ := x
        obtain ⟨yk, yvk, yvn, yvf, yvs⟩ := y
        simp only at HCA HCB HC' HK0
        cases hkk : (xk.toList == yk.toList) with
        | false =>
          have hkn : (xk.toList != yk.toList) = true := by rw [bne, hkk]; rfl
          have HS : Hid (R = false) := HNj.out (by rw [HK0.out, hkk]; rfl)
          obtain ⟨x0, x1, x2, x3, x4⟩ := HCA.out wr HT.out
          obtain ⟨y0, y1, y2, y3, y4⟩ := HCB.out wr HT.out
          clear HNj HU HCA HCB HC' HK0
          go_wp2_with fail
          go_quiet (fail)
          go_wp2_with fail
          go_ret
          exact ⟨by rw [HS.out]; rfl, HT.out.drewN _⟩
        | true =>
          have hkn : (xk.toList != yk.toList) = false := by rw [bne, hkk]; rfl
          have HK1 : Hid (sk = (rc == 0)) := by rw [Hid, HK0.out, hkk]; rfl
          clear HK0
          obtain ⟨x0, x1, x2, x3, x4⟩ := HCA.out wr.drew HT.out.drew
          obtain ⟨y0, y1, y2, y3, y4⟩ := HCB.out wr.drew HT.out.drew
          go_wp2_with fail
          go_region_held3 (fun W => (W.cell? ⟨ab, ax + j * 5, none⟩ = some (.string xk) ∧ W.cell? ⟨ab, ax + j * 5 + 1, none⟩ = some (.int .i64 xvk) ∧ W.cell? ⟨ab, ax + j * 5 + 2, none⟩ = some (.int .i64 xvn) ∧ W.cell? ⟨ab, ax + j * 5 + 3, none⟩ = some (.float .f64 xvf) ∧ W.cell? ⟨ab, ax + j * 5 + 4, none⟩ = some (.string xvs)) ∧ (W.cell? ⟨bb, bx + j * 5, none⟩ = some (.string yk) ∧ W.cell? ⟨bb, bx + j * 5 + 1, none⟩ = some (.int .i64 yvk) ∧ W.cell? ⟨bb, bx + j * 5 + 2, none⟩ = some (.int .i64 yvn) ∧ W.cell? ⟨bb, bx + j * 5 + 3, none⟩ = some (.float .f64 yvf) ∧ W.cell? ⟨bb, bx + j * 5 + 4, none⟩ = some (.string yvs)) ∧ Hid (Touch (fun _ => False) w W)) (first | assumption | exact ⟨⟨x0, x1, x2, x3, x4⟩, ⟨y0, y1, y2, y3, y4⟩, HT.out.drew⟩)
            (first
              | (go_at_call 45; (with_reducible refine (HC'.out _).mono ?_); rintro e w2 ⟨rfl, t2⟩; have hS2 : (w2.cell? ⟨ab, ax + j * 5, none⟩ = some (.string xk) ∧ w2.cell? ⟨ab, ax + j * 5 + 1, none⟩ = some (.int .i64 xvk) ∧ w2.cell? ⟨ab, ax + j * 5 + 2, none⟩ = some (.int .i64 xvn) ∧ w2.cell? ⟨ab, ax + j * 5 + 3, none⟩ = some (.float .f64 xvf) ∧ w2.cell? ⟨ab, ax + j * 5 + 4, none⟩ = some (.string xvs)) ∧ (w2.cell? ⟨bb, bx + j * 5, none⟩ = some (.string yk) ∧ w2.cell? ⟨bb, bx + j * 5 + 1, none⟩ = some (.int .i64 yvk) ∧ w2.cell? ⟨bb, bx + j * 5 + 2, none⟩ = some (.int .i64 yvn) ∧ w2.cell? ⟨bb, bx + j * 5 + 3, none⟩ = some (.float .f64 yvf) ∧ w2.cell? ⟨bb, bx + j * 5 + 4, none⟩ = some (.string yvs)) ∧ Hid (Touch (fun _ => False) w w2) := ⟨HCA.out _ ((HT.out.drew).trans t2), HCB.out _ ((HT.out.drew).trans t2), (HT.out.drew).trans t2⟩; clear t2))
          rename_i hHeld
          have HT2 : Hid (Touch (fun _ => False) w w2) := hS2.2.2.out
          clear hHeld hS2 x0 x1 x2 x3 x4 y0 y1 y2 y3 y4 HCA HCB HC' HT hkk hkn
          obtain ⟨z, hz⟩ : ∃ z, z = (rc != 0) := ⟨_, rfl⟩
          rw [← hz]
          have HK2 : Hid (sk = !z) := by rw [Hid, HK1.out, hz, bne, Bool.not_not]
          clear hz HK1
          cases z with
          | true =>
            have HS : Hid (R = false) := HNj.out HK2.out
            clear HNj HU HK2
            go_wp2_with fail
            go_ret
            exact ⟨by rw [HS.out]; rfl, HT2.out⟩
          | false =>
            have HU3 : Hid _ := HU.out w2 HT2.out HK2.out
            clear HNj HU HK2
            go_wp2_with fail
            go_roundw
            case rel => exact HU3.out
            case measure => simp only [intOf]; have := hm0.out; omega
      · have hR : Hid (R = true) := HAll.out fun k h1 h2 => hk k h1 h2 (by omega)
        have hi2 : ¬ (j : Int) < (a.length : Int) := by omega
        have HT : Hid (Touch (fun _ => False) w wr) := hT
        clear hk hT hlt HA HB HF HN HNo HAll a1 b1 hj
        go_wp2_with fail
        go_ret
        exact ⟨by rw [hR.out]; rfl, HT.out⟩
  · have hnb : ((a.length : Int) != (b.length : Int)) = true := by simp; omega
    have HR : Hid (sameL a b = false) := by unfold sameL; rw [Hid, decide_eq_false hn]; rfl
    rw [HR.out]
    clear HR HA HB HF hn
    go_enter Tryz.func20, Tryz.ntmps20
    go_wp2_with fail
    go_ret
    exact ⟨rfl, Touch.refl _ _⟩
end Go.Proofs.YtdnhoicfolkbnaaGreat

/- The order of values is an order. It speaks of no program. -/
namespace Go.Proofs.YtdnhoicfolkbnaaGreat
open Go.RowKit
set_option linter.unusedVariables false

/-- Bytes as one of three: -1, 0, 1. -/
def lexI : List UInt8 → List UInt8 → Int
  | [], [] => 0
  | [], _ :: _ => -1
  | _ :: _, [] => 1
  | a :: x, b :: y => if a.toNat < b.toNat then -1 else if b.toNat < a.toNat then 1 else lexI x y
theorem lexI_spec (a b : List UInt8) : Op.bytesLess a b = decide (lexI a b = -1) ∧ (a == b) = decide (lexI a b = 0) ∧ (lexI a b = -1 ∨ lexI a b = 0 ∨ lexI a b = 1) := by
  induction a generalizing b with
  | nil => cases b <;> simp [Op.bytesLess, lexI]
  | cons x r ih =>
    cases b with
    | nil => simp [Op.bytesLess, lexI]
    | cons y s =>
      obtain ⟨h1, h2, h3⟩ := ih s
      simp only [Op.bytesLess]
      have hlt : (x < y) ↔ x.toNat < y.toNat := UInt8.lt_iff_toNat_lt
      have heq : (x = y) ↔ x.toNat = y.toNat := UInt8.toNat_inj.symm
      by_cases c1 : x.toNat < y.toNat
      · have e : lexI (x :: r) (y :: s) = -1 := by simp only [lexI]; rw [if_pos c1]
        have e1 : (decide (x < y)) = true := decide_eq_true (hlt.2 c1)
        have e2 : (x :: r == y :: s) = false := by
          rw [beq_eq_false_iff_ne]; intro e; cases e; omega
        rw [e, e1, e2]; simp
      · have e1 : (decide (x < y)) = false := decide_eq_false (fun h => c1 (hlt.1 h))
        by_cases c2 : y.toNat < x.toNat
        · have e : lexI (x :: r) (y :: s) = 1 := by simp only [lexI]; rw [if_neg c1, if_pos c2]
          have e2 : (x == y) = false := by rw [beq_eq_false_iff_ne]; intro e; rw [heq] at e; omega
          have e3 : (x :: r == y :: s) = false := by rw [beq_eq_false_iff_ne]; intro e; cases e; omega
          rw [e, e1, e2, e3]; simp
        · have e : lexI (x :: r) (y :: s) = lexI r s := by simp only [lexI]; rw [if_neg c1, if_neg c2]
          have e2 : x = y := heq.2 (by omega)
          subst e2
          have e3 : (x :: r == x :: s) = (r == s) := by simp
          rw [e, e1, e3, h1, h2]; simp [h3]
theorem refText_lex (a b : ByteArray) : refText a b = lexI a.toList b.toList := by
  obtain ⟨h1, h2, h3⟩ := lexI_spec a.toList b.toList
  unfold refText
  rw [h1, h2]
  rcases h3 with h | h | h <;> rw [h] <;> decide
theorem lexI_anti (a b : List UInt8) : lexI a b = -lexI b a := by
  induction a generalizing b with
  | nil => cases b <;> simp [lexI]
  | cons x r ih =>
    cases b with
    | nil => simp [lexI]
    | cons y s =>
      simp only [lexI]
      by_cases c1 : x.toNat < y.toNat
      · rw [if_pos c1, if_neg (by omega), if_pos c1]
      · rw [if_neg c1]
        by_cases c2 : y.toNat < x.toNat
        · rw [if_pos c2, if_pos c2]; rfl
        · rw [if_neg c2, if_neg c2, if_neg c1, ih]
theorem lexI_range (a b : List UInt8) : lexI a b = -1 ∨ lexI a b = 0 ∨ lexI a b = 1 := (lexI_spec a b).2.2
theorem lexI_trans (a b c : List UInt8) (h1 : lexI a b ≤ 0) (h2 : lexI b c ≤ 0) : lexI a c ≤ 0 ∧ (lexI a b = -1 ∨ lexI b c = -1 → lexI a c = -1) := by
  induction a generalizing b c with
  | nil =>
    cases c with
    | nil =>
      cases b with
      | nil => simp [lexI]
      | cons y s => simp [lexI] at h2
    | cons z t => simp [lexI]
  | cons x r ih =>
    cases b with
    | nil => simp [lexI] at h1
    | cons y s =>
      cases c with
      | nil => simp [lexI] at h2
      | cons z t =>
        simp only [lexI] at *
        by_cases c1 : x.toNat < y.toNat
        · by_cases c3 : y.toNat < z.toNat
          · rw [if_pos (show x.toNat < z.toNat by omega)]; simp
          · rw [if_neg c3] at h2
            by_cases c4 : z.toNat < y.toNat
            · rw [if_pos c4] at h2; omega
            · rw [if_pos (show x.toNat < z.toNat by omega)]; simp
        · rw [if_neg c1] at h1
          by_cases c2 : y.toNat < x.toNat
          · rw [if_pos c2] at h1; omega
          · rw [if_neg c2] at h1
            by_cases c3 : y.toNat < z.toNat
            · rw [if_pos (show x.toNat < z.toNat by omega)]; simp
            · rw [if_neg c3] at h2
              by_cases c4 : z.toNat < y.toNat
              · rw [if_pos c4] at h2; omega
              · rw [if_neg c4] at h2
                rw [if_neg c1, if_neg c2, if_neg c3, if_neg c4, if_neg (show ¬ x.toNat < z.toNat by omega), if_neg (show ¬ z.toNat < x.toNat by omega)]
                exact ih s t h1 h2

/-- Four questions, the first that parts. -/
theorem refCmp_cases (a b : V) : refCmp a b = if a.k < b.k then -1 else if b.k < a.k then 1 else if a.n < b.n then -1 else if b.n < a.n then 1 else if refOrder a.f < refOrder b.f then -1 else if refOrder b.f < refOrder a.f then 1 else lexI a.s.toList b.s.toList := by
  unfold refCmp refInts
  rw [refText_lex]
  by_cases c1 : a.k < b.k
  · simp [c1]
  by_cases c2 : b.k < a.k
  · simp [c1, c2]
  by_cases c3 : a.n < b.n
  · simp [c1, c2, c3]
  by_cases c4 : b.n < a.n
  · simp [c1, c2, c3, c4]
  by_cases c5 : refOrder a.f < refOrder b.f
  · simp [c1, c2, c3, c4, c5]
  by_cases c6 : refOrder b.f < refOrder a.f
  · simp [c1, c2, c3, c4, c5, c6]
  simp [c1, c2, c3, c4, c5, c6]
theorem refCmp_range (a b : V) : refCmp a b = -1 ∨ refCmp a b = 0 ∨ refCmp a b = 1 := by
  rw [refCmp_cases]
  have := lexI_range a.s.toList b.s.toList
  generalize lexI a.s.toList b.s.toList = l at *
  repeat' split
  all_goals omega
theorem refCmp_anti (a b : V) : refCmp a b = -refCmp b a := by
  rw [refCmp_cases, refCmp_cases b a, lexI_anti]
  generalize lexI b.s.toList a.s.toList = l
  repeat' split
  all_goals omega
theorem refCmp_self (a : V) : refCmp a a = 0 := by
  have := refCmp_anti a a; omega
theorem refCmp_trans (a b c : V) (h1 : refCmp a b ≤ 0) (h2 : refCmp b c ≤ 0) : refCmp a c ≤ 0 := by
  rw [refCmp_cases] at *
  have ht := lexI_trans a.s.toList b.s.toList c.s.toList
  generalize lexI a.s.toList b.s.toList = l1 at *
  generalize lexI b.s.toList c.s.toList = l2 at *
  generalize lexI a.s.toList c.s.toList = l3 at *
  generalize refOrder a.f = fa at *
  generalize refOrder b.f = fb at *
  generalize refOrder c.f = fc at *
  generalize a.k = ka at *
  generalize b.k = kb at *
  generalize c.k = kc at *
  generalize a.n = na at *
  generalize b.n = nb at *
  generalize c.n = nc at *
  by_cases x1 : ka < kc
  · rw [if_pos x1]; omega
  rw [if_neg x1]
  by_cases p1 : ka < kb
  · by_cases q1 : kb < kc
    · omega
    · rw [if_neg q1] at h2
      rw [if_pos (by omega)] at h2; omega
  rw [if_neg p1] at h1
  by_cases p2 : kb < ka
  · rw [if_pos p2] at h1; omega
  rw [if_neg p2] at h1
  obtain rfl : ka = kb := by omega
  rw [if_neg x1] at h2
  by_cases q2 : kc < ka
  · rw [if_pos q2] at h2; omega
  rw [if_neg q2] at h2 ⊢
  by_cases x3 : na < nc
  · rw [if_pos x3]; omega
  rw [if_neg x3]
  by_cases p3 : na < nb
  · by_cases q3 : nb < nc
    · omega
    · rw [if_neg q3] at h2
      rw [if_pos (by omega)] at h2; omega
  rw [if_neg p3] at h1
  by_cases p4 : nb < na
  · rw [if_pos p4] at h1; omega
  rw [if_neg p4] at h1
  obtain rfl : na = nb := by omega
  rw [if_neg x3] at h2
  by_cases q4 : nc < na
  · rw [if_pos q4] at h2; omega
  rw [if_neg q4] at h2 ⊢
  by_cases x5 : fa < fc
  · rw [if_pos x5]; omega
  rw [if_neg x5]
  by_cases p5 : fa < fb
  · by_cases q5 : fb < fc
    · omega
    · rw [if_neg q5] at h2
      rw [if_pos (by omega)] at h2; omega
  rw [if_neg p5] at h1
  by_cases p6 : fb < fa
  · rw [if_pos p6] at h1; omega
  rw [if_neg p6] at h1
  obtain rfl : fa = fb := by omega
  rw [if_neg x5] at h2
  by_cases q6 : fc < fa
  · rw [if_pos q6] at h2; omega
  rw [if_neg q6] at h2 ⊢
  exact (ht h1 h2).1
end Go.Proofs.YtdnhoicfolkbnaaGreat
