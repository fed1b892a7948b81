/- The contracts of quireref2: order, ints, Cmp. -/
import Derived.Test.YtnilikomoapcaaaGreatPart18
import Derived.Test.YtnilikomoapcaaaGreatPart31
import Derived.Test.YtnilikomoapcaaaGreatPart20
import Derived.Deep.RegionHeld3
import Derived.BigQuiet
import Derived.Test.YtnilikomoapcaaaGreatPart1
import Derived.Test.YtnilikomoapcaaaGreatProg
import Derived.ProofKit
import Derived.OpenShut
import Derived.SizedLaws
import Derived.Test.YtnilikomoapcaaaGreatPart32
namespace Go.Proofs.YtnilikomoapcaaaGreat
open Go.RowKit
set_option linter.unusedVariables false

theorem i64_low63 (f : Nat) (h0 : ¬ f < 9223372036854775808) (h1 : f < 18446744073709551616) : wrap64 (-1 - bits .and .i64 (wrap64 (f : Int)) 9223372036854775807) = 9223372036854775807 - (f : Int) := by
  have e : wrap64 (f : Int) = (f : Int) - 18446744073709551616 := by rw [wrap64]; omega
  have e2 : bits .and .i64 ((f : Int) - 18446744073709551616) 9223372036854775807 = (f : Int) - 9223372036854775808 := by
    show IntKind.i64.wrap ((BitVec.ofInt 64 ((f : Int) - 18446744073709551616) &&& BitVec.ofInt 64 9223372036854775807).toNat : Int) = _
    have h2 : (BitVec.ofInt 64 ((f : Int) - 18446744073709551616)).toNat = f := by
      rw [BitVec.toNat_ofInt]; omega
    have h3 : (BitVec.ofInt 64 9223372036854775807).toNat = 9223372036854775807 := by decide
    rw [BitVec.toNat_and, h2, h3, show (9223372036854775807 : Nat) = 2 ^ 63 - 1 from by decide, Nat.and_two_pow_sub_one_eq_mod, IntKind.wrap_i64]
    omega
  rw [e, e2, wrap64]; omega

set_option maxHeartbeats 400000 in
theorem ref_order (f : Nat) (hf : f < 18446744073709551616) (w : World) : Calls Tryz.prog 75 #[.float .f64 f] w fun e w' => e = .returned (.int .i64 (refOrder f)) ∧ w' = w := by
  have h1 := f64bits_run
  have h2 := self_neq f
  cases h : isNaN f
  · rw [h] at h2
    by_cases hs : f < 9223372036854775808
    · have HE : Hid (refOrder f = f) := by simp [Hid, refOrder, h, hs]
      have h3 : wrap64 (f : Int) = f := by rw [wrap64]; omega
      go_enter Tryz.func75, Tryz.ntmps75
      go_wp2
      go_ret
      exact ⟨congrArg (fun x : Int => Ending.returned (.int .i64 x)) HE.out.symm, rfl⟩
    · have HE : Hid (refOrder f = wrap64 (-1 - bits .and .i64 (wrap64 (f : Int)) 9223372036854775807)) := by
        rw [Hid, i64_low63 f hs hf]; simp [refOrder, h, hs]
      have h3 : wrap64 (f : Int) < 0 := by rw [wrap64]; omega
      go_enter Tryz.func75, Tryz.ntmps75
      go_wp2
      go_ret
      exact ⟨congrArg (fun x : Int => Ending.returned (.int .i64 x)) HE.out.symm, rfl⟩
  · rw [h] at h2
    have HE : Hid (refOrder f = 9223372036854775807) := by simp [Hid, refOrder, h]
    go_enter Tryz.func75, Tryz.ntmps75
    go_wp2
    go_ret
    exact ⟨congrArg (fun x : Int => Ending.returned (.int .i64 x)) HE.out.symm, rfl⟩

set_option maxHeartbeats 400000 in
theorem ref_ints (a b : Int) (w : World) : Calls Tryz.prog 74 #[.int .i64 a, .int .i64 b] w fun e w' => e = .returned (.int .i64 (refInts a b)) ∧ w' = w := by
  by_cases h1 : a < b
  · have HE : Hid (refInts a b = -1) := by simp [Hid, refInts, h1]
    go_enter Tryz.func74, Tryz.ntmps74
    go_wp2
    go_ret
    exact ⟨congrArg (fun x : Int => Ending.returned (.int .i64 x)) HE.out.symm, rfl⟩
  · by_cases h2 : b < a
    · have HE : Hid (refInts a b = 1) := by simp [Hid, refInts, h1, h2]
      go_enter Tryz.func74, Tryz.ntmps74
      go_wp2
      go_ret
      exact ⟨congrArg (fun x : Int => Ending.returned (.int .i64 x)) HE.out.symm, rfl⟩
    · have HE : Hid (refInts a b = 0) := by simp [Hid, refInts, h1, h2]
      go_enter Tryz.func74, Tryz.ntmps74
      go_wp2
      go_ret
      exact ⟨congrArg (fun x : Int => Ending.returned (.int .i64 x)) HE.out.symm, rfl⟩

set_option maxRecDepth 100000 in
set_option maxHeartbeats 1000000 in
theorem ref_cmp (a b : V) (hfa : a.f < 18446744073709551616) (hfb : b.f < 18446744073709551616) (w : World) : Calls Tryz.prog 41 #[a.val, b.val] w fun e w' => e = .returned (.int .i64 (refCmp a b)) ∧ Touch (fun _ => False) w w' := by
  obtain ⟨k, n, f, s⟩ := a
  obtain ⟨k2, n2, f2, s2⟩ := b
  simp only [V.val] at *
  have HC : Hid (refCmp ⟨k, n, f, s⟩ ⟨k2, n2, f2, s2⟩ = if refInts k k2 ≠ 0 then refInts k k2 else if refInts n n2 ≠ 0 then refInts n n2 else if refInts (refOrder f) (refOrder f2) ≠ 0 then refInts (refOrder f) (refOrder f2) else refText s s2) := rfl
  generalize refCmp ⟨k, n, f, s⟩ ⟨k2, n2, f2, s2⟩ = C at *
  have HT : Hid (Touch (fun _ => False) w ((w.alloc (.cells #[.int .i64 k, .int .i64 n, .float .f64 f, .string s] 35)).alloc (.cells #[.int .i64 k2, .int .i64 n2, .float .f64 f2, .string s2] 35))) := ((Touch.refl _ _).alloc _).alloc _
  go_enter Tryz.func41, Tryz.ntmps41
  go_wp2_with fail
  refine (ref_ints k k2 _).mono ?_
  rintro e w1 ⟨rfl, rfl⟩
  generalize refInts k k2 = c1 at *
  by_cases h1 : c1 = 0
  · have t1 : (c1 == 0) = true := by rw [h1]; rfl
    have H1 : Hid (c1 = 0) := h1
    clear h1
    go_wp2_with fail
    refine (ref_ints n n2 _).mono ?_
    rintro e w2 ⟨rfl, rfl⟩
    generalize refInts n n2 = c2 at *
    by_cases h2 : c2 = 0
    · have t2 : (c2 == 0) = true := by rw [h2]; rfl
      have H2 : Hid (c2 = 0) := h2
      clear h2
      have HO : Hid (∀ w, Calls Tryz.prog 75 #[.float .f64 f] w fun e w' => e = .returned (.int .i64 (refOrder f)) ∧ w' = w) := ref_order f hfa
      have HO2 : Hid (∀ w, Calls Tryz.prog 75 #[.float .f64 f2] w fun e w' => e = .returned (.int .i64 (refOrder f2)) ∧ w' = w) := ref_order f2 hfb
      go_wp2_with fail
      go_quiet (first | (go_at_call_of 75 (Value.float FloatKind.f64 f); exact Calls.quiet_of_same (HO.out _)) | (go_at_call_of 75 (Value.float FloatKind.f64 f2); exact Calls.quiet_of_same (HO2.out _)) | (go_at_call 74; exact Calls.quiet_of_same (ref_ints _ _ _)))
      have HT3 : Hid (Touch (fun _ => False) w ((((w.alloc (.cells #[.int .i64 k, .int .i64 n, .float .f64 f, .string s] 35)).alloc (.cells #[.int .i64 k2, .int .i64 n2, .float .f64 f2, .string s2] 35))).drewN nq)) := HT.out.drewN _
      generalize refInts (refOrder f) (refOrder f2) = c3 at *
      by_cases h3 : c3 = 0
      · have t3 : (c3 != 0) = false := by rw [h3]; rfl
        have HE : Hid (C = refText s s2) := by rw [Hid, HC.out, if_neg (by simpa using H1.out), if_neg (by simpa using H2.out), if_neg (by simpa using h3)]
        clear h3 HO HO2
        cases h4 : Op.bytesLess s.toList s2.toList
        · cases h5 : (s.toList == s2.toList)
          · have HF : Hid (C = 1) := by rw [Hid, HE.out, refText, h4, h5]; rfl
            go_wp2_with fail
            go_ret
            exact ⟨congrArg (fun x : Int => Ending.returned (.int .i64 x)) HF.out.symm, HT3.out⟩
          · have HF : Hid (C = 0) := by rw [Hid, HE.out, refText, h4, h5]; rfl
            go_wp2_with fail
            go_ret
            exact ⟨congrArg (fun x : Int => Ending.returned (.int .i64 x)) HF.out.symm, HT3.out⟩
        · have HF : Hid (C = -1) := by rw [Hid, HE.out, refText, h4]; rfl
          go_wp2_with fail
          go_ret
          exact ⟨congrArg (fun x : Int => Ending.returned (.int .i64 x)) HF.out.symm, HT3.out⟩
      · have t3 : (c3 != 0) = true := by rw [bne_iff_ne]; exact h3
        have HE : Hid (C = c3) := by rw [Hid, HC.out, if_neg (by simpa using H1.out), if_neg (by simpa using H2.out), if_pos h3]
        go_wp2_with fail
        go_ret
        exact ⟨congrArg (fun x : Int => Ending.returned (.int .i64 x)) HE.out.symm, HT3.out⟩
    · have t2 : (c2 == 0) = false := by rw [beq_eq_false_iff_ne]; exact h2
      have t3 : (c2 != 0) = true := by rw [bne_iff_ne]; exact h2
      have HE : Hid (C = c2) := by rw [Hid, HC.out, if_neg (by simpa using H1.out), if_pos h2]
      go_wp2_with fail
      go_ret
      exact ⟨congrArg (fun x : Int => Ending.returned (.int .i64 x)) HE.out.symm, HT.out⟩
  · have t1 : (c1 == 0) = false := by rw [beq_eq_false_iff_ne]; exact h1
    have t2 : (c1 != 0) = true := by rw [bne_iff_ne]; exact h1
    have HE : Hid (C = c1) := by rw [Hid, HC.out, if_pos h1]
    go_wp2_with fail
    go_ret
    exact ⟨congrArg (fun x : Int => Ending.returned (.int .i64 x)) HE.out.symm, HT.out⟩
end Go.Proofs.YtnilikomoapcaaaGreat

/- The document's marks: Same. -/
namespace Go.Proofs.YtnilikomoapcaaaGreat
open Go.RowKit
set_option linter.unusedVariables false
set_option linter.unusedSimpArgs false
set_option maxRecDepth 100000

set_option maxHeartbeats 8000000 in
theorem qsame_any {w : World} {va vb : Value} {a b : List Mk} (hA : SlY w va a) (hB : SlY w vb b) (fa : ∀ m ∈ a, m.vf < 18446744073709551616) (fb : ∀ m ∈ b, m.vf < 18446744073709551616) :
    Calls Tryz.prog 16 #[va, vb] w fun e w' => e = .returned (.bool (sameL a b)) ∧ Touch (fun _ => False) w w' := by
  obtain ⟨ao, ac, rfl, a1, a2, a3⟩ := hA.shape
  obtain ⟨bo, bc, rfl, b1, b2, b3⟩ := hB.shape
  have HA : Hid (a ≠ [] → _) := hA.at
  have HB : Hid (b ≠ [] → _) := hB.at
  have HF : Hid (∀ j (h1 : j < a.length) (h2 : j < b.length) W, Calls Tryz.prog 41 #[.agg #[.int .i64 a[j].vk, .int .i64 a[j].vn, .float .f64 a[j].vf, .string a[j].vs], .agg #[.int .i64 b[j].vk, .int .i64 b[j].vn, .float .f64 b[j].vf, .string b[j].vs]] W fun e w' => e = .returned (.int .i64 (refCmp a[j].v b[j].v)) ∧ Touch (fun _ => False) W w') := fun j h1 h2 W => ref_cmp a[j].v b[j].v (fa _ (List.getElem_mem h1)) (fb _ (List.getElem_mem h2)) W
  clear hA hB fa fb
  by_cases hn : a.length = b.length
  · have HN : Hid (a.length = b.length) := hn
    have HNo : Hid (∀ j (h1 : j < a.length) (h2 : j < b.length), sameK a[j] b[j] = false → sameL a b = false) := fun j h1 h2 => sameL_no hn h1 h2
    have HAll : Hid ((∀ j (ha : j < a.length) (hb : j < b.length), sameK a[j] b[j] = true) → sameL a b = true) := sameL_all hn
    have hnb : ((a.length : Int) != (b.length : Int)) = false := by simp [hn]
    clear hn
    generalize sameL a b = R at *
    go_enter Tryz.func16, Tryz.ntmps16
    go_wp2_with fail
    clear hnb
    go_loopw [5] (fun i wr => ∃ j : Nat, i = .int .i64 (j : Int) ∧ j ≤ a.length ∧ Touch (fun _ => False) w wr ∧ ∀ k (h1 : k < a.length) (h2 : k < b.length), k < j → sameK a[k] b[k] = true) (fun i _ => a.length - (intOf i).toNat)
    case atStart => exact ⟨0, rfl, Nat.zero_le _, Touch.refl _ _, fun k _ _ h => absurd h (Nat.not_lt_zero _)⟩
    case round =>
      obtain ⟨j, rfl, hj, hT, hk⟩ := hrel
      by_cases hlt : j < a.length
      · have hltb : j < b.length := by rw [← HN.out]; exact hlt
        obtain ⟨ab, ax, rfl, hca⟩ := HA.out (by intro e; subst e; simp at hlt)
        obtain ⟨bb, bx, rfl, hcb⟩ := HB.out (by intro e; subst e; simp at hltb)
        have HCA : Hid (∀ W, Touch (fun _ => False) w W → _) := fun W t => hca W t j hlt
        have HCB : Hid (∀ W, Touch (fun _ => False) w W → _) := fun W t => hcb W t j hltb
        have HC := HF.out j hlt hltb
        have HNj : Hid (sameK a[j] b[j] = false → R = false) := HNo.out j hlt hltb
        have hi1 : (0 : Int) ≤ (j : Int) := by omega
        have hi2 : (j : Int) < (a.length : Int) := by omega
        have hi3 : (j : Int) < (b.length : Int) := by omega
        have hjm : (j : Int) + 1 < 9223372036854775808 := by omega
        have HU : Hid (∀ W, Touch (fun _ => False) w W → sameK a[j] b[j] = true → ∃ j' : Nat, (.int .i64 ((j : Int) + 1) : Value) = .int .i64 (j' : Int) ∧ j' ≤ a.length ∧ Touch (fun _ => False) w W ∧ ∀ k (h1 : k < a.length) (h2 : k < b.length), k < j' → sameK a[k] b[k] = true) := fun W t e => ⟨j + 1, by go_num, by omega, t, fun k h1 h2 h3 => by
          rcases Nat.lt_or_eq_of_le (Nat.le_of_lt_succ h3) with h | h
          · exact hk k h1 h2 h
          · subst h; exact e⟩
        have HT : Hid (Touch (fun _ => False) w wr) := hT
        have hm0 : Hid (a.length - (j + 1) < a.length - j) := by rw [Hid]; omega
        have HK0 : Hid (sameK a[j] b[j] = ((a[j].ky.toList == b[j].ky.toList) && (refCmp a[j].v b[j].v == 0))) := Eq.refl _
        clear hk hT hca hcb HA HB HF HN HNo HAll a1 b1 hj
        generalize a[j] = x at *
        generalize b[j] = y at *
        clear hlt hltb
        have HC' : Hid (∀ W, Calls Tryz.prog 41 #[.agg #[.int .i64 x.vk, .int .i64 x.vn, .float .f64 x.vf, .string x.vs], .agg #[.int .i64 y.vk, .int .i64 y.vn, .float .f64 y.vf, .string y.vs]] W fun e w' => e = .returned (.int .i64 (refCmp x.v y.v)) ∧ Touch (fun _ => False) W w') := HC
        clear HC
        generalize sameK x y = sk at *
        generalize refCmp x.v y.v = rc at *
        obtain ⟨xk, xvk, xvn, xvf, xvs⟩ := x
        obtain ⟨yk, yvk, yvn, yvf, yvs⟩ := y
        simp only at HCA HCB HC' HK0
        cases hkk : (xk.toList == yk.toList) with
        | false =>
          have hkn : (xk.toList != yk.toList) = true := by rw [bne, hkk]; rfl
          have HS : Hid (R = false) := HNj.out (by rw [HK0.out, hkk]; rfl)
          obtain ⟨x0, x1, x2, x3, x4⟩ := HCA.out wr HT.out
          obtain ⟨y0, y1, y2, y3, y4⟩ := HCB.out wr HT.out
          clear HNj HU HCA HCB HC' HK0
          go_wp2_with fail
          go_quiet (fail)
          go_wp2_with fail
          go_ret
          exact ⟨by rw [HS.out]; rfl, HT.out.drewN _⟩
        | true =>
          have hkn : (xk.toList != yk.toList) = false := by rw [bne, hkk]; rfl
          have HK1 : Hid (sk = (rc == 0)) := by rw [Hid, HK0.out, hkk]; rfl
          clear HK0
          obtain ⟨x0, x1, x2, x3, x4⟩ := HCA.out wr.drew HT.out.drew
          obtain ⟨y0, y1, y2, y3, y4⟩ := HCB.out wr.drew HT.out.drew
          go_wp2_with fail
          go_region_held3 (fun W => (W.cell? ⟨ab, ax + j * 5, none⟩ = some (.string xk) ∧ W.cell? ⟨ab, ax + j * 5 + 1, none⟩ = some (.int .i64 xvk) ∧ W.cell? ⟨ab, ax + j * 5 + 2, none⟩ = some (.int .i64 xvn) ∧ W.cell? ⟨ab, ax + j * 5 + 3, none⟩ = some (.float .f64 xvf) ∧ W.cell? ⟨ab, ax + j * 5 + 4, none⟩ = some (.string xvs)) ∧ (W.cell? ⟨bb, bx + j * 5, none⟩ = some (.string yk) ∧ W.cell? ⟨bb, bx + j * 5 + 1, none⟩ = some (.int .i64 yvk) ∧ W.cell? ⟨bb, bx + j * 5 + 2, none⟩ = some (.int .i64 yvn) ∧ W.cell? ⟨bb, bx + j * 5 + 3, none⟩ = some (.float .f64 yvf) ∧ W.cell? ⟨bb, bx + j * 5 + 4, none⟩ = some (.string yvs)) ∧ Hid (Touch (fun _ => False) w W)) (first | assumption | exact ⟨⟨x0, x1, x2, x3, x4⟩, ⟨y0, y1, y2, y3, y4⟩, HT.out.drew⟩)
            (first
              | (go_at_call 41; (with_reducible refine (HC'.out _).mono ?_); rintro e w2 ⟨rfl, t2⟩; have hS2 : (w2.cell? ⟨ab, ax + j * 5, none⟩ = some (.string xk) ∧ w2.cell? ⟨ab, ax + j * 5 + 1, none⟩ = some (.int .i64 xvk) ∧ w2.cell? ⟨ab, ax + j * 5 + 2, none⟩ = some (.int .i64 xvn) ∧ w2.cell? ⟨ab, ax + j * 5 + 3, none⟩ = some (.float .f64 xvf) ∧ w2.cell? ⟨ab, ax + j * 5 + 4, none⟩ = some (.string xvs)) ∧ (w2.cell? ⟨bb, bx + j * 5, none⟩ = some (.string yk) ∧ w2.cell? ⟨bb, bx + j * 5 + 1, none⟩ = some (.int .i64 yvk) ∧ w2.cell? ⟨bb, bx + j * 5 + 2, none⟩ = some (.int .i64 yvn) ∧ w2.cell? ⟨bb, bx + j * 5 + 3, none⟩ = some (.float .f64 yvf) ∧ w2.cell? ⟨bb, bx + j * 5 + 4, none⟩ = some (.string yvs)) ∧ Hid (Touch (fun _ => False) w w2) := ⟨HCA.out _ ((HT.out.drew).trans t2), HCB.out _ ((HT.out.drew).trans t2), (HT.out.drew).trans t2⟩; clear t2))
          rename_i hHeld
          have HT2 : Hid (Touch (fun _ => False) w w2) := hS2.2.2.out
          clear hHeld hS2 x0 x1 x2 x3 x4 y0 y1 y2 y3 y4 HCA HCB HC' HT hkk hkn
          obtain ⟨z, hz⟩ : ∃ z, z = (rc != 0) := ⟨_, rfl⟩
          rw [← hz]
          have HK2 : Hid (sk = !z) := by rw [Hid, HK1.out, hz, bne, Bool.not_not]
          clear hz HK1
          cases z with
          | true =>
            have HS : Hid (R = false) := HNj.out HK2.out
            clear HNj HU HK2
            go_wp2_with fail
            go_ret
            exact ⟨by rw [HS.out]; rfl, HT2.out⟩
          | false =>
            have HU3 : Hid _ := HU.out w2 HT2.out HK2.out
            clear HNj HU HK2
            go_wp2_with fail
            go_roundw
            case rel => exact HU3.out
            case measure => simp only [intOf]; have := hm0.out; omega
      · have hR : Hid (R = true) := HAll.out fun k h1 h2 => hk k h1 h2 (by omega)
        have hi2 : ¬ (j : Int) < (a.length : Int) := by omega
        have HT : Hid (Touch (fun _ => False) w wr) := hT
        clear hk hT hlt HA HB HF HN HNo HAll a1 b1 hj
        go_wp2_with fail
        go_ret
        exact ⟨by rw [hR.out]; rfl, HT.out⟩
  · have hnb : ((a.length : Int) != (b.length : Int)) = true := by simp; omega
    have HR : Hid (sameL a b = false) := by unfold sameL; rw [Hid, decide_eq_false hn]; rfl
    rw [HR.out]
    clear HR HA HB HF hn
    go_enter Tryz.func16, Tryz.ntmps16
    go_wp2_with fail
    go_ret
    exact ⟨rfl, Touch.refl _ _⟩
end Go.Proofs.YtnilikomoapcaaaGreat

/- The order of values is an order. It speaks of no program. -/
namespace Go.Proofs.YtnilikomoapcaaaGreat
open Go.RowKit
set_option linter.unusedVariables false

/-- Bytes as one of three: -1, 0, 1. -/
def lexI : List UInt8 → List UInt8 → Int
  | [], [] => 0
  | [], _ :: _ => -1
  | _ :: _, [] => 1
  | a :: x, b :: y => if a.toNat < b.toNat then -1 else if b.toNat < a.toNat then 1 else lexI x y
theorem lexI_spec (a b : List UInt8) : Op.bytesLess a b = decide (lexI a b = -1) ∧ (a == b) = decide (lexI a b = 0) ∧ (lexI a b = -1 ∨ lexI a b = 0 ∨ lexI a b = 1) := by
  induction a generalizing b with
  | nil => cases b <;> simp [Op.bytesLess, lexI]
  | cons x r ih =>
    cases b with
    | nil => simp [Op.bytesLess, lexI]
    | cons y s =>
      obtain ⟨h1, h2, h3⟩ := ih s
      simp only [Op.bytesLess]
      have hlt : (x < y) ↔ x.toNat < y.toNat := UInt8.lt_iff_toNat_lt
      have heq : (x = y) ↔ x.toNat = y.toNat := UInt8.toNat_inj.symm
      by_cases c1 : x.toNat < y.toNat
      · have e : lexI (x :: r) (y :: s) = -1 := by simp only [lexI]; rw [if_pos c1]
        have e1 : (decide (x < y)) = true := decide_eq_true (hlt.2 c1)
        have e2 : (x :: r == y :: s) = false := by
          rw [beq_eq_false_iff_ne]; intro e; cases e; omega
        rw [e, e1, e2]; simp
      · have e1 : (decide (x < y)) = false := decide_eq_false (fun h => c1 (hlt.1 h))
        by_cases c2 : y.toNat < x.toNat
        · have e : lexI (x :: r) (y :: s) = 1 := by simp only [lexI]; rw [if_neg c1, if_pos c2]
          have e2 : (x == y) = false := by rw [beq_eq_false_iff_ne]; intro e; rw [heq] at e; omega
          have e3 : (x :: r == y :: s) = false := by rw [beq_eq_false_iff_ne]; intro e; cases e; omega
          rw [e, e1, e2, e3]; simp
        · have e : lexI (x :: r) (y :: s) = lexI r s := by simp only [lexI]; rw [if_neg c1, if_neg c2]
          have e2 : x = y := heq.2 (by omega)
          subst e2
          have e3 : (x :: r == x :: s) = (r == s) := by simp
          rw [e, e1, e3, h1, h2]; simp [h3]
theorem refText_lex (a b : ByteArray) : refText a b = lexI a.toList b.toList := by
  obtain ⟨h1, h2, h3⟩ := lexI_spec a.toList b.toList
  unfold refText
  rw [h1, h2]
  rcases h3 with h | h | h <;> rw [h] <;> decide
theorem lexI_anti (a b : List UInt8) : lexI a b = -lexI b a := by
  induction a generalizing b with
  | nil => cases b <;> simp [lexI]
  | cons x r ih =>
    cases b with
    | nil => simp [lexI]
    | cons y s =>
      simp only [lexI]
      by_cases c1 : x.toNat < y.toNat
      · rw [if_pos c1, if_neg (by omega), if_pos c1]
      · rw [if_neg c1]
        by_cases c2 : y.toNat < x.toNat
        · rw [if_pos c2, if_pos c2]; rfl
        · rw [if_neg c2, if_neg c2, if_neg c1, ih]
theorem lexI_range (a b : List UInt8) : lexI a b = -1 ∨ lexI a b = 0 ∨ lexI a b = 1 := (lexI_spec a b).2.2
theorem lexI_trans (a b c : List UInt8) (h1 : lexI a b ≤ 0) (h2 : lexI b c ≤ 0) : lexI a c ≤ 0 ∧ (lexI a b = -1 ∨ lexI b c = -1 → lexI a c = -1) := by
  induction a generalizing b c with
  | nil =>
    cases c with
    | nil =>
      cases b with
      | nil => simp [lexI]
      | cons y s => simp [lexI] at h2
    | cons z t => simp [lexI]
  | cons x r ih =>
    cases b with
    | nil => simp [lexI] at h1
    | cons y s =>
      cases c with
      | nil => simp [lexI] at h2
      | cons z t =>
        simp only [lexI] at *
        by_cases c1 : x.toNat < y.toNat
        · by_cases c3 : y.toNat < z.toNat
          · rw [if_pos (show x.toNat < z.toNat by omega)]; simp
          · rw [if_neg c3] at h2
            by_cases c4 : z.toNat < y.toNat
            · rw [if_pos c4] at h2; omega
            · rw [if_pos (show x.toNat < z.toNat by omega)]; simp
        · rw [if_neg c1] at h1
          by_cases c2 : y.toNat < x.toNat
          · rw [if_pos c2] at h1; omega
          · rw [if_neg c2] at h1
            by_cases c3 : y.toNat < z.toNat
            · rw [if_pos (show x.toNat < z.toNat by omega)]; simp
            · rw [if_neg c3] at h2
              by_cases c4 : z.toNat < y.toNat
              · rw [if_pos c4] at h2; omega
              · rw [if_neg c4] at h2
                rw [if_neg c1, if_neg c2, if_neg c3, if_neg c4, if_neg (show ¬ x.toNat < z.toNat by omega), if_neg (show ¬ z.toNat < x.toNat by omega)]
                exact ih s t h1 h2

/-- Four questions, the first that parts. -/
theorem refCmp_cases (a b : V) : refCmp a b = if a.k < b.k then -1 else if b.k < a.k then 1 else if a.n < b.n then -1 else if b.n < a.n then 1 else if refOrder a.f < refOrder b.f then -1 else if refOrder b.f < refOrder a.f then 1 else lexI a.s.toList b.s.toList := by
  unfold refCmp refInts
  rw [refText_lex]
  by_cases c1 : a.k < b.k
  · simp [c1]
  by_cases c2 : b.k < a.k
  · simp [c1, c2]
  by_cases c3 : a.n < b.n
  · simp [c1, c2, c3]
  by_cases c4 : b.n < a.n
  · simp [c1, c2, c3, c4]
  by_cases c5 : refOrder a.f < refOrder b.f
  · simp [c1, c2, c3, c4, c5]
  by_cases c6 : refOrder b.f < refOrder a.f
  · simp [c1, c2, c3, c4, c5, c6]
  simp [c1, c2, c3, c4, c5, c6]
theorem refCmp_range (a b : V) : refCmp a b = -1 ∨ refCmp a b = 0 ∨ refCmp a b = 1 := by
  rw [refCmp_cases]
  have := lexI_range a.s.toList b.s.toList
  generalize lexI a.s.toList b.s.toList = l at *
  repeat' split
  all_goals omega
theorem refCmp_anti (a b : V) : refCmp a b = -refCmp b a := by
  rw [refCmp_cases, refCmp_cases b a, lexI_anti]
  generalize lexI b.s.toList a.s.toList = l
  repeat' split
  all_goals omega
theorem refCmp_self (a : V) : refCmp a a = 0 := by
  have := refCmp_anti a a; omega
theorem refCmp_trans (a b c : V) (h1 : refCmp a b ≤ 0) (h2 : refCmp b c ≤ 0) : refCmp a c ≤ 0 := by
  rw [refCmp_cases] at *
  have ht := lexI_trans a.s.toList b.s.toList c.s.toList
  generalize lexI a.s.toList b.s.toList = l1 at *
  generalize lexI b.s.toList c.s.toList = l2 at *
  generalize lexI a.s.toList c.s.toList = l3 at *
  generalize refOrder a.f = fa at *
  generalize refOrder b.f = fb at *
  generalize refOrder c.f = fc at *
  generalize a.k = ka at *
  generalize b.k = kb at *
  generalize c.k = kc at *
  generalize a.n = na at *
  generalize b.n = nb at *
  generalize c.n = nc at *
  by_cases x1 : ka < kc
  · rw [if_pos x1]; omega
  rw [if_neg x1]
  by_cases p1 : ka < kb
  · by_cases q1 : kb < kc
    · omega
    · rw [if_neg q1] at h2
      rw [if_pos (by omega)] at h2; omega
  rw [if_neg p1] at h1
  by_cases p2 : kb < ka
  · rw [if_pos p2] at h1; omega
  rw [if_neg p2] at h1
  obtain rfl : ka = kb := by omega
  rw [if_neg x1] at h2
  by_cases q2 : kc < ka
  · rw [if_pos q2] at h2; omega
  rw [if_neg q2] at h2 ⊢
  by_cases x3 : na < nc
  · rw [if_pos x3]; omega
  rw [if_neg x3]
  by_cases p3 : na < nb
  · by_cases q3 : nb < nc
    · omega
    · rw [if_neg q3] at h2
      rw [if_pos (by omega)] at h2; omega
  rw [if_neg p3] at h1
  by_cases p4 : nb < na
  · rw [if_pos p4] at h1; omega
  rw [if_neg p4] at h1
  obtain rfl : na = nb := by omega
  rw [if_neg x3] at h2
  by_cases q4 : nc < na
  · rw [if_pos q4] at h2; omega
  rw [if_neg q4] at h2 ⊢
  by_cases x5 : fa < fc
  · rw [if_pos x5]; omega
  rw [if_neg x5]
  by_cases p5 : fa < fb
  · by_cases q5 : fb < fc
    · omega
    · rw [if_neg q5] at h2
      rw [if_pos (by omega)] at h2; omega
  rw [if_neg p5] at h1
  by_cases p6 : fb < fa
  · rw [if_pos p6] at h1; omega
  rw [if_neg p6] at h1
  obtain rfl : fa = fb := by omega
  rw [if_neg x5] at h2
  by_cases q6 : fc < fa
  · rw [if_pos q6] at h2; omega
  rw [if_neg q6] at h2 ⊢
  exact (ht h1 h2).1
end Go.Proofs.YtnilikomoapcaaaGreat

/- Arguments that are slices of whole numbers of a kind: where they lie, how long they are. -/
namespace Go.Proofs.YtnilikomoapcaaaGreat
open Go.ChangeShapes Go.WideShapes Go.ChangeAt Go.RowKit
set_option linter.unusedVariables false

/-- Numbers of a kind that lie where a slice of that address begins. -/
def LiesK (w : World) (k : IntKind) (ao : Option Addr) (zs : List Int) : Prop := zs = [] ∨ ∃ b o, ao = some ⟨b, o, none⟩ ∧ ∀ j (hj : j < zs.length), w.cell? ⟨b, o + j, none⟩ = some (.int k zs[j])
theorem LiesK.touch {W W' : World} {k : IntKind} {ao : Option Addr} {zs : List Int} (h : LiesK W k ao zs) (t : Touch (fun _ => False) W W') : LiesK W' k ao zs := by
  rcases h with h | ⟨b, o, e, h⟩
  · exact .inl h
  · refine .inr ⟨b, o, e, fun j hj => ?_⟩
    have := h j hj
    rw [World.cell?_of_block (t.block _ (World.block_lt_of_cell? _ _ this) id)]; exact this
theorem numsIn_of {H : Type} {enc : TypeId × Value → H} {P : Program} {w : World} {base : Nat} {held : Bool} {t e : TypeId} {fuel n cap : Nat} {ao : Option Addr} {k : IntKind} {x : DataW H × List MemPlace}
    (ht : P.underlying t = some (.slice e)) (he : P.underlying e = some (.int k)) (hc : P.cellsOf e = 1)
    (h : DataW.trod enc P w base (fun _ => true) held fuel t (Value.slice ao n cap).cells.toList = some x) : ∃ zs : List Int, n = zs.length ∧ (ao = none → cap = 0) ∧ LiesK w k ao zs ∧ n ≤ cap ∧ cap ≤ maxLen ∧ ∀ y ∈ zs, (Lit.int k y).wf := by
  rcases open_ints ht he hc h with ⟨hcs, hx⟩ | ⟨a, l, c, zs, hcs, _, hl, hm, hz, hx, hcell, hwz⟩
  · simp [Value.cells] at hcs
    obtain ⟨rfl, rfl, rfl⟩ := hcs
    exact ⟨[], rfl, fun _ => rfl, .inl rfl, Nat.le_refl _, by simp [maxLen], fun y hy => (List.not_mem_nil hy).elim⟩
  · simp [Value.cells] at hcs
    obtain ⟨rfl, rfl, rfl⟩ := hcs
    simp only [if_true] at hz
    have hlen : (zs.take n).length = n := by rw [List.length_take]; omega
    refine ⟨zs.take n, hlen.symm, (by intro h; cases h), ?_, by omega, hm, fun y hy => hwz y (List.mem_of_mem_take hy)⟩
    by_cases hn : n = 0
    · subst hn; exact .inl (by simp)
    · have h0 : w.cell? (a.add 0) = some (.int k (zs.getD 0 0)) := hcell 0 (by omega)
      obtain ⟨b, off, rfl, _⟩ : ∃ b off, a = ⟨b, off, none⟩ ∧ True := by
        obtain ⟨b, off, spot⟩ := a
        cases spot with
        | none => exact ⟨b, off, rfl, trivial⟩
        | some s => exfalso; simp [World.cell?, Addr.add] at h0; split at h0 <;> simp_all
      refine .inr ⟨b, off, rfl, fun j hj => ?_⟩
      have e2 : (⟨b, off, none⟩ : Addr).add j = ⟨b, off + j, none⟩ := by unfold Addr.add; split <;> simp_all
      have hj2 : j < zs.length := by rw [hlen] at hj; omega
      rw [← e2, hcell j hj2]
      simp [List.getElem?_eq_getElem hj2]
theorem wrap_u16 (x : Int) (h0 : 0 ≤ x) (h1 : x < 65536) : IntKind.u16.wrap x = x := by
  simp [IntKind.wrap, IntKind.signed, IntKind.bits]
  omega
theorem wrap_64 (x : Int) (h0 : 0 ≤ x) (h1 : x < 65536) : wrap64 x = x := by
  have := IntKind.wrap_i64 x
  simp only [wrap64] at *
  omega
theorem quo_u16 (x k : Int) (h0 : 0 ≤ x) (h1 : x < 65536) (hk : 1 ≤ k) : wrap64 (IntKind.u16.wrap (x.tdiv k)) = x / k := by
  have e := Int.tdiv_eq_ediv_of_nonneg (b := k) h0
  have h2 : 0 ≤ x / k := Int.ediv_nonneg h0 (by omega)
  have h3 : x / k ≤ x := Int.ediv_le_self _ h0
  rw [e, wrap_u16 _ h2 (by omega), wrap_64 _ h2 (by omega)]
end Go.Proofs.YtnilikomoapcaaaGreat

/- quirelaw11.MarksEnds: a sequence that grows at any places, and a mark over all of it. -/
namespace Go.Proofs.YtnilikomoapcaaaGreat
open Go.RowKit
set_option linter.unusedVariables false
set_option linter.unusedSimpArgs false
set_option maxRecDepth 100000

structure EI (S : SS) (i : Nat) : Prop where
  inv : Inv S
  size : Size S i
  len : S.units.length = i
  all : ∀ v ∈ S.units, v.k ≤ (i : Int)
theorem EI.new : EI .new 0 := ⟨Inv.new, Size.new, by rw [new_units]; rfl, fun v hv => by rw [new_units] at hv; cases hv⟩
theorem EI.step {S : SS} {i p : Nat} (h : EI S i) (hi : i ≤ 100) (hp : p ≤ i) : (btU S 3 ((i : Int) + 1) p).ok ∧ S.may (btU S 3 ((i : Int) + 1) p) 1 = true ∧ EI (S.run (btU S 3 ((i : Int) + 1) p) 1) (i + 1) ∧ (S.run (btU S 3 ((i : Int) + 1) p) 1).find 3 ((i : Int) + 1) = (p : Int) := by
  have hlen := h.len
  have hb := btU_laid h.inv h.size (by omega) 3 ((i : Int) + 1) (by omega) (by omega) p 1 (by omega) (by omega) (fun v hv q => by
    have := h.all v hv
    omega)
  have hok := btU_ok h.inv 3 ((i : Int) + 1) (by omega) (by omega) p
  obtain ⟨b1, b2, b3⟩ := hb
  have hf := find_run b2 b3 0 (by omega)
  have c1 : ((1 : Nat) : Int) = 1 := rfl
  rw [c1] at b1 b2 b3 hf
  have e1 : runUns (btU S 3 ((i : Int) + 1) p) 1 = [btU S 3 ((i : Int) + 1) p] := rfl
  rw [e1] at b3
  refine ⟨hok, b1, ⟨b2, (h.inv.run1 hok h.size (by omega)).2, by rw [b3, len_ins _ _ _ (by omega)]; omega, fun v hv => ?_⟩, ?_⟩
  · rw [b3] at hv
    rcases List.mem_append.1 hv with hv | hv
    · rcases List.mem_append.1 hv with hv | hv
      · have := h.all v (List.mem_of_mem_take hv)
        omega
      · simp only [List.mem_singleton] at hv
        subst hv
        show (i : Int) + 1 ≤ ((i + 1 : Nat) : Int)
        omega
    · have := h.all v (List.mem_of_mem_drop hv)
      omega
  · have e2 : (S.units.take p).length = p := by rw [List.length_take]; omega
    rw [e2] at hf
    have e3 : (btU S 3 ((i : Int) + 1) p).c = 3 := rfl
    have e4 : (btU S 3 ((i : Int) + 1) p).k = (i : Int) + 1 := rfl
    rw [e3, e4] at hf
    simpa using hf
theorem EI.over {S : SS} {i : Nat} (h : EI S (i + 1)) (o : O) (e1 : o.fc = 0) (e2 : o.fk = 0) (e3 : o.fa = false) (e4 : o.tc = 0) (e5 : o.tk = 0) (e6 : o.ta = true) : overM S o = (0, ((i + 1 : Nat) : Int)) := by
  have g1 : gapM S o.fc o.fk o.fa = (0, true) := by
    unfold gapM
    rw [e1, e2, e3, if_pos ⟨rfl, rfl⟩]
    rfl
  have g2 : gapM S o.tc o.tk o.ta = (((i + 1 : Nat) : Int), true) := by
    unfold gapM
    rw [e4, e5, e6, if_pos ⟨rfl, rfl⟩, h.len]
    rfl
  unfold overM
  rw [g1, g2, if_pos]
  exact ⟨rfl, rfl, by show (0 : Int) < ((i + 1 : Nat) : Int); omega⟩
/-- The mark, as it is shown. -/
abbrev endK (v : Int) : Mk := ⟨⟨#[107]⟩, 2, v, 0, ⟨#[]⟩⟩
abbrev endO (v : Int) : O := markK 1 1 ⟨#[107]⟩ v 0 0 false 0 0 true
theorem mk_end (v : Int) : mk (endO v) = endK v := by
  have h : refBits 0 = 0 := by decide
  show (⟨⟨#[107]⟩, 2, v, refBits 0, ⟨#[]⟩⟩ : Mk) = _
  rw [h]
theorem end_fits (v : Int) (hv : -9223372036854775808 ≤ v ∧ v ≤ 9223372036854775807) : (endO v).fits := by
  constructor <;> simp [markK] <;> omega
theorem end_same (v : Int) : sameL [endK v] [endK v] = true := by
  refine sameL_all rfl fun j ha hb => ?_
  have : j = 0 := by simpa using ha
  subst this
  show sameK (endK v) (endK v) = true
  unfold sameK
  rw [refCmp_self]
  simp
theorem OutM.sl {w W : World} {g n : Nat} {M : Nat → List Mk} {vs : Nat → Value} (h : OutM w W g n M vs) {i : Nat} (hi : i < n) : SlY W (vs i) (M i) :=
  NewY.sl (W := w) ⟨h.own i hi, h.t, fun k hk => (h.fresh i k hi hk).1⟩
theorem SlY.new (W : World) (m : Mk) : SlY (W.alloc (myO m)) (.slice (some ⟨W.heap.size, 0, none⟩) 1 1) [m] :=
  ⟨_, 1, rfl, (fun h => by cases h), Nat.le_refl _, by omega, LiesY.new W m⟩
theorem SqMk.len {w W : World} {pa gm : Nat} {S : SS} {o : O} (h : SqMk w W pa gm S o) : Calls Tryz.prog 13 #[.pointer (some ⟨pa, 0, none⟩)] W fun e w' => e = .returned (.int .i64 (S.units.length : Int)) ∧ Touch (fun _ => False) W w' := by
  obtain ⟨⟨A, a⟩, _⟩ := h
  exact a.len
theorem SqMk.at' {w W : World} {pa gm : Nat} {S : SS} {o : O} (h : SqMk w W pa gm S o) (i : Int) (hi : -4611686018427387904 ≤ i ∧ i ≤ 4611686018427387904) :
    Calls Tryz.prog 14 #[.pointer (some ⟨pa, 0, none⟩), .int .i64 i] W fun e w' => e = .returned (.tuple #[.agg #[.int .u64 ((S.at_ i).1).c, .int .u64 ((S.at_ i).1).k, .int .u64 ((S.at_ i).1).lc, .int .u64 ((S.at_ i).1).lk, .int .u64 ((S.at_ i).1).rc, .int .u64 ((S.at_ i).1).rk], .bool (S.at_ i).2]) ∧ Touch (fun _ => False) W w' := by
  obtain ⟨⟨A, a⟩, _⟩ := h
  exact a.at' i hi
theorem SqMk.find {w W : World} {pa gm : Nat} {S : SS} {o : O} (h : SqMk w W pa gm S o) (c k : Int) (hc : 0 ≤ c) (hk : 0 ≤ k) (hk2 : k < 18446744073709551616) :
    Calls Tryz.prog 15 #[.pointer (some ⟨pa, 0, none⟩), .agg #[.int .u64 c, .int .u64 k]] W fun e w' => e = .returned (.int .i64 (S.find c k)) ∧ Touch (fun _ => False) W w' := by
  obtain ⟨⟨A, a⟩, _⟩ := h
  exact a.find c k hc hk hk2
theorem SqMk.insB {w W : World} {pa gm : Nat} {S : SS} {o : O} (h : SqMk w W pa gm S o) (u : Un) (hu : u.ok) {n : Nat} (hz : Size S n) (hn : n ≤ 1000000) :
    Calls Tryz.prog 11 #[.pointer (some ⟨pa, 0, none⟩), .agg #[.int .u64 u.c, .int .u64 u.k, .int .u64 u.lc, .int .u64 u.lk, .int .u64 u.rc, .int .u64 u.rk]] W fun e w' => e = .returned (.bool (S.may u 1)) ∧ SqMk w w' pa gm (S.run u 1) o ∧ ∀ (k : Nat) (x : Un), W.heap[k]? = some (unO x) → w'.heap[k]? = some (unO x) := by
  obtain ⟨⟨A, a⟩, h1, h2, h3⟩ := h
  refine (a.ins u hu hz hn).mono ?_
  rintro e w' ⟨rfl, A', a', _, t⟩
  exact ⟨rfl, ⟨⟨A', a'⟩, (t.block _ (lt_of_heap h1) (a.mem.noOp h1)).trans h1, h2, a.touch0 h3 t⟩, fun k x hk => (t.block _ (lt_of_heap hk) (a.mem.noBox hk)).trans hk⟩
end Go.Proofs.YtnilikomoapcaaaGreat
