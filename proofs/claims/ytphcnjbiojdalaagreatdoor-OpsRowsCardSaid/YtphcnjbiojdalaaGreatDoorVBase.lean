/- The contracts of value's isNaN, oneNaN, floatRank, and of cmp.Compare, cmp.Or as value calls them. -/
import Derived.Test.YtphcnjbiojdalaaGreatDoorPart3
import Derived.Laws.BitsAllLaws
namespace Go.Proofs.YtphcnjbiojdalaaGreatDoor
open Go.RowKit
set_option linter.unusedVariables false
set_option maxRecDepth 100000

set_option maxHeartbeats 400000 in
theorem v_isNaN (f : Nat) (w : World) : Calls Tryz.prog 95 #[.float .f64 f] w fun e w' => e = .returned (.bool (isNaN f)) ∧ w' = w := by
  have h2 := self_neq f
  go_enter Tryz.func95, Tryz.ntmps95
  go_wp2
  go_ret
  exact ⟨rfl, rfl⟩

set_option maxHeartbeats 400000 in
theorem v_oneNaN (f : Nat) (w : World) : Calls Tryz.prog 69 #[.float .f64 f] w fun e w' => e = .returned (.float .f64 (refBits f)) ∧ w' = w := by
  have h1 : ∀ w, (callFunc 96 #[.int .u64 9221120237041090560]).run Tryz.prog w = .ok (.value (.float .f64 9221120237041090560)) w := fun w => f64frombits_run 9221120237041090560 w
  have HE : Hid (refBits f = if isNaN f then nanBits else f) := rfl
  generalize refBits f = R at *
  go_enter Tryz.func69, Tryz.ntmps69
  go_wp2_with fail
  refine (v_isNaN f _).mono ?_
  rintro e w1 ⟨rfl, rfl⟩
  cases h : isNaN f
  · have HF : Hid (R = f) := by rw [Hid, HE.out, h]; rfl
    go_wp2_with fail
    go_ret
    exact ⟨congrArg (fun x : Nat => Ending.returned (.float .f64 x)) HF.out.symm, rfl⟩
  · have HF : Hid (R = nanBits) := by rw [Hid, HE.out, h]; rfl
    go_wp2_with fail
    go_ret
    exact ⟨congrArg (fun x : Nat => Ending.returned (.float .f64 x)) HF.out.symm, rfl⟩

theorem nat_and_top (f : Nat) : f &&& 2 ^ 63 = if f.testBit 63 then 2 ^ 63 else 0 := by
  apply Nat.eq_of_testBit_eq
  intro i
  rw [Nat.testBit_and, Nat.testBit_two_pow]
  by_cases h : 63 = i
  · subst h
    cases f.testBit 63
    · rfl
    · rw [if_pos rfl, Nat.testBit_two_pow]; rfl
  · rw [decide_eq_false h, Bool.and_false]
    cases f.testBit 63
    · simp
    · rw [if_pos rfl, Nat.testBit_two_pow, decide_eq_false h]
theorem two63 : (2 : Nat) ^ 63 = 9223372036854775808 := by decide
theorem u64_top_low (f : Nat) (h : f < 9223372036854775808) : bits .and .u64 (f : Int) 9223372036854775808 = 0 := by
  rw [show (9223372036854775808 : Int) = ((2 ^ 63 : Nat) : Int) from by decide, u64_and_nat _ _ (by omega) (by decide), nat_and_top, Nat.testBit_lt_two_pow (by rw [two63]; exact h)]
  rfl
theorem u64_top_high (f : Nat) (h : ¬ f < 9223372036854775808) (h1 : f < 18446744073709551616) : bits .and .u64 (f : Int) 9223372036854775808 = 9223372036854775808 := by
  obtain ⟨g, rfl⟩ : ∃ g, f = 2 ^ 63 + g := ⟨f - 9223372036854775808, by rw [two63]; omega⟩
  rw [two63] at h1
  have hg : g < 2 ^ 63 := by rw [two63]; omega
  rw [show (9223372036854775808 : Int) = ((2 ^ 63 : Nat) : Int) from by decide, u64_and_nat _ _ (by rw [two63]; omega) (by decide), nat_and_top, Nat.testBit_two_pow_add_eq, Nat.testBit_lt_two_pow hg]
  rfl
theorem u64_top_or (f : Nat) (h : f < 9223372036854775808) : bits .or .u64 (f : Int) 9223372036854775808 = (f : Int) + 9223372036854775808 := by
  rw [show (9223372036854775808 : Int) = ((2 ^ 63 : Nat) : Int) from by decide, u64_or_nat _ _ (by omega) (by decide), Nat.or_comm]
  have := Nat.two_pow_add_eq_or_of_lt (i := 63) (b := f) (by rw [two63]; exact h) 1
  rw [Nat.mul_one] at this
  rw [← this, two63]; omega

theorem u64_flip (f : Nat) (h : f < 18446744073709551616) : bits .xor .u64 IntKind.u64.max (f : Int) = 18446744073709551615 - (f : Int) := by
  show IntKind.u64.wrap ((BitVec.ofInt 64 18446744073709551615 ^^^ BitVec.ofInt 64 (f : Int)).toNat : Int) = _
  rw [show BitVec.ofInt 64 18446744073709551615 = BitVec.allOnes 64 from by decide, BitVec.allOnes_xor, BitVec.toNat_not, ofInt_u64 f h, IntKind.wrap_u64]; omega

set_option maxHeartbeats 400000 in
theorem v_rank (f : Nat) (hf : f < 18446744073709551616) (w : World) : Calls Tryz.prog 106 #[.float .f64 f] w fun e w' => e = .returned (.int .u64 (refOrder f + 9223372036854775808)) ∧ w' = w := by
  have h1 := f64bits_run
  have HE : Hid (refOrder f = if isNaN f then 9223372036854775807 else if f < 9223372036854775808 then (f : Int) else 9223372036854775807 - (f : Int)) := rfl
  generalize refOrder f = R at *
  go_enter Tryz.func106, Tryz.ntmps106
  go_wp2_with fail
  refine (v_isNaN f _).mono ?_
  rintro e w1 ⟨rfl, rfl⟩
  cases h : isNaN f
  · by_cases hs : f < 9223372036854775808
    · have HF : Hid (R + 9223372036854775808 = (f : Int) + 9223372036854775808) := by rw [Hid, HE.out, h, if_pos hs]; rfl
      have t1 := u64_top_low f hs
      have t2 := u64_top_or f hs
      clear hs
      go_wp2_with fail
      go_ret
      exact ⟨congrArg (fun x : Int => Ending.returned (.int .u64 x)) HF.out.symm, rfl⟩
    · have HF : Hid (R + 9223372036854775808 = 18446744073709551615 - (f : Int)) := by
        rw [Hid, HE.out, h, if_neg hs]
        simp only [Bool.false_eq_true, if_false]; omega
      have t1 := u64_top_high f hs hf
      have hx := u64_flip f hf
      clear hs
      go_wp2_with fail
      go_ret
      exact ⟨congrArg (fun x : Int => Ending.returned (.int .u64 x)) HF.out.symm, rfl⟩
  · have HF : Hid (R + 9223372036854775808 = 18446744073709551615) := by rw [Hid, HE.out, h]; rfl
    go_wp2_with fail
    go_ret
    exact ⟨congrArg (fun x : Int => Ending.returned (.int .u64 x)) HF.out.symm, rfl⟩

set_option maxHeartbeats 400000 in
theorem cmp_int (a b : Int) (w : World) : Calls Tryz.prog 85 #[.int .i64 a, .int .i64 b] w fun e w' => e = .returned (.int .i64 (refInts a b)) ∧ w' = w := by
  by_cases h1 : a < b
  · have HE : Hid (refInts a b = -1) := by simp [Hid, refInts, h1]
    go_enter Tryz.func85, Tryz.ntmps85
    go_wp2
    go_ret
    exact ⟨congrArg (fun x : Int => Ending.returned (.int .i64 x)) HE.out.symm, rfl⟩
  · by_cases h2 : b < a
    · have HE : Hid (refInts a b = 1) := by simp [Hid, refInts, h1, h2]
      go_enter Tryz.func85, Tryz.ntmps85
      go_wp2
      go_ret
      exact ⟨congrArg (fun x : Int => Ending.returned (.int .i64 x)) HE.out.symm, rfl⟩
    · have HE : Hid (refInts a b = 0) := by simp [Hid, refInts, h1, h2]
      go_enter Tryz.func85, Tryz.ntmps85
      go_wp2
      go_ret
      exact ⟨congrArg (fun x : Int => Ending.returned (.int .i64 x)) HE.out.symm, rfl⟩
set_option maxHeartbeats 400000 in
theorem cmp_int64 (a b : Int) (w : World) : Calls Tryz.prog 104 #[.int .i64 a, .int .i64 b] w fun e w' => e = .returned (.int .i64 (refInts a b)) ∧ w' = w := by
  by_cases h1 : a < b
  · have HE : Hid (refInts a b = -1) := by simp [Hid, refInts, h1]
    go_enter Tryz.func104, Tryz.ntmps104
    go_wp2
    go_ret
    exact ⟨congrArg (fun x : Int => Ending.returned (.int .i64 x)) HE.out.symm, rfl⟩
  · by_cases h2 : b < a
    · have HE : Hid (refInts a b = 1) := by simp [Hid, refInts, h1, h2]
      go_enter Tryz.func104, Tryz.ntmps104
      go_wp2
      go_ret
      exact ⟨congrArg (fun x : Int => Ending.returned (.int .i64 x)) HE.out.symm, rfl⟩
    · have HE : Hid (refInts a b = 0) := by simp [Hid, refInts, h1, h2]
      go_enter Tryz.func104, Tryz.ntmps104
      go_wp2
      go_ret
      exact ⟨congrArg (fun x : Int => Ending.returned (.int .i64 x)) HE.out.symm, rfl⟩
set_option maxHeartbeats 400000 in
theorem cmp_uint64 (a b : Int) (w : World) : Calls Tryz.prog 105 #[.int .u64 a, .int .u64 b] w fun e w' => e = .returned (.int .i64 (refInts a b)) ∧ w' = w := by
  by_cases h1 : a < b
  · have HE : Hid (refInts a b = -1) := by simp [Hid, refInts, h1]
    go_enter Tryz.func105, Tryz.ntmps105
    go_wp2
    go_ret
    exact ⟨congrArg (fun x : Int => Ending.returned (.int .i64 x)) HE.out.symm, rfl⟩
  · by_cases h2 : b < a
    · have HE : Hid (refInts a b = 1) := by simp [Hid, refInts, h1, h2]
      go_enter Tryz.func105, Tryz.ntmps105
      go_wp2
      go_ret
      exact ⟨congrArg (fun x : Int => Ending.returned (.int .i64 x)) HE.out.symm, rfl⟩
    · have HE : Hid (refInts a b = 0) := by simp [Hid, refInts, h1, h2]
      go_enter Tryz.func105, Tryz.ntmps105
      go_wp2
      go_ret
      exact ⟨congrArg (fun x : Int => Ending.returned (.int .i64 x)) HE.out.symm, rfl⟩
set_option maxHeartbeats 400000 in
theorem cmp_string (s s2 : ByteArray) (w : World) : Calls Tryz.prog 107 #[.string s, .string s2] w fun e w' => e = .returned (.int .i64 (refText s s2)) ∧ w' = w := by
  cases h4 : Op.bytesLess s.toList s2.toList
  · cases h5 : (s.toList == s2.toList)
    · have HF : Hid (refText s s2 = 1) := by rw [Hid, refText, h4, h5]; rfl
      go_enter Tryz.func107, Tryz.ntmps107
      go_wp2
      go_ret
      exact ⟨congrArg (fun x : Int => Ending.returned (.int .i64 x)) HF.out.symm, rfl⟩
    · have HF : Hid (refText s s2 = 0) := by rw [Hid, refText, h4, h5]; rfl
      go_enter Tryz.func107, Tryz.ntmps107
      go_wp2
      go_ret
      exact ⟨congrArg (fun x : Int => Ending.returned (.int .i64 x)) HF.out.symm, rfl⟩
  · have HF : Hid (refText s s2 = -1) := by rw [Hid, refText, h4]; rfl
    go_enter Tryz.func107, Tryz.ntmps107
    go_wp2
    go_ret
    exact ⟨congrArg (fun x : Int => Ending.returned (.int .i64 x)) HF.out.symm, rfl⟩

/-- The first that isn't zero. -/
def firstNZ : List Int → Int
  | [] => 0
  | x :: r => if x ≠ 0 then x else firstNZ r
set_option maxHeartbeats 400000 in
theorem cmp_or (xs : List Int) (n : Nat) (hn : n = xs.length) (b : Nat) (w : World) (h : ∀ j (hj : j < xs.length), w.cell? ⟨b, j, none⟩ = some (.int .i64 xs[j])) (hl : xs.length < 4611686018427387904) :
    Calls Tryz.prog 83 #[.slice (some ⟨b, 0, none⟩) n n] w fun e w' => e = .returned (.int .i64 (firstNZ xs)) ∧ w' = w := by
  subst hn
  have HC : Hid (∀ j (hj : j < xs.length), w.cell? ⟨b, j, none⟩ = some (.int .i64 xs[j])) := h
  clear h
  have HR : Hid (firstNZ xs = firstNZ (xs.drop 0)) := rfl
  generalize firstNZ xs = R at *
  go_enter Tryz.func83, Tryz.ntmps83
  go_wp2_with fail
  go_loopw [8] (fun i wr => ∃ k : Nat, i = .int .i64 k ∧ k ≤ xs.length ∧ R = firstNZ (xs.drop k) ∧ wr = w) (fun i _ => (xs.length - intOf i).toNat)
  case atStart => exact ⟨0, rfl, Nat.zero_le _, HR.out, rfl⟩
  case round =>
    obtain ⟨k, rfl, hk, hR, rfl⟩ := hrel
    have HR2 : Hid (R = firstNZ (xs.drop k)) := hR
    clear hR
    by_cases hk2 : k < xs.length
    · have hc := HC.out k hk2
      have HX : Hid (R = if xs[k] ≠ 0 then xs[k] else firstNZ (xs.drop (k + 1))) := by rw [Hid, HR2.out, List.drop_eq_getElem_cons hk2]; rfl
      generalize xs[k] = x at *
      by_cases hx : x = 0
      · have t : (x != 0) = false := by rw [hx]; rfl
        have HN : Hid (R = firstNZ (xs.drop (k + 1))) := by rw [Hid, HX.out, if_neg (by simpa using hx)]
        clear hx
        go_wp2_with fail
        go_roundw
        case rel => exact ⟨k + 1, by go_num, by omega, HN.out, trivial⟩
        case measure => simp [intOf]; omega
      · have t : (x != 0) = true := by rw [bne_iff_ne]; exact hx
        have HN : Hid (R = x) := by rw [Hid, HX.out, if_pos hx]
        clear hx
        go_wp2_with fail
        go_ret
        exact ⟨congrArg (fun x : Int => Ending.returned (.int .i64 x)) HN.out.symm, rfl⟩
    · have HN : Hid (R = 0) := by rw [Hid, HR2.out, List.drop_eq_nil_of_le (by omega)]; rfl
      go_wp2_with fail
      go_ret
      exact ⟨congrArg (fun x : Int => Ending.returned (.int .i64 x)) HN.out.symm, rfl⟩
end Go.Proofs.YtphcnjbiojdalaaGreatDoor
