/- The contracts of value's isNaN, oneNaN, floatRank, and of cmp.Compare, cmp.Or as value calls them. -/
import Derived.Test.YtegldlfbmaapiaaPart6
import Derived.Laws.BitsAllLaws
import Derived.Deep.RegionHeld
import Derived.Test.YtegldlfbmaapiaaPart10
import Derived.Deep.RegionHeld3
import Derived.Deep.MidRow
import Derived.Great.Ranges
namespace Go.Proofs.Ytegldlfbmaapiaa
open Go.RowKit
set_option linter.unusedVariables false
set_option maxRecDepth 100000

set_option maxHeartbeats 400000 in
theorem v_isNaN (f : Nat) (w : World) : Calls Try.prog 68 #[.float .f64 f] w fun e w' => e = .returned (.bool (isNaN f)) ∧ w' = w := by
  have h2 := self_neq f
  go_enter Try.func68, Try.ntmps68
  go_wp2
  go_ret
  exact ⟨rfl, rfl⟩

set_option maxHeartbeats 400000 in
theorem v_oneNaN (f : Nat) (w : World) : Calls Try.prog 46 #[.float .f64 f] w fun e w' => e = .returned (.float .f64 (refBits f)) ∧ w' = w := by
  have h1 : ∀ w, (callFunc 69 #[.int .u64 9221120237041090560]).run Try.prog w = .ok (.value (.float .f64 9221120237041090560)) w := fun w => f64frombits_run 9221120237041090560 w
  have HE : Hid (refBits f = if isNaN f then nanBits else f) := rfl
  generalize refBits f = R at *
  go_enter Try.func46, Try.ntmps46
  go_wp2_with fail
  refine (v_isNaN f _).mono ?_
  rintro e w1 ⟨rfl, rfl⟩
  cases h : isNaN f
  · have HF : Hid (R = f) := by rw [Hid, HE.out, h]; rfl
    go_wp2_with fail
    go_ret
    exact ⟨congrArg (fun x : Nat => Ending.returned (.float .f64 x)) HF.out.symm, rfl⟩
  · have HF : Hid (R = nanBits) := by rw [Hid, HE.out, h]; rfl
    go_wp2_with fail
    go_ret
    exact ⟨congrArg (fun x : Nat => Ending.returned (.float .f64 x)) HF.out.symm, rfl⟩

theorem nat_and_top (f : Nat) : f &&& 2 ^ 63 = if f.testBit 63 then 2 ^ 63 else 0 := by
  apply Nat.eq_of_testBit_eq
  intro i
  rw [Nat.testBit_and, Nat.testBit_two_pow]
  by_cases h : 63 = i
  · subst h
    cases f.testBit 63
    · rfl
    · rw [if_pos rfl, Nat.testBit_two_pow]; rfl
  · rw [decide_eq_false h, Bool.and_false]
    cases f.testBit 63
    · simp
    · rw [if_pos rfl, Nat.testBit_two_pow, decide_eq_false h]
theorem two63 : (2 : Nat) ^ 63 = 9223372036854775808 := by decide
theorem u64_top_low (f : Nat) (h : f < 9223372036854775808) : bits .and .u64 (f : Int) 9223372036854775808 = 0 := by
  rw [show (9223372036854775808 : Int) = ((2 ^ 63 : Nat) : Int) from by decide, u64_and_nat _ _ (by omega) (by decide), nat_and_top, Nat.testBit_lt_two_pow (by rw [two63]; exact h)]
  rfl
theorem u64_top_high (f : Nat) (h : ¬ f < 9223372036854775808) (h1 : f < 18446744073709551616) : bits .and .u64 (f : Int) 9223372036854775808 = 9223372036854775808 := by
  obtain ⟨g, rfl⟩ : ∃ g, f = 2 ^ 63 + g := ⟨f - 9223372036854775808, by rw [two63]; omega⟩
  rw [two63] at h1
  have hg : g < 2 ^ 63 := by rw [two63]; omega
  rw [show (9223372036854775808 : Int) = ((2 ^ 63 : Nat) : Int) from by decide, u64_and_nat _ _ (by rw [two63]; omega) (by decide), nat_and_top, Nat.testBit_two_pow_add_eq, Nat.testBit_lt_two_pow hg]
  rfl
theorem u64_top_or (f : Nat) (h : f < 9223372036854775808) : bits .or .u64 (f : Int) 9223372036854775808 = (f : Int) + 9223372036854775808 := by
  rw [show (9223372036854775808 : Int) = ((2 ^ 63 : Nat) : Int) from by decide, u64_or_nat _ _ (by omega) (by decide), Nat.or_comm]
  have := Nat.two_pow_add_eq_or_of_lt (i := 63) (b := f) (by rw [two63]; exact h) 1
  rw [Nat.mul_one] at this
  rw [← this, two63]; omega

theorem u64_flip (f : Nat) (h : f < 18446744073709551616) : bits .xor .u64 IntKind.u64.max (f : Int) = 18446744073709551615 - (f : Int) := by
  show IntKind.u64.wrap ((BitVec.ofInt 64 18446744073709551615 ^^^ BitVec.ofInt 64 (f : Int)).toNat : Int) = _
  rw [show BitVec.ofInt 64 18446744073709551615 = BitVec.allOnes 64 from by decide, BitVec.allOnes_xor, BitVec.toNat_not, ofInt_u64 f h, IntKind.wrap_u64]; omega

set_option maxHeartbeats 400000 in
theorem cmp_uint64 (a b : Int) (w : World) : Calls Try.prog 67 #[.int .u64 a, .int .u64 b] w fun e w' => e = .returned (.int .i64 (refInts a b)) ∧ w' = w := by
  by_cases h1 : a < b
  · have HE : Hid (refInts a b = -1) := by simp [Hid, refInts, h1]
    go_enter Try.func67, Try.ntmps67
    go_wp2
    go_ret
    exact ⟨congrArg (fun x : Int => Ending.returned (.int .i64 x)) HE.out.symm, rfl⟩
  · by_cases h2 : b < a
    · have HE : Hid (refInts a b = 1) := by simp [Hid, refInts, h1, h2]
      go_enter Try.func67, Try.ntmps67
      go_wp2
      go_ret
      exact ⟨congrArg (fun x : Int => Ending.returned (.int .i64 x)) HE.out.symm, rfl⟩
    · have HE : Hid (refInts a b = 0) := by simp [Hid, refInts, h1, h2]
      go_enter Try.func67, Try.ntmps67
      go_wp2
      go_ret
      exact ⟨congrArg (fun x : Int => Ending.returned (.int .i64 x)) HE.out.symm, rfl⟩
/-- The first that isn't zero. -/
def firstNZ : List Int → Int
  | [] => 0
  | x :: r => if x ≠ 0 then x else firstNZ r
set_option maxHeartbeats 400000 in
theorem cmp_or (xs : List Int) (n : Nat) (hn : n = xs.length) (b : Nat) (w : World) (h : ∀ j (hj : j < xs.length), w.cell? ⟨b, j, none⟩ = some (.int .i64 xs[j])) (hl : xs.length < 4611686018427387904) :
    Calls Try.prog 66 #[.slice (some ⟨b, 0, none⟩) n n] w fun e w' => e = .returned (.int .i64 (firstNZ xs)) ∧ w' = w := by
  subst hn
  have HC : Hid (∀ j (hj : j < xs.length), w.cell? ⟨b, j, none⟩ = some (.int .i64 xs[j])) := h
  clear h
  have HR : Hid (firstNZ xs = firstNZ (xs.drop 0)) := rfl
  generalize firstNZ xs = R at *
  go_enter Try.func66, Try.ntmps66
  go_wp2_with fail
  go_loopw [8] (fun i wr => ∃ k : Nat, i = .int .i64 k ∧ k ≤ xs.length ∧ R = firstNZ (xs.drop k) ∧ wr = w) (fun i _ => (xs.length - intOf i).toNat)
  case atStart => exact ⟨0, rfl, Nat.zero_le _, HR.out, rfl⟩
  case round =>
    obtain ⟨k, rfl, hk, hR, rfl⟩ := hrel
    have HR2 : Hid (R = firstNZ (xs.drop k)) := hR
    clear hR
    by_cases hk2 : k < xs.length
    · have hc := HC.out k hk2
      have HX : Hid (R = if xs[k] ≠ 0 then xs[k] else firstNZ (xs.drop (k + 1))) := by rw [Hid, HR2.out, List.drop_eq_getElem_cons hk2]; rfl
      generalize xs[k] = x at *
      by_cases hx : x = 0
      · have t : (x != 0) = false := by rw [hx]; rfl
        have HN : Hid (R = firstNZ (xs.drop (k + 1))) := by rw [Hid, HX.out, if_neg (by simpa using hx)]
        clear hx
        go_wp2_with fail
        go_roundw
        case rel => exact ⟨k + 1, by go_num, by omega, HN.out, trivial⟩
        case measure => simp [intOf]; omega
      · have t : (x != 0) = true := by rw [bne_iff_ne]; exact hx
        have HN : Hid (R = x) := by rw [Hid, HX.out, if_pos hx]
        clear hx
        go_wp2_with fail
        go_ret
        exact ⟨congrArg (fun x : Int => Ending.returned (.int .i64 x)) HN.out.symm, rfl⟩
    · have HN : Hid (R = 0) := by rw [Hid, HR2.out, List.drop_eq_nil_of_le (by omega)]; rfl
      go_wp2_with fail
      go_ret
      exact ⟨congrArg (fun x : Int => Ending.returned (.int .i64 x)) HN.out.symm, rfl⟩
end Go.Proofs.Ytegldlfbmaapiaa

/- The contracts of value.Cmp and value.Same. -/
namespace Go.Proofs.Ytegldlfbmaapiaa
open Go.RowKit
set_option linter.unusedVariables false
set_option maxRecDepth 100000

theorem refInts_shift (a b : Int) : refInts (a + 9223372036854775808) (b + 9223372036854775808) = refInts a b := by
  unfold refInts
  by_cases h1 : a < b
  · rw [if_pos (by omega), if_pos h1]
  · rw [if_neg (by omega), if_neg h1]
    by_cases h2 : b < a
    · rw [if_pos (by omega), if_pos h2]
    · rw [if_neg (by omega), if_neg h2]
theorem refCmp_or (a b : V) : firstNZ [refInts a.k b.k, refInts a.n b.n, refInts (refOrder a.f + 9223372036854775808) (refOrder b.f + 9223372036854775808), refText a.s b.s] = refCmp a b := by
  rw [refInts_shift]
  unfold refCmp
  simp only [firstNZ]
  by_cases h1 : refInts a.k b.k ≠ 0
  · rw [if_pos h1, if_pos h1]
  rw [if_neg h1, if_neg h1]
  by_cases h2 : refInts a.n b.n ≠ 0
  · rw [if_pos h2, if_pos h2]
  rw [if_neg h2, if_neg h2]
  by_cases h3 : refInts (refOrder a.f) (refOrder b.f) ≠ 0
  · rw [if_pos h3, if_pos h3]
  rw [if_neg h3, if_neg h3]
  by_cases h4 : refText a.s b.s = 0
  · rw [if_neg (by simpa using h4), h4]
  · rw [if_pos h4]

theorem cells4 (W : World) (t : TypeId) (c1 c2 c3 c4 : Int) (B : Nat) (hB : B = W.heap.size) : ∀ j (hj : j < [c1, c2, c3, c4].length), ((W.alloc (.cells #[.int .i64 c1, .int .i64 c2, .int .i64 c3, .int .i64 c4] t)).drew).cell? ⟨B, j, none⟩ = some (.int .i64 [c1, c2, c3, c4][j]) := by
  intro j hj
  subst hB
  show (W.alloc (.cells #[.int .i64 c1, .int .i64 c2, .int .i64 c3, .int .i64 c4] t)).cell? ⟨W.heap.size, j, none⟩ = _
  rw [cell_of_block (heap_alloc_new _ _)]
  match j, hj with
  | 0, _ => rfl
  | 1, _ => rfl
  | 2, _ => rfl
  | 3, _ => rfl

end Go.Proofs.Ytegldlfbmaapiaa

/- Same. -/
namespace Go.Proofs.Ytegldlfbmaapiaa
open Go.RowKit
set_option linter.unusedVariables false
set_option linter.unusedSimpArgs false
set_option maxRecDepth 100000

/-- Without its value. -/
def O.noV (o : O) : O := { o with vk := 0, vn := 0, vf := 0, vs := ⟨#[]⟩ }
/-- All fields but the values are alike. -/
def likeO (a b : O) : Bool := ((a.c == b.c) && ((a.k == b.k) && ((a.kind == b.kind) && ((a.st == b.st) && ((a.lc == b.lc) && ((a.lk == b.lk) && ((a.rc == b.rc) && ((a.rk == b.rk) && ((a.tx.toList == b.tx.toList) && ((a.ky.toList == b.ky.toList) && ((a.pc == b.pc) && ((a.pk == b.pk) && ((a.fc == b.fc) && ((a.fk == b.fk) && ((a.fa == b.fa) && ((a.tc == b.tc) && ((a.tk == b.tk) && (a.ta == b.ta))))))))))))))))))
set_option maxHeartbeats 8000000 in
theorem eql_op (a b : O) (w : World) : (binOp .eql 41 a.noV.val b.noV.val).run Try.prog w = .ok (.bool (likeO a b)) w := by
  have hu : Try.prog.underlying 35 = some (.float .f64) := by kernel_rfl
  have hF0 : ∀ (d : Nat) w, (Op.equalIn (d + 1) 35 (Value.float .f64 0) (Value.float .f64 0)).run Try.prog w = .ok true w := by
    intro d w
    simp [Op.equalIn, run_underlying hu]
    try kernel_rfl
  have hF : ∀ w, (Op.equalIn 9998 35 (Value.float .f64 0) (Value.float .f64 0)).run Try.prog w = .ok true w := fun w => hF0 9997 w
  clear hF0
  unfold likeO
  simp only [O.noV]
  go_simp
  rcases Classical.em (a.c = b.c) with h1 | h1
  rotate_left
  · simp [h1]
  rcases Classical.em (a.k = b.k) with h2 | h2
  rotate_left
  · simp [h2]
  rcases Classical.em (a.kind = b.kind) with h3 | h3
  rotate_left
  · simp [h3]
  rcases Classical.em (a.st = b.st) with h4 | h4
  rotate_left
  · simp [h4]
  rcases Classical.em (a.lc = b.lc) with h5 | h5
  rotate_left
  · simp [h5]
  rcases Classical.em (a.lk = b.lk) with h6 | h6
  rotate_left
  · simp [h6]
  rcases Classical.em (a.rc = b.rc) with h7 | h7
  rotate_left
  · simp [h7]
  rcases Classical.em (a.rk = b.rk) with h8 | h8
  rotate_left
  · simp [h8]
  rcases Classical.em (a.tx.toList = b.tx.toList) with h9 | h9
  rotate_left
  · simp [h9]
  rcases Classical.em (a.ky.toList = b.ky.toList) with h10 | h10
  rotate_left
  · simp [h10]
  rcases Classical.em (a.pc = b.pc) with h11 | h11
  rotate_left
  · simp [h11]
  rcases Classical.em (a.pk = b.pk) with h12 | h12
  rotate_left
  · simp [h12]
  rcases Classical.em (a.fc = b.fc) with h13 | h13
  rotate_left
  · simp [h13]
  rcases Classical.em (a.fk = b.fk) with h14 | h14
  rotate_left
  · simp [h14]
  rcases Classical.em (a.fa = b.fa) with h15 | h15
  rotate_left
  · simp [h15]
  rcases Classical.em (a.tc = b.tc) with h16 | h16
  rotate_left
  · simp [h16]
  rcases Classical.em (a.tk = b.tk) with h17 | h17
  rotate_left
  · simp [h17]
  rcases Classical.em (a.ta = b.ta) with h18 | h18
  rotate_left
  · simp [h18]
  simp [h1, h2, h3, h4, h5, h6, h7, h8, h9, h10, h11, h12, h13, h14, h15, h16, h17, h18]

theorem wp_eql_agg {P : Program} {op : Oper} {a : Act} {w : World} {K : Act → World → Prop} {Q : Exit → Act → World → Prop} (ty rt : TypeId) (x y : Operand) (ho : op.op = .binOp .eql ty x y rt)
    (xs ys : Array Value) (hx : a.eval x = .agg xs) (hy : a.eval y = .agg ys) (hm : P.eqGuardType P.depth ty = false) (r : Bool) (hr : (binOp .eql ty (.agg xs) (.agg ys)).run P w = .ok (.bool r) w)
    (h : K (a.put op.dst (.bool r)) w) : op.wp P a w K Q := by
  unfold Oper.wp execOp
  simp only [ho, hx, hy, Sem.run_bind, Sem.run_pure, Result.andThen_ok, run_eqGuard_agg, hm, hr]
  exact h
/-- The world in which a box's value has been cleared. -/
def clearV (W : World) (B : Nat) : World := W.setCells B 9 [.int .i64 0, .int .i64 0, .float .f64 0, .string ⟨#[]⟩]
theorem OpAt.there {W : World} {B : Nat} {o : O} (h : OpAt B o W) (k n : Nat) (hk : k + n ≤ 22) : W.there B k n := by
  intro j hj
  refine ⟨?_, free_of_block h⟩
  rw [cell_of_block h, Array.getElem?_eq_getElem (by show k + j < 22; omega)]
  rfl
theorem OpAt.clearV {W : World} {B : Nat} {o : O} (h : OpAt B o W) : OpAt B o.noV (clearV W B) := by
  unfold OpAt at h
  have h0 := heap_setCell_same W B 9 (.int .i64 0) h
  have h1 := heap_setCell_same _ B 10 (.int .i64 0) h0
  have h2 := heap_setCell_same _ B 11 (.float .f64 0) h1
  have h3 := heap_setCell_same _ B 12 (.string ⟨#[]⟩) h2
  exact h3
theorem OpAt.clearV_other {W : World} {B C : Nat} {o : O} (h : OpAt B o W) (hc : C ≠ B) : OpAt B o (Go.Proofs.Ytegldlfbmaapiaa.clearV W C) := by
  unfold OpAt at *
  show ((((W.setCell ⟨C, 9, none⟩ (.int .i64 0)).setCell ⟨C, 10, none⟩ (.int .i64 0)).setCell ⟨C, 11, none⟩ (.float .f64 0)).setCell ⟨C, 12, none⟩ (.string ⟨#[]⟩)).heap[B]? = _
  rw [heap_setCell_other _ _ _ _ hc, heap_setCell_other _ _ _ _ hc, heap_setCell_other _ _ _ _ hc, heap_setCell_other _ _ _ _ hc]
  exact h
theorem Touch.clearV {w W : World} {B : Nat} (t : Touch (fun _ => False) w W) (hB : w.heap.size ≤ B) : Touch (fun _ => False) w (Go.Proofs.Ytegldlfbmaapiaa.clearV W B) := by
  have n : B < w.heap.size → False := fun h => absurd h (by omega)
  have t0 := t.setCell ⟨B, 9, none⟩ (.int .i64 0) n
  have t1 := t0.setCell ⟨B, 10, none⟩ (.int .i64 0) n
  have t2 := t1.setCell ⟨B, 11, none⟩ (.float .f64 0) n
  exact t2.setCell ⟨B, 12, none⟩ (.string ⟨#[]⟩) n
end Go.Proofs.Ytegldlfbmaapiaa
