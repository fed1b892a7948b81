/- The contracts of value.Cmp and value.Same. -/
import Derived.Test.YtkiicdleoniioaaDoorVBase
import Derived.Deep.RegionHeld
namespace Go.Proofs.YtkiicdleoniioaaDoor
open Go.RowKit
set_option linter.unusedVariables false
set_option maxRecDepth 100000

theorem refInts_shift (a b : Int) : refInts (a + 9223372036854775808) (b + 9223372036854775808) = refInts a b := by
  unfold refInts
  by_cases h1 : a < b
  · rw [if_pos (by omega), if_pos h1]
  · rw [if_neg (by omega), if_neg h1]
    by_cases h2 : b < a
    · rw [if_pos (by omega), if_pos h2]
    · rw [if_neg (by omega), if_neg h2]
theorem refCmp_or (a b : V) : firstNZ [refInts a.k b.k, refInts a.n b.n, refInts (refOrder a.f + 9223372036854775808) (refOrder b.f + 9223372036854775808), refText a.s b.s] = refCmp a b := by
  rw [refInts_shift]
  unfold refCmp
  simp only [firstNZ]
  by_cases h1 : refInts a.k b.k ≠ 0
  · rw [if_pos h1, if_pos h1]
  rw [if_neg h1, if_neg h1]
  by_cases h2 : refInts a.n b.n ≠ 0
  · rw [if_pos h2, if_pos h2]
  rw [if_neg h2, if_neg h2]
  by_cases h3 : refInts (refOrder a.f) (refOrder b.f) ≠ 0
  · rw [if_pos h3, if_pos h3]
  rw [if_neg h3, if_neg h3]
  by_cases h4 : refText a.s b.s = 0
  · rw [if_neg (by simpa using h4), h4]
  · rw [if_pos h4]

theorem cells4 (W : World) (t : TypeId) (c1 c2 c3 c4 : Int) (B : Nat) (hB : B = W.heap.size) : ∀ j (hj : j < [c1, c2, c3, c4].length), ((W.alloc (.cells #[.int .i64 c1, .int .i64 c2, .int .i64 c3, .int .i64 c4] t)).drew).cell? ⟨B, j, none⟩ = some (.int .i64 [c1, c2, c3, c4][j]) := by
  intro j hj
  subst hB
  show (W.alloc (.cells #[.int .i64 c1, .int .i64 c2, .int .i64 c3, .int .i64 c4] t)).cell? ⟨W.heap.size, j, none⟩ = _
  rw [cell_of_block (heap_alloc_new _ _)]
  match j, hj with
  | 0, _ => rfl
  | 1, _ => rfl
  | 2, _ => rfl
  | 3, _ => rfl

set_option maxHeartbeats 1000000 in
theorem v_cmp (a b : V) (hfa : a.f < 18446744073709551616) (hfb : b.f < 18446744073709551616) (w : World) : Calls Tryd.prog 18 #[a.val, b.val] w fun e w' => e = .returned (.int .i64 (refCmp a b)) ∧ Touch (fun _ => False) w w' := by
  have HC : Hid (firstNZ [refInts a.k b.k, refInts a.n b.n, refInts (refOrder a.f + 9223372036854775808) (refOrder b.f + 9223372036854775808), refText a.s b.s] = refCmp a b) := refCmp_or a b
  generalize refCmp a b = C at *
  obtain ⟨k, n, f, s⟩ := a
  obtain ⟨k2, n2, f2, s2⟩ := b
  simp only [V.val] at *
  have HO : Hid (∀ w, Calls Tryd.prog 43 #[.float .f64 f] w fun e w' => e = .returned (.int .u64 (refOrder f + 9223372036854775808)) ∧ w' = w) := v_rank f hfa
  have HO2 : Hid (∀ w, Calls Tryd.prog 43 #[.float .f64 f2] w fun e w' => e = .returned (.int .u64 (refOrder f2 + 9223372036854775808)) ∧ w' = w) := v_rank f2 hfb
  have hi := Tryd.underlying86
  go_enter Tryd.func18, Tryd.ntmps18
  go_wp2_with fail
  go_region_held (fun w' => w'.cell? ⟨w.heap.size, 0, none⟩ = some (.int .i64 k) ∧ w'.cell? ⟨w.heap.size, 1, none⟩ = some (.int .i64 n) ∧ w'.cell? ⟨w.heap.size, 2, none⟩ = some (.float .f64 f) ∧ w'.cell? ⟨w.heap.size, 3, none⟩ = some (.string s) ∧ w'.cell? ⟨w.heap.size + 1, 0, none⟩ = some (.int .i64 k2) ∧ w'.cell? ⟨w.heap.size + 1, 1, none⟩ = some (.int .i64 n2) ∧ w'.cell? ⟨w.heap.size + 1, 2, none⟩ = some (.float .f64 f2) ∧ w'.cell? ⟨w.heap.size + 1, 3, none⟩ = some (.string s2)) (go_keep)
    (first
      | (go_at_call 40; refine (cmp_int _ _ _).mono ?_; rintro e w' ⟨rfl, rfl⟩)
      | (go_at_call 41; refine (cmp_int64 _ _ _).mono ?_; rintro e w' ⟨rfl, rfl⟩)
      | (go_at_call 42; refine (cmp_uint64 _ _ _).mono ?_; rintro e w' ⟨rfl, rfl⟩)
      | (go_at_call 44; refine (cmp_string _ _ _).mono ?_; rintro e w' ⟨rfl, rfl⟩)
      | (go_at_call_of 43 (Value.float FloatKind.f64 f); refine (HO.out _).mono ?_; rintro e w' ⟨rfl, rfl⟩)
      | (go_at_call_of 43 (Value.float FloatKind.f64 f2); refine (HO2.out _).mono ?_; rintro e w' ⟨rfl, rfl⟩)
      | (go_at_call 39; refine (cmp_or [refInts k k2, refInts n n2, refInts (refOrder f + 9223372036854775808) (refOrder f2 + 9223372036854775808), refText s s2] 4 rfl _ _ (cells4 _ _ _ _ _ _ _ (by simp)) (by simp)).mono ?_; rintro e w' ⟨rfl, rfl⟩))
  go_wp2_with fail
  go_ret
  exact ⟨congrArg (fun x : Int => Ending.returned (.int .i64 x)) HC.out, ((((Touch.refl _ _).alloc _).alloc _).alloc _).drew⟩

set_option maxHeartbeats 400000 in
theorem v_same (a b : V) (hfa : a.f < 18446744073709551616) (hfb : b.f < 18446744073709551616) (w : World) : Calls Tryd.prog 22 #[a.val, b.val] w fun e w' => e = .returned (.bool (refCmp a b == 0)) ∧ Touch (fun _ => False) w w' := by
  have HK : Hid (∀ w, Calls Tryd.prog 18 #[a.val, b.val] w fun e w' => e = .returned (.int .i64 (refCmp a b)) ∧ Touch (fun _ => False) w w') := v_cmp a b hfa hfb
  generalize refCmp a b = C at *
  obtain ⟨k, n, f, s⟩ := a
  obtain ⟨k2, n2, f2, s2⟩ := b
  simp only [V.val] at *
  go_enter Tryd.func22, Tryd.ntmps22
  go_wp2_with fail
  refine (HK.out _).mono ?_
  rintro e w1 ⟨rfl, hT⟩
  have HT : Hid (Touch (fun _ => False) w w1) := Touch.trans (((Touch.refl _ _).alloc _).alloc _) hT
  clear hT
  go_wp2_with fail
  go_ret
  exact ⟨rfl, HT.out⟩
end Go.Proofs.YtkiicdleoniioaaDoor
