/- The contract of value.Check. -/
import Derived.Test.YtphcnjbiojdalaaGreatDoorPart4
import Derived.Test.YtphcnjbiojdalaaGreatDoorPart8
import Derived.Test.YtphcnjbiojdalaaGreatDoorRef2c
import Derived.WalkKit
import Derived.Laws.BitsAllLaws
import Derived.Test.YtphcnjbiojdalaaGreatDoorLib
import Derived.Test.YtphcnjbiojdalaaGreatDoorPart3
import Derived.Test.YtphcnjbiojdalaaGreatDoorPart9
import Derived.Test.YtphcnjbiojdalaaGreatDoorPart2
namespace Go.Proofs.YtphcnjbiojdalaaGreatDoor
open Go.RowKit
set_option linter.unusedVariables false
set_option maxRecDepth 100000

set_option maxHeartbeats 1000000 in
theorem v_check_text (n : Int) (f : Nat) (s : ByteArray) (hs : s.size ≤ 9223372036854775807) (w : World) (hT : TabsU w) : Calls Tryz.prog 64 #[.agg #[.int .i64 4, .int .i64 n, .float .f64 f, .string s]] w fun e w' => e = .returned (.int .i64 (errOf ((decide (s.size ≤ 4096) && (runesOf s.data.toList).isSome) && ((n == 0) && ((f : Int) == 0) && true)))) ∧ Touch (fun _ => False) w w' := by
  have HV : Hid (∀ w, TabsU w → Calls Tryz.prog 89 #[.string s] w fun e w' => e = .returned (.bool (runesOf s.data.toList).isSome) ∧ Touch (fun _ => False) w w') := valid_any s hs
  generalize (runesOf s.data.toList).isSome = R at *
  have HU : Hid (TabsU w) := hT
  clear hT
  have hnil : (ByteArray.mk #[]).toList.isEmpty = true := by decide +kernel
  generalize hE : ((n == 0) && ((f : Int) == 0) && true) = E
  have HE : Hid (((n == 0) && ((f : Int) == 0) && (ByteArray.mk #[]).toList.isEmpty) = E) := by rw [Hid, hnil]; exact hE
  clear hE hnil
  have h2 := run_store_f64 Tryz.prog
  have hnot : ∀ (x : Bool) (w : World), (Op.unary .not (.bool x)).run Tryz.prog w = .ok (.bool (!x)) w := fun _ _ => rfl
  by_cases hz : s.size ≤ 4096
  · rw [decide_eq_true hz]
    go_enter Tryz.func64, Tryz.ntmps64
    go_wp2_with fail
    refine (HV.out _ (HU.out.keep (((Touch.refl _ _).alloc _).alloc _))).mono ?_
    rintro e w1 ⟨rfl, hT⟩
    have hb : w1.heap[w.heap.size + 1]? = some (.cells #[.int .i64 4, .int .i64 n, .float .f64 f, .string s] 27) := by
      rw [hT.block _ (by simp) id]
      have := heap_alloc_new (w.alloc (.cells #[.int .i64 4, .int .i64 n, .float .f64 f, .string s] 27)) (.cells #[.int .i64 4, .int .i64 n, .float .f64 f, .string s] 27)
      rwa [show (w.alloc (.cells #[.int .i64 4, .int .i64 n, .float .f64 f, .string s] 27)).heap.size = w.heap.size + 1 by simp] at this
    have d0 : w1.cell? ⟨w.heap.size + 1, 0, none⟩ = some (.int .i64 4) := by rw [cell_of_block hb]; rfl
    have d1 : w1.cell? ⟨w.heap.size + 1, 1, none⟩ = some (.int .i64 n) := by rw [cell_of_block hb]; rfl
    have d2 : w1.cell? ⟨w.heap.size + 1, 2, none⟩ = some (.float .f64 f) := by rw [cell_of_block hb]; rfl
    have d3 : w1.cell? ⟨w.heap.size + 1, 3, none⟩ = some (.string s) := by rw [cell_of_block hb]; rfl
    have z3 : w1.frozen? ⟨w.heap.size + 1, 3, none⟩ = false := free_of_block hb
    have HT1 : Hid (Touch (fun _ => False) w (w1.setCell ⟨w.heap.size + 1, 3, none⟩ (.string ⟨#[]⟩))) := (Touch.trans (((Touch.refl _ _).alloc _).alloc _) hT).setCell _ _ (fun h => by simp only at h; omega)
    clear hT hb HV HU hz
    cases R
    · go_wp2_with fail
      go_ret
      exact ⟨rfl, HT1.out⟩
    · go_wp2_with fail
      refine (v_empty_of 4 n f ⟨#[]⟩ E HE.out _).mono ?_
      rintro e w2 ⟨rfl, rfl⟩
      have HT2 : Hid (Touch (fun _ => False) w ((w1.setCell ⟨w.heap.size + 1, 3, none⟩ (.string ⟨#[]⟩)).alloc (.cells #[.int .i64 4, .int .i64 n, .float .f64 f, .string ⟨#[]⟩] 27))) := HT1.out.alloc _
      clear HT1 d0 d1 d2 d3 z3
      cases E
      · go_wp2_with fail
        go_ret
        exact ⟨rfl, HT2.out⟩
      · go_wp2_with fail
        go_ret
        exact ⟨rfl, HT2.out⟩
  · rw [decide_eq_false hz]
    simp only [Bool.false_and]
    clear HV HU
    go_enter Tryz.func64, Tryz.ntmps64
    go_wp2_with fail
    go_ret
    refine ⟨rfl, ?_⟩
    repeat (with_reducible first | exact Touch.refl _ _ | refine Touch.alloc ?_ _ | refine Touch.drewN ?_ _ | refine Touch.setCell ?_ _ _ (fun h => by simp only at h; omega))

/-- What value.Check answers is what the document's does. -/
theorem v_check (v : V) (hs : v.s.size ≤ 9223372036854775807) (w : World) (hT : TabsU w) : Calls Tryz.prog 64 #[v.val] w fun e w' => e = .returned (.int .i64 (refCheck v)) ∧ Touch (fun _ => False) w w' := by
  obtain ⟨k, n, f, s⟩ := v
  have key : ∀ b : Bool, vOk ⟨k, n, f, s⟩ = b → refCheck ⟨k, n, f, s⟩ = errOf b := by
    intro b h; unfold refCheck errOf; rw [h]
  have ez : ((0 : Int) == 0) = true := rfl
  have en : (((0 : Nat) : Int) == 0) = true := rfl
  by_cases h0 : k = 0
  · subst h0; rw [key ((n == 0) && ((f : Int) == 0) && s.toList.isEmpty) (by unfold vOk; simp)]; exact v_check_null n f s w
  by_cases h5 : k = 5
  · subst h5; rw [key ((n == 0) && ((f : Int) == 0) && s.toList.isEmpty) (by unfold vOk; simp)]; exact v_check_map n f s w
  by_cases h1 : k = 1
  · subst h1; rw [key (((n == 0) || (n == 1)) && (((0 : Int) == 0) && ((f : Int) == 0) && s.toList.isEmpty)) (by unfold vOk; simp [Bool.and_assoc])]; exact v_check_bool n f s w
  by_cases h2 : k = 2
  · subst h2; rw [key (((0 : Int) == 0) && ((f : Int) == 0) && s.toList.isEmpty) (by unfold vOk; simp)]; exact v_check_int n f s w
  by_cases h3 : k = 3
  · subst h3; rw [key ((n == 0) && (((0 : Nat) : Int) == 0) && s.toList.isEmpty) (by unfold vOk; simp)]; exact v_check_float n f s w
  by_cases h4 : k = 4
  · subst h4
    rw [key ((decide (s.size ≤ 4096) && (runesOf s.data.toList).isSome) && ((n == 0) && ((f : Int) == 0) && true)) (by
      unfold vOk; simp only [show ¬ ((4 : Int) = 0 ∨ (4 : Int) = 5) by decide, show ¬ ((4 : Int) = 1) by decide, show ¬ ((4 : Int) = 2) by decide, show ¬ ((4 : Int) = 3) by decide, if_false, if_true]
      cases (n == 0) <;> cases ((f : Int) == 0) <;> cases decide (s.size ≤ 4096) <;> cases (runesOf s.data.toList).isSome <;> rfl)]
    exact v_check_text n f s hs w hT
  · rw [key false (by unfold vOk; simp [h0, h1, h2, h3, h4, h5])]; exact v_check_other k n f s h0 h1 h2 h3 h4 h5 w
end Go.Proofs.YtphcnjbiojdalaaGreatDoor

/- The contract of value.Clean. -/
namespace Go.Proofs.YtphcnjbiojdalaaGreatDoor
open Go.RowKit
set_option linter.unusedVariables false
set_option maxRecDepth 100000

/-- A NaN's bits are the one NaN's, whatever the kind. -/
def vClean (v : V) : V := ⟨v.k, v.n, refBits v.f, v.s⟩
set_option maxHeartbeats 400000 in
theorem v_clean (v : V) (w : World) : Calls Tryz.prog 45 #[v.val] w fun e w' => e = .returned (vClean v).val ∧ Touch (fun _ => False) w w' := by
  obtain ⟨k, n, f, s⟩ := v
  have HB : Hid (∀ w, Calls Tryz.prog 69 #[.float .f64 f] w fun e w' => e = .returned (.float .f64 (refBits f)) ∧ w' = w) := v_oneNaN f
  simp only [V.val, vClean] at *
  generalize refBits f = g at *
  have h2 := run_store_f64 Tryz.prog
  go_enter Tryz.func45, Tryz.ntmps45
  go_wp2_with fail
  refine (HB.out _).mono ?_
  rintro e w1 ⟨rfl, rfl⟩
  go_wp2_with fail
  refine bodyPost_ret (v := .agg #[.int .i64 k, .int .i64 n, .float .f64 g, .string s]) (by simp [results, Tryz.results45, go_sem]) rfl ⟨rfl, ?_⟩
  first
    | exact ((Touch.refl _ _).alloc _).alloc _
    | exact (((((((Touch.refl _ _).alloc _).alloc _).setCell _ _ (fun h => by simp only at h; omega)).setCell _ _ (fun h => by simp only at h; omega)).setCell _ _ (fun h => by simp only at h; omega)).setCell _ _ (fun h => by simp only at h; omega)).setCell _ _ (fun h => by simp only at h; omega)
end Go.Proofs.YtphcnjbiojdalaaGreatDoor

/- Arithmetic of bytes and words as the walks spell it. They speak of no program. -/
namespace Go.Proofs.YtphcnjbiojdalaaGreatDoor
open Go.RowKit
set_option linter.unusedVariables false

theorem u8_low7 (b : UInt8) : bits .andNot .u8 (b.toNat : Int) 128 = ((b.toNat % 128 : Nat) : Int) := by
  have h : ∀ x : Fin 256, bits .andNot .u8 ((x : Nat) : Int) 128 = ((x % 128 : Nat) : Int) := by decide +kernel
  exact h ⟨b.toNat, b.toNat_lt⟩

theorem wrap_u64_small (n : Int) (h0 : 0 ≤ n) (h : n < 18446744073709551616) : IntKind.u64.wrap n = n := by
  rw [IntKind.wrap_u64]; omega

/-- A number of m bits, and one behind it. -/
theorem u64_join (a c m : Nat) (ha : a < 2 ^ m) (hc : c * 2 ^ m + a < 18446744073709551616) : bits .or .u64 (a : Int) (IntKind.u64.wrap ((c : Int) * 2 ^ m)) = ((a + c * 2 ^ m : Nat) : Int) := by
  have e : ((c : Int) * 2 ^ m) = ((c * 2 ^ m : Nat) : Int) := by push_cast; rfl
  rw [e, wrap_u64_small _ (by omega) (by omega), u64_or_nat _ _ (by omega) (by omega), Nat.or_comm, ← Nat.shiftLeft_eq, ← Nat.shiftLeft_add_eq_or_of_lt ha, Nat.add_comm]

theorem num_step (b : UInt8) (k N : Nat) (hk : k ≤ 8) (hN : N < 2 ^ (7 * k)) :
    bits .or .u64 (N : Int) (IntKind.u64.wrap (IntKind.u64.wrap (bits .andNot .u8 (b.toNat : Int) 128) * 2 ^ (7 * k))) = ((N + b.toNat % 128 * 2 ^ (7 * k) : Nat) : Int) ∧ N + b.toNat % 128 * 2 ^ (7 * k) < 2 ^ (7 * (k + 1)) := by
  have h1 : b.toNat % 128 < 128 := Nat.mod_lt _ (by decide)
  have h2 : N + b.toNat % 128 * 2 ^ (7 * k) < 2 ^ (7 * (k + 1)) := by
    have : 2 ^ (7 * (k + 1)) = 128 * 2 ^ (7 * k) := by rw [show 7 * (k + 1) = 7 * k + 7 from by omega, Nat.pow_add]; omega
    have : (b.toNat % 128 + 1) * 2 ^ (7 * k) ≤ 128 * 2 ^ (7 * k) := Nat.mul_le_mul_right _ (by omega)
    rw [Nat.add_mul] at this; omega
  have h3 : 2 ^ (7 * (k + 1)) ≤ 2 ^ 63 := Nat.pow_le_pow_right (by decide) (by omega)
  refine ⟨?_, h2⟩
  rw [u8_low7, wrap_u64_small (b.toNat % 128 : Nat) (by omega) (by omega)]
  exact u64_join _ _ _ hN (by have : (2:Nat) ^ 63 = 9223372036854775808 := by decide
                              omega)

theorem num_last (b : UInt8) (N : Nat) (hb : b.toNat ≤ 1) (hN : N < 2 ^ (7 * 9)) :
    bits .or .u64 (N : Int) (IntKind.u64.wrap (IntKind.u64.wrap (bits .andNot .u8 (b.toNat : Int) 128) * 9223372036854775808)) = ((N + b.toNat * 2 ^ (7 * 9) : Nat) : Int) ∧ N + b.toNat * 2 ^ (7 * 9) < 18446744073709551616 := by
  have e : (7 * 9) = 63 := rfl
  rw [e] at *
  have h63 : (2:Nat) ^ 63 = 9223372036854775808 := by decide
  have hs : N + b.toNat * 2 ^ 63 < 18446744073709551616 := by rw [h63] at *; omega
  refine ⟨?_, hs⟩
  rw [u8_low7, Nat.mod_eq_of_lt (by omega), wrap_u64_small (b.toNat : Nat) (by omega) (by omega)]
  have := u64_join N b.toNat 63 hN (by omega)
  rw [show ((2 : Int) ^ 63) = 9223372036854775808 from by decide] at this
  exact this

/-- The number whose sign stands in the lowest bit. -/
def zz (v : Nat) : Int := if v % 2 = 0 then (v / 2 : Nat) else -((v / 2 : Nat) : Int) - 1

theorem wrap64_small (n : Int) (h0 : -9223372036854775808 ≤ n) (h1 : n < 9223372036854775808) : wrap64 n = n := by
  rw [wrap64]; omega

theorem i64_xor_zero (a : Nat) (h : a < 9223372036854775808) : bits .xor .i64 (a : Int) 0 = a := by
  show IntKind.i64.wrap ((BitVec.ofInt 64 (a : Int) ^^^ BitVec.ofInt 64 0).toNat : Int) = _
  have e : BitVec.ofInt 64 0 = 0#64 := by decide
  rw [e, BitVec.xor_zero, ofInt_u64 a (by omega), IntKind.wrap_i64]; omega
theorem i64_xor_ones (a : Nat) (h : a < 9223372036854775808) : bits .xor .i64 (a : Int) (-1) = -(a : Int) - 1 := by
  show IntKind.i64.wrap ((BitVec.ofInt 64 (a : Int) ^^^ BitVec.ofInt 64 (-1)).toNat : Int) = _
  have e : BitVec.ofInt 64 (-1) = BitVec.allOnes 64 := by decide
  rw [e, BitVec.xor_allOnes, BitVec.toNat_not, ofInt_u64 a (by omega), IntKind.wrap_i64]; omega

theorem u64_and_one (v : Nat) (h : v < 18446744073709551616) : bits .and .u64 (v : Int) 1 = ((v % 2 : Nat) : Int) := by
  have := u64_and_nat v 1 h (by decide)
  rw [Nat.and_one_is_mod] at this
  exact this

theorem zz_eq (v : Nat) (h : v ≤ 18446744073709551615) : bits .xor .i64 ((v : Int) / 2) (wrap64 (-wrap64 (bits .and .u64 (v : Int) 1))) = zz v := by
  rw [u64_and_one v (by omega)]
  have e : ((v : Int) / 2) = ((v / 2 : Nat) : Int) := by omega
  rw [e]
  unfold zz
  by_cases h2 : v % 2 = 0
  · rw [if_pos h2, h2, wrap64_small ((0 : Nat) : Int) (by omega) (by omega), wrap64_small _ (by omega) (by omega)]
    exact i64_xor_zero _ (by omega)
  · rw [if_neg h2, show v % 2 = 1 from by omega, wrap64_small ((1 : Nat) : Int) (by omega) (by omega), wrap64_small _ (by omega) (by omega)]
    exact i64_xor_ones _ (by omega)
end Go.Proofs.YtphcnjbiojdalaaGreatDoor

/- An operation: its fields, as a value, as a block. -/
namespace Go.Proofs.YtphcnjbiojdalaaGreatDoor
open Go.RowKit
set_option linter.unusedVariables false
set_option maxRecDepth 100000

structure O where
  c : Int
  k : Int
  kind : Int
  st : Int
  lc : Int
  lk : Int
  rc : Int
  rk : Int
  tx : ByteArray
  vk : Int
  vn : Int
  vf : Nat
  vs : ByteArray
  ky : ByteArray
  pc : Int
  pk : Int
  fc : Int
  fk : Int
  fa : Bool
  tc : Int
  tk : Int
  ta : Bool
abbrev O.vals (o : O) : Array Value := #[.int .u64 o.c, .int .u64 o.k, .int .i64 o.kind, .int .u64 o.st, .int .u64 o.lc, .int .u64 o.lk, .int .u64 o.rc, .int .u64 o.rk, .string o.tx, .int .i64 o.vk, .int .i64 o.vn, .float .f64 o.vf, .string o.vs, .string o.ky, .int .u64 o.pc, .int .u64 o.pk, .int .u64 o.fc, .int .u64 o.fk, .bool o.fa, .int .u64 o.tc, .int .u64 o.tk, .bool o.ta]
abbrev O.val (o : O) : Value := .agg o.vals
abbrev opO (o : O) : Obj := .cells o.vals 31
def O.v (o : O) : V := ⟨o.vk, o.vn, o.vf, o.vs⟩
/-- Its clocks. -/
def lenO (o : O) : Nat := if o.kind = 1 then (rsOf o.tx.data.toList).length else 1
/-- What is so of every operation that comes in. -/
structure O.fits (o : O) : Prop where
  c0 : 0 ≤ o.c ∧ o.c < 18446744073709551616
  k0 : 0 ≤ o.k ∧ o.k < 18446744073709551616
  kind : -9223372036854775808 ≤ o.kind ∧ o.kind < 9223372036854775808
  st : 0 ≤ o.st ∧ o.st < 18446744073709551616
  lc : 0 ≤ o.lc ∧ o.lc < 18446744073709551616
  lk : 0 ≤ o.lk ∧ o.lk < 18446744073709551616
  rc : 0 ≤ o.rc ∧ o.rc < 18446744073709551616
  rk : 0 ≤ o.rk ∧ o.rk < 18446744073709551616
  pc : 0 ≤ o.pc ∧ o.pc < 18446744073709551616
  pk : 0 ≤ o.pk ∧ o.pk < 18446744073709551616
  fc : 0 ≤ o.fc ∧ o.fc < 18446744073709551616
  fk : 0 ≤ o.fk ∧ o.fk < 18446744073709551616
  tc : 0 ≤ o.tc ∧ o.tc < 18446744073709551616
  tk : 0 ≤ o.tk ∧ o.tk < 18446744073709551616
  vk : -9223372036854775808 ≤ o.vk ∧ o.vk < 9223372036854775808
  vn : -9223372036854775808 ≤ o.vn ∧ o.vn < 9223372036854775808
  vf : o.vf < 18446744073709551616
theorem lenO_text {o : O} (h : o.kind = 1) : lenO o = (rsOf o.tx.data.toList).length := by unfold lenO; rw [if_pos h]
theorem lenO_other {o : O} (h : ¬ o.kind = 1) : lenO o = 1 := by unfold lenO; rw [if_neg h]

set_option maxHeartbeats 400000 in
theorem ops_len (o : O) (hs : o.tx.size ≤ 4611686018427387904) (w : World) (hU : TabsU w) : Calls Tryz.prog 17 #[o.val] w fun e w' => e = .returned (.int .i64 (lenO o : Int)) ∧ Touch (fun _ => False) w w' := by
  have HL : Hid (∀ W, Touch (fun _ => False) w W → Calls Tryz.prog 49 #[.string o.tx] W fun e w' => e = .returned (.int .i64 ((rsOf o.tx.data.toList).length : Int)) ∧ Touch (fun _ => False) W w') := fun W t => utf_len o.tx hs W (hU.keep t)
  clear hs hU
  by_cases hk : o.kind = 1
  · have HE : Hid (lenO o = (rsOf o.tx.data.toList).length) := lenO_text hk
    have hkb : (o.kind == 1) = true := by simpa using hk
    clear hk
    go_enter Tryz.func17, Tryz.ntmps17
    go_wp2_with fail
    refine (HL.out _ ((Touch.refl _ _).alloc _)).mono ?_
    rintro e w1 ⟨rfl, t⟩
    have HT : Hid (Touch (fun _ => False) w w1) := ((Touch.refl _ _).alloc _).trans t
    clear t HL
    go_wp2_with fail
    go_ret
    exact ⟨by rw [HE.out]; rfl, HT.out⟩
  · have HE : Hid (lenO o = 1) := lenO_other hk
    have hkb : (o.kind == 1) = false := by simpa using hk
    clear hk HL
    go_enter Tryz.func17, Tryz.ntmps17
    go_wp2_with fail
    go_ret
    exact ⟨by rw [HE.out]; rfl, (Touch.refl _ _).alloc _⟩
set_option maxHeartbeats 400000 in
theorem ref_lenO (o : O) (hs : o.tx.size ≤ 17592186044416) (w : World) : Calls Tryz.prog 13 #[o.val] w fun e w' => e = .returned (.int .i64 (lenO o : Int)) ∧ Touch (fun _ => False) w w' := by
  have HL : Hid (∀ W, Calls Tryz.prog 32 #[.string o.tx] W fun e w' => e = .returned (.int .i64 ((rsOf o.tx.data.toList).length : Int)) ∧ Touch (fun _ => False) W w') := fun W => ref_len o.tx hs W
  clear hs
  by_cases hk : o.kind = 1
  · have HE : Hid (lenO o = (rsOf o.tx.data.toList).length) := lenO_text hk
    have hkb : (o.kind == 1) = true := by simpa using hk
    clear hk
    go_enter Tryz.func13, Tryz.ntmps13
    go_wp2_with fail
    refine (HL.out _).mono ?_
    rintro e w1 ⟨rfl, t⟩
    have HT : Hid (Touch (fun _ => False) w w1) := ((Touch.refl _ _).alloc _).trans t
    clear t HL
    go_wp2_with fail
    go_ret
    exact ⟨by rw [HE.out]; rfl, HT.out⟩
  · have HE : Hid (lenO o = 1) := lenO_other hk
    have hkb : (o.kind == 1) = false := by simpa using hk
    clear hk HL
    go_enter Tryz.func13, Tryz.ntmps13
    go_wp2_with fail
    go_ret
    exact ⟨by rw [HE.out]; rfl, (Touch.refl _ _).alloc _⟩
end Go.Proofs.YtphcnjbiojdalaaGreatDoor
