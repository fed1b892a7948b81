/- quirelaw9: id; a sequence with boxes beside it. -/
import Derived.Test.YtnbphdmpbjahhaaSeqW6
import Derived.WalkKit
import Derived.Laws.BitsAllLaws
namespace Go.Proofs.Ytnbphdmpbjahhaa
open Go.RowKit
set_option linter.unusedVariables false
set_option linter.unusedSimpArgs false
set_option maxRecDepth 100000

set_option maxHeartbeats 2000000 in
theorem id_any (a b : Int) (w : World) : Calls Try.prog 15 #[u64 a, u64 b] w fun e w' => e = .returned (.agg #[u64 a, u64 b]) ∧ Touch (fun _ => False) w w' := by
  go_enter Try.func15, Try.ntmps15
  go_wp2_with fail
  refine bodyPost_ret (v := .agg #[u64 a, u64 b]) (by simp [results, Try.results15, go_sem]) rfl ?_
  exact ⟨rfl, (Touch.refl _ _).alloc _⟩
/-- A sequence at p, made since w0, with boxes X beside it that are none of its own. -/
def Kn (w0 w : World) (p : Nat) (X : List (Nat × Obj)) (S : SS) : Prop :=
  Inv S ∧ Touch (fun _ => False) w0 w ∧ (∀ x ∈ X, w.heap[x.1]? = some x.2) ∧ ∃ B, B.b = p ∧ SeqM w B S ∧ (∀ k, B.has k → w0.heap.size ≤ k) ∧ ∀ x ∈ X, ¬ B.has x.1
theorem Kn.touch {w0 w w' : World} {p : Nat} {X : List (Nat × Obj)} {S : SS} (h : Kn w0 w p X S) (t : Touch (fun _ => False) w w') : Kn w0 w' p X S := by
  obtain ⟨a, b, c, B, d, e, f, g⟩ := h
  exact ⟨a, b.trans t, fun x hx => heap_keep t (c x hx), B, d, e.keep0 t, f, g⟩
theorem Kn.step {w0 w w' : World} {p : Nat} {X : List (Nat × Obj)} {S' : SS} {B : Bk} (h1 : Touch (fun _ => False) w0 w) (h2 : ∀ x ∈ X, w.heap[x.1]? = some x.2) (hb : B.b = p) (h4 : ∀ k, B.has k → w0.heap.size ≤ k) (h5 : ∀ x ∈ X, ¬ B.has x.1) (l : Laid w w' B S') (hI : Inv S') : Kn w0 w' p X S' := by
  obtain ⟨B', a, b, c, d⟩ := l
  refine ⟨hI, h1.then d fun k hk e => ?_, fun x hx => ?_, B', b.trans hb, a, fun k hk => ?_, fun x hx e => ?_⟩
  · have := h4 k e
    omega
  · have := h2 x hx
    exact (d.block _ (lt_of_heap this) (h5 x hx)).trans this
  · rcases c k hk with e | e
    · exact h4 k e
    · exact Nat.le_trans h1.size e
  · rcases c _ e with e | e
    · exact h5 x hx e
    · have := lt_of_heap (h2 x hx)
      omega
/-- A new box beside it. -/
theorem Kn.box {w0 w : World} {p : Nat} {X : List (Nat × Obj)} {S : SS} (h : Kn w0 w p X S) (o : Obj) : Kn w0 (w.alloc o) p ((w.heap.size, o) :: X) S := by
  obtain ⟨a, b, c, B, d, e, f, g⟩ := h
  have t := (Touch.refl (fun _ => False) w).alloc o
  refine ⟨a, b.alloc _, fun x hx => ?_, B, d, e.keep0 t, f, fun x hx hb => ?_⟩
  · rcases List.mem_cons.1 hx with rfl | hx
    · exact heap_alloc_new w o
    · exact heap_keep t (c x hx)
  · rcases List.mem_cons.1 hx with rfl | hx
    · have : w.heap.size < w.heap.size := e.lt hb
      omega
    · exact g x hx hb
/-- A box laid anew. -/
theorem Kn.set {w0 w w' : World} {p k : Nat} {X : List (Nat × Obj)} {S : SS} {o o' : Obj} (h : Kn w0 w p ((k, o) :: X) S) (hk : w0.heap.size ≤ k) (hX : ∀ x ∈ X, x.1 ≠ k) (t : Touch (fun y => y = k) w w') (hn : w'.heap[k]? = some o') : Kn w0 w' p ((k, o') :: X) S := by
  obtain ⟨a, b, c, B, d, e, f, g⟩ := h
  refine ⟨a, b.then t fun y hy ey => by omega, fun x hx => ?_, B, d, e.keep t fun y hy ey => ?_, f, fun x hx => ?_⟩
  · rcases List.mem_cons.1 hx with rfl | hx
    · exact hn
    · have hc := c x (by simp [hx])
      exact (t.block _ (lt_of_heap hc) (hX x hx)).trans hc
  · exact g (k, o) (by simp) (by rw [← ey]; exact hy)
  · rcases List.mem_cons.1 hx with rfl | hx
    · exact g (k, o) (by simp)
    · exact g x (by simp [hx])
abbrev sQ (p : Nat) : Value := .pointer (some ⟨p, 0, none⟩)
theorem Kn.new (w : World) : Calls Try.prog 10 #[] w fun e w' => ∃ p, e = .returned (sQ p) ∧ Kn w w' p [] .new := by
  refine (new_any w).mono ?_
  rintro e w' ⟨B, rfl, a, b, c⟩
  exact ⟨B.b, rfl, Inv.new, c, (fun x hx => (List.not_mem_nil hx).elim), B, rfl, a, b, (fun x hx => (List.not_mem_nil hx).elim)⟩
theorem Kn.run {w0 w : World} {p : Nat} {X : List (Nat × Obj)} {S : SS} (h : Kn w0 w p X S) (u : Un) (hu : u.ok) (n : Int) (m : Nat) (hn : n ≤ m) (hn2 : -1152921504606846976 ≤ n) (hm : 1 ≤ m) (hR : Room S m) :
    Calls Try.prog 11 #[sQ p, .agg #[u64 (u).c, u64 (u).k, u64 (u).lc, u64 (u).lk, u64 (u).rc, u64 (u).rk], iV n] w fun e w' => e = .returned (.bool (S.may u n)) ∧ Kn w0 w' p X (S.run u n) := by
  obtain ⟨a, b, c, B, rfl, e, f, g⟩ := h
  refine (e.run a u hu n m hn hn2 hm hR).mono ?_
  rintro e' w' ⟨rfl, l⟩
  have h1 := hR.tot
  have h2 := hR.pcs
  have h3 := hR.runs
  exact ⟨rfl, Kn.step b c rfl f g l (a.runI hu (fun _ => by omega) (by omega) (by omega)).1⟩
theorem Kn.insert {w0 w : World} {p : Nat} {X : List (Nat × Obj)} {S : SS} (h : Kn w0 w p X S) (u : Un) (hu : u.ok) (hR : Room S 1) :
    Calls Try.prog 14 #[sQ p, .agg #[u64 (u).c, u64 (u).k, u64 (u).lc, u64 (u).lk, u64 (u).rc, u64 (u).rk]] w fun e w' => e = .returned (.bool (S.may u 1)) ∧ Kn w0 w' p X (S.run u 1) := by
  obtain ⟨a, b, c, B, rfl, e, f, g⟩ := h
  refine (insert_any e a u hu hR).mono ?_
  rintro e' w' ⟨rfl, l⟩
  have h1 := hR.tot
  have h2 := hR.pcs
  have h3 := hR.runs
  exact ⟨rfl, Kn.step b c rfl f g l (a.runI hu (fun _ => by omega) (by omega) (by omega)).1⟩
theorem Kn.find {w0 w : World} {p : Nat} {X : List (Nat × Obj)} {S : SS} (h : Kn w0 w p X S) (c k : Int) (hc : 0 ≤ c) (hk : 0 ≤ k ∧ k < 18446744073709551616) :
    Calls Try.prog 19 #[sQ p, .agg #[u64 c, u64 k]] w fun e w' => e = .returned (iV (S.find c k)) ∧ Kn w0 w' p X S := by
  have hK := h
  obtain ⟨a, b, _, B, rfl, e, f, g⟩ := h
  exact (find_any e a c k hc hk.1 hk.2).mono fun e' w' q => ⟨q.1, hK.touch q.2⟩
theorem Kn.len {w0 w : World} {p : Nat} {X : List (Nat × Obj)} {S : SS} (h : Kn w0 w p X S) :
    Calls Try.prog 20 #[sQ p] w fun e w' => e = .returned (iV S.total) ∧ Kn w0 w' p X S := by
  have hK := h
  obtain ⟨a, b, _, B, rfl, e, f, g⟩ := h
  exact (len_any e).mono fun e' w' q => ⟨q.1, hK.touch q.2⟩
theorem Kn.at {w0 w : World} {p : Nat} {X : List (Nat × Obj)} {S : SS} (h : Kn w0 w p X S) (i : Int) (hi : -4611686018427387904 ≤ i ∧ i ≤ 4611686018427387904) :
    Calls Try.prog 21 #[sQ p, iV i] w fun e w' => e = .returned (.tuple #[.agg #[u64 ((S.at_ i).1).c, u64 ((S.at_ i).1).k, u64 ((S.at_ i).1).lc, u64 ((S.at_ i).1).lk, u64 ((S.at_ i).1).rc, u64 ((S.at_ i).1).rk], .bool (S.at_ i).2]) ∧ Kn w0 w' p X S := by
  have hK := h
  obtain ⟨a, b, _, B, rfl, e, f, g⟩ := h
  exact (at_any2 e a i hi).mono fun e' w' q => ⟨q.1, hK.touch q.2⟩
theorem Kn.id {w0 w : World} {p : Nat} {X : List (Nat × Obj)} {S : SS} (h : Kn w0 w p X S) (a b : Int) : Calls Try.prog 15 #[u64 a, u64 b] w fun e w' => e = .returned (.agg #[u64 a, u64 b]) ∧ Kn w0 w' p X S :=
  (id_any a b w).mono fun e' w' q => ⟨q.1, h.touch q.2⟩
end Go.Proofs.Ytnbphdmpbjahhaa

/- Arithmetic of bytes and words as the walks spell it. They speak of no program. -/
namespace Go.Proofs.Ytnbphdmpbjahhaa
open Go.RowKit
set_option linter.unusedVariables false

theorem u8_low7 (b : UInt8) : bits .andNot .u8 (b.toNat : Int) 128 = ((b.toNat % 128 : Nat) : Int) := by
  have h : ∀ x : Fin 256, bits .andNot .u8 ((x : Nat) : Int) 128 = ((x % 128 : Nat) : Int) := by decide +kernel
  exact h ⟨b.toNat, b.toNat_lt⟩

theorem wrap_u64_small (n : Int) (h0 : 0 ≤ n) (h : n < 18446744073709551616) : IntKind.u64.wrap n = n := by
  rw [IntKind.wrap_u64]; omega

/-- A number of m bits, and one behind it. -/
theorem u64_join (a c m : Nat) (ha : a < 2 ^ m) (hc : c * 2 ^ m + a < 18446744073709551616) : bits .or .u64 (a : Int) (IntKind.u64.wrap ((c : Int) * 2 ^ m)) = ((a + c * 2 ^ m : Nat) : Int) := by
  have e : ((c : Int) * 2 ^ m) = ((c * 2 ^ m : Nat) : Int) := by push_cast; rfl
  rw [e, wrap_u64_small _ (by omega) (by omega), u64_or_nat _ _ (by omega) (by omega), Nat.or_comm, ← Nat.shiftLeft_eq, ← Nat.shiftLeft_add_eq_or_of_lt ha, Nat.add_comm]

theorem num_step (b : UInt8) (k N : Nat) (hk : k ≤ 8) (hN : N < 2 ^ (7 * k)) :
    bits .or .u64 (N : Int) (IntKind.u64.wrap (IntKind.u64.wrap (bits .andNot .u8 (b.toNat : Int) 128) * 2 ^ (7 * k))) = ((N + b.toNat % 128 * 2 ^ (7 * k) : Nat) : Int) ∧ N + b.toNat % 128 * 2 ^ (7 * k) < 2 ^ (7 * (k + 1)) := by
  have h1 : b.toNat % 128 < 128 := Nat.mod_lt _ (by decide)
  have h2 : N + b.toNat % 128 * 2 ^ (7 * k) < 2 ^ (7 * (k + 1)) := by
    have : 2 ^ (7 * (k + 1)) = 128 * 2 ^ (7 * k) := by rw [show 7 * (k + 1) = 7 * k + 7 from by omega, Nat.pow_add]; omega
    have : (b.toNat % 128 + 1) * 2 ^ (7 * k) ≤ 128 * 2 ^ (7 * k) := Nat.mul_le_mul_right _ (by omega)
    rw [Nat.add_mul] at this; omega
  have h3 : 2 ^ (7 * (k + 1)) ≤ 2 ^ 63 := Nat.pow_le_pow_right (by decide) (by omega)
  refine ⟨?_, h2⟩
  rw [u8_low7, wrap_u64_small (b.toNat % 128 : Nat) (by omega) (by omega)]
  exact u64_join _ _ _ hN (by have : (2:Nat) ^ 63 = 9223372036854775808 := by decide
                              omega)

theorem num_last (b : UInt8) (N : Nat) (hb : b.toNat ≤ 1) (hN : N < 2 ^ (7 * 9)) :
    bits .or .u64 (N : Int) (IntKind.u64.wrap (IntKind.u64.wrap (bits .andNot .u8 (b.toNat : Int) 128) * 9223372036854775808)) = ((N + b.toNat * 2 ^ (7 * 9) : Nat) : Int) ∧ N + b.toNat * 2 ^ (7 * 9) < 18446744073709551616 := by
  have e : (7 * 9) = 63 := rfl
  rw [e] at *
  have h63 : (2:Nat) ^ 63 = 9223372036854775808 := by decide
  have hs : N + b.toNat * 2 ^ 63 < 18446744073709551616 := by rw [h63] at *; omega
  refine ⟨?_, hs⟩
  rw [u8_low7, Nat.mod_eq_of_lt (by omega), wrap_u64_small (b.toNat : Nat) (by omega) (by omega)]
  have := u64_join N b.toNat 63 hN (by omega)
  rw [show ((2 : Int) ^ 63) = 9223372036854775808 from by decide] at this
  exact this

/-- The number whose sign stands in the lowest bit. -/
def zz (v : Nat) : Int := if v % 2 = 0 then (v / 2 : Nat) else -((v / 2 : Nat) : Int) - 1

theorem wrap64_small (n : Int) (h0 : -9223372036854775808 ≤ n) (h1 : n < 9223372036854775808) : wrap64 n = n := by
  rw [wrap64]; omega

theorem i64_xor_zero (a : Nat) (h : a < 9223372036854775808) : bits .xor .i64 (a : Int) 0 = a := by
  show IntKind.i64.wrap ((BitVec.ofInt 64 (a : Int) ^^^ BitVec.ofInt 64 0).toNat : Int) = _
  have e : BitVec.ofInt 64 0 = 0#64 := by decide
  rw [e, BitVec.xor_zero, ofInt_u64 a (by omega), IntKind.wrap_i64]; omega
theorem i64_xor_ones (a : Nat) (h : a < 9223372036854775808) : bits .xor .i64 (a : Int) (-1) = -(a : Int) - 1 := by
  show IntKind.i64.wrap ((BitVec.ofInt 64 (a : Int) ^^^ BitVec.ofInt 64 (-1)).toNat : Int) = _
  have e : BitVec.ofInt 64 (-1) = BitVec.allOnes 64 := by decide
  rw [e, BitVec.xor_allOnes, BitVec.toNat_not, ofInt_u64 a (by omega), IntKind.wrap_i64]; omega

theorem u64_and_one (v : Nat) (h : v < 18446744073709551616) : bits .and .u64 (v : Int) 1 = ((v % 2 : Nat) : Int) := by
  have := u64_and_nat v 1 h (by decide)
  rw [Nat.and_one_is_mod] at this
  exact this

theorem zz_eq (v : Nat) (h : v ≤ 18446744073709551615) : bits .xor .i64 ((v : Int) / 2) (wrap64 (-wrap64 (bits .and .u64 (v : Int) 1))) = zz v := by
  rw [u64_and_one v (by omega)]
  have e : ((v : Int) / 2) = ((v / 2 : Nat) : Int) := by omega
  rw [e]
  unfold zz
  by_cases h2 : v % 2 = 0
  · rw [if_pos h2, h2, wrap64_small ((0 : Nat) : Int) (by omega) (by omega), wrap64_small _ (by omega) (by omega)]
    exact i64_xor_zero _ (by omega)
  · rw [if_neg h2, show v % 2 = 1 from by omega, wrap64_small ((1 : Nat) : Int) (by omega) (by omega), wrap64_small _ (by omega) (by omega)]
    exact i64_xor_ones _ (by omega)
end Go.Proofs.Ytnbphdmpbjahhaa
