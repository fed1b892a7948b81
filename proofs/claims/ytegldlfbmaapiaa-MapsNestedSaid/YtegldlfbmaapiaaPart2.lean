/- Contracts of the small functions of ids: right numbers and ranges, the order of ids, picks. -/
import Derived.Test.YtegldlfbmaapiaaChecked
import Derived.Test.YtegldlfbmaapiaaPart1
import Derived.Test.YtegldlfbmaapiaaIdM
import Derived.BigRegion
import Derived.Sort.Grow
import Derived.Deep.Draws
namespace Go.Proofs.Ytegldlfbmaapiaa
open Go.RowKit
set_option linter.unusedVariables false
set_option linter.unusedSimpArgs false
set_option maxRecDepth 100000

/-- w' is w, new blocks and draws aside. -/
def Grows (w w' : World) : Prop := ∃ q os, w' = Sort.grow (w.drewN q) os
theorem Grows.refl (w : World) : Grows w w := ⟨0, #[], by unfold Sort.grow; rw [Array.append_empty]; rfl⟩
theorem Grows.trans {a b c : World} (h : Grows a b) (k : Grows b c) : Grows a c := by
  obtain ⟨q, os, rfl⟩ := h
  obtain ⟨p, ot, rfl⟩ := k
  exact ⟨q + p, os ++ ot, by simp only [Sort.grow, World.drewN, Nat.add_assoc, Array.append_assoc]⟩
theorem Grows.alloc {a b : World} (h : Grows a b) (o : Obj) : Grows a (b.alloc o) :=
  h.trans ⟨0, #[o], by rw [show b.drewN 0 = b from rfl]; exact Sort.alloc_eq_grow b o⟩
theorem Grows.drew {a b : World} (h : Grows a b) : Grows a b.drew := h.trans ⟨1, #[], by unfold Sort.grow; rw [Array.append_empty]; rfl⟩
theorem Grows.touch {a b : World} (h : Grows a b) : Touch (fun _ => False) a b := by
  obtain ⟨q, os, rfl⟩ := h
  refine ⟨rfl, rfl, rfl, by simp [Sort.grow, World.drewN], fun k hk _ => ?_⟩
  simp only [Sort.grow, World.drewN]
  exact Array.getElem?_append_left hk

abbrev u64 (x : Int) : Value := .int .u64 x
abbrev rgV (r : Rg) : Value := .agg #[.int .u64 r.c, .int .u64 r.f, .int .u64 r.t]
abbrev tnV (r : Tn) : Value := .agg #[.int .u64 r.c, .int .u64 r.f, .int .u64 r.t, .int .u64 r.n]
abbrev idV (c k : Int) : Value := .agg #[.int .u64 c, .int .u64 k]
abbrev rgO (r : Rg) : Obj := .cells #[.int .u64 r.c, .int .u64 r.f, .int .u64 r.t] 54
abbrev idO (c k : Int) : Obj := .cells #[.int .u64 c, .int .u64 k] 34

set_option maxHeartbeats 400000 in
theorem rightNumber_any (x : Int) (w : World) : Calls Try.prog 45 #[u64 x] w fun e w' => e = .returned (.bool (numOk x)) ∧ w' = w := by
  unfold numOk
  by_cases h1 : 1 ≤ x
  · by_cases h2 : x ≤ 9007199254740991
    · go_enter Try.func45, Try.ntmps45
      go_wp2_with fail
      go_ret
      exact ⟨by simp [h1, h2], rfl⟩
    · go_enter Try.func45, Try.ntmps45
      go_wp2_with fail
      go_ret
      exact ⟨by simp [h1, h2], rfl⟩
  · go_enter Try.func45, Try.ntmps45
    go_wp2_with fail
    go_ret
    exact ⟨by simp; omega, rfl⟩

set_option maxHeartbeats 800000 in
theorem rightRange_any (r : Rg) (w : World) : Calls Try.prog 42 #[rgV r] w fun e w' => e = .returned (.bool r.ok) ∧ w' = w.alloc (rgO r) := by
  have hn := fun W => rightNumber_any r.c W
  obtain ⟨c, f, t⟩ := r
  unfold Rg.ok
  simp only at hn ⊢
  generalize numOk c = b at hn ⊢
  cases b with
  | false =>
    go_enter Try.func42, Try.ntmps42
    go_wp2_with (go_at_call 45; refine (hn _).mono ?_; rintro e w' ⟨rfl, rfl⟩)
    go_ret
    exact ⟨by simp, rfl⟩
  | true =>
    by_cases h1 : 1 ≤ f
    · by_cases h2 : f < t
      · by_cases h3 : t ≤ 9007199254740992
        · go_enter Try.func42, Try.ntmps42
          go_wp2_with (go_at_call 45; refine (hn _).mono ?_; rintro e w' ⟨rfl, rfl⟩)
          go_ret
          exact ⟨by simp; omega, rfl⟩
        · go_enter Try.func42, Try.ntmps42
          go_wp2_with (go_at_call 45; refine (hn _).mono ?_; rintro e w' ⟨rfl, rfl⟩)
          go_ret
          exact ⟨by simp [h1, h2, h3], rfl⟩
      · go_enter Try.func42, Try.ntmps42
        go_wp2_with (go_at_call 45; refine (hn _).mono ?_; rintro e w' ⟨rfl, rfl⟩)
        go_ret
        exact ⟨by simp; omega, rfl⟩
    · go_enter Try.func42, Try.ntmps42
      go_wp2_with (go_at_call 45; refine (hn _).mono ?_; rintro e w' ⟨rfl, rfl⟩)
      go_ret
      exact ⟨by simp; omega, rfl⟩

set_option maxHeartbeats 800000 in
theorem within_any (r : Rg) (c k : Int) (w : World) : Calls Try.prog 77 #[rgV r, idV c k] w fun e w' => e = .returned (.bool (r.has c k)) ∧ w' = (w.alloc (rgO r)).alloc (idO c k) := by
  obtain ⟨a, f, t⟩ := r
  unfold Rg.has
  simp only
  by_cases h1 : a = c
  · subst h1
    by_cases h2 : f ≤ k
    · by_cases h3 : k < t
      · go_enter Try.func77, Try.ntmps77
        go_wp2_with fail
        go_ret
        exact ⟨by simp; try omega, rfl⟩
      · go_enter Try.func77, Try.ntmps77
        go_wp2_with fail
        go_ret
        exact ⟨by simp; try omega, rfl⟩
    · go_enter Try.func77, Try.ntmps77
      go_wp2_with fail
      go_ret
      exact ⟨by simp; try omega, rfl⟩
  · go_enter Try.func77, Try.ntmps77
    go_wp2_with fail
    go_ret
    exact ⟨by simp [h1], rfl⟩

def lessI (a b c d : Int) : Bool := if a = c then decide (b < d) else decide (a < c)
set_option maxHeartbeats 800000 in
theorem less_any (a b c d : Int) (w : World) : Calls Try.prog 70 #[idV a b, idV c d] w fun e w' => e = .returned (.bool (lessI a b c d)) ∧ w' = (w.alloc (idO a b)).alloc (idO c d) := by
  unfold lessI
  by_cases h1 : a = c
  · subst h1
    rw [if_pos rfl]
    go_enter Try.func70, Try.ntmps70
    go_wp2_with fail
    go_ret
    exact ⟨rfl, rfl⟩
  · rw [if_neg h1]
    go_enter Try.func70, Try.ntmps70
    go_wp2_with fail
    go_ret
    exact ⟨rfl, rfl⟩

set_option maxHeartbeats 800000 in
theorem right_any (c k : Int) (w : World) : Calls Try.prog 21 #[idV c k] w fun e w' => e = .returned (.bool (numOk c && numOk k)) ∧ w' = w.alloc (idO c k) := by
  have hc := fun W => rightNumber_any c W
  have hk := fun W => rightNumber_any k W
  generalize numOk c = b at hc ⊢
  generalize numOk k = d at hk ⊢
  cases b with
  | false =>
    go_enter Try.func21, Try.ntmps21
    go_wp2_with (go_at_call 45; refine (hc _).mono ?_; rintro e w' ⟨rfl, rfl⟩)
    go_ret
    exact ⟨by simp, rfl⟩
  | true =>
    go_enter Try.func21, Try.ntmps21
    go_wp2_with (go_at_call 45; first | (refine (hc _).mono ?_; rintro e w' ⟨rfl, rfl⟩) | (refine (hk _).mono ?_; rintro e w' ⟨rfl, rfl⟩))
    go_ret
    exact ⟨by simp, rfl⟩

def ifAb (x y : Int) : Int := if y < x then x else 0
end Go.Proofs.Ytegldlfbmaapiaa

/- An operation: its fields, as a value, as a block (OpM's first part alone, for seats whose road has no package ops). -/
namespace Go.Proofs.Ytegldlfbmaapiaa
open Go.RowKit
set_option linter.unusedVariables false
set_option maxRecDepth 100000

structure O where
  c : Int
  k : Int
  kind : Int
  st : Int
  lc : Int
  lk : Int
  rc : Int
  rk : Int
  tx : ByteArray
  vk : Int
  vn : Int
  vf : Nat
  vs : ByteArray
  ky : ByteArray
  pc : Int
  pk : Int
  fc : Int
  fk : Int
  fa : Bool
  tc : Int
  tk : Int
  ta : Bool
abbrev O.vals (o : O) : Array Value := #[.int .u64 o.c, .int .u64 o.k, .int .i64 o.kind, .int .u64 o.st, .int .u64 o.lc, .int .u64 o.lk, .int .u64 o.rc, .int .u64 o.rk, .string o.tx, .int .i64 o.vk, .int .i64 o.vn, .float .f64 o.vf, .string o.vs, .string o.ky, .int .u64 o.pc, .int .u64 o.pk, .int .u64 o.fc, .int .u64 o.fk, .bool o.fa, .int .u64 o.tc, .int .u64 o.tk, .bool o.ta]
abbrev O.val (o : O) : Value := .agg o.vals
abbrev opO (o : O) : Obj := .cells o.vals 41
/-- What is so of every operation that comes in. -/
structure O.fits (o : O) : Prop where
  c0 : 0 ≤ o.c ∧ o.c < 18446744073709551616
  k0 : 0 ≤ o.k ∧ o.k < 18446744073709551616
  kind : -9223372036854775808 ≤ o.kind ∧ o.kind < 9223372036854775808
  st : 0 ≤ o.st ∧ o.st < 18446744073709551616
  lc : 0 ≤ o.lc ∧ o.lc < 18446744073709551616
  lk : 0 ≤ o.lk ∧ o.lk < 18446744073709551616
  rc : 0 ≤ o.rc ∧ o.rc < 18446744073709551616
  rk : 0 ≤ o.rk ∧ o.rk < 18446744073709551616
  pc : 0 ≤ o.pc ∧ o.pc < 18446744073709551616
  pk : 0 ≤ o.pk ∧ o.pk < 18446744073709551616
  fc : 0 ≤ o.fc ∧ o.fc < 18446744073709551616
  fk : 0 ≤ o.fk ∧ o.fk < 18446744073709551616
  tc : 0 ≤ o.tc ∧ o.tc < 18446744073709551616
  tk : 0 ≤ o.tk ∧ o.tk < 18446744073709551616
  vk : -9223372036854775808 ≤ o.vk ∧ o.vk < 9223372036854775808
  vn : -9223372036854775808 ≤ o.vn ∧ o.vn < 9223372036854775808
  vf : o.vf < 18446744073709551616
end Go.Proofs.Ytegldlfbmaapiaa
