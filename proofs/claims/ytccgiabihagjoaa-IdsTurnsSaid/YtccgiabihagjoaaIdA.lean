/- Contracts of the small functions of ids: right numbers and ranges, the order of ids, picks. -/
import Derived.Test.YtccgiabihagjoaaChecked
import Derived.Test.YtccgiabihagjoaaLib
import Derived.Test.YtccgiabihagjoaaIdM
import Derived.BigRegion
import Derived.Sort.Grow
import Derived.Deep.Draws
namespace Go.Proofs.Ytccgiabihagjoaa
open Go.RowKit
set_option linter.unusedVariables false
set_option linter.unusedSimpArgs false
set_option maxRecDepth 100000

/-- w' is w, new blocks and draws aside. -/
def Grows (w w' : World) : Prop := ∃ q os, w' = Sort.grow (w.drewN q) os
theorem Grows.refl (w : World) : Grows w w := ⟨0, #[], by unfold Sort.grow; rw [Array.append_empty]; rfl⟩
theorem Grows.trans {a b c : World} (h : Grows a b) (k : Grows b c) : Grows a c := by
  obtain ⟨q, os, rfl⟩ := h
  obtain ⟨p, ot, rfl⟩ := k
  exact ⟨q + p, os ++ ot, by simp only [Sort.grow, World.drewN, Nat.add_assoc, Array.append_assoc]⟩
theorem Grows.alloc {a b : World} (h : Grows a b) (o : Obj) : Grows a (b.alloc o) :=
  h.trans ⟨0, #[o], by rw [show b.drewN 0 = b from rfl]; exact Sort.alloc_eq_grow b o⟩
theorem Grows.drew {a b : World} (h : Grows a b) : Grows a b.drew := h.trans ⟨1, #[], by unfold Sort.grow; rw [Array.append_empty]; rfl⟩
theorem Grows.touch {a b : World} (h : Grows a b) : Touch (fun _ => False) a b := by
  obtain ⟨q, os, rfl⟩ := h
  refine ⟨rfl, rfl, rfl, by simp [Sort.grow, World.drewN], fun k hk _ => ?_⟩
  simp only [Sort.grow, World.drewN]
  exact Array.getElem?_append_left hk

abbrev u64 (x : Int) : Value := .int .u64 x
abbrev rgV (r : Rg) : Value := .agg #[.int .u64 r.c, .int .u64 r.f, .int .u64 r.t]
abbrev tnV (r : Tn) : Value := .agg #[.int .u64 r.c, .int .u64 r.f, .int .u64 r.t, .int .u64 r.n]
abbrev idV (c k : Int) : Value := .agg #[.int .u64 c, .int .u64 k]
abbrev rgO (r : Rg) : Obj := .cells #[.int .u64 r.c, .int .u64 r.f, .int .u64 r.t] 41
abbrev tnO (r : Tn) : Obj := .cells #[.int .u64 r.c, .int .u64 r.f, .int .u64 r.t, .int .u64 r.n] 39
abbrev idO (c k : Int) : Obj := .cells #[.int .u64 c, .int .u64 k] 25

set_option maxHeartbeats 400000 in
theorem rightNumber_any (x : Int) (w : World) : Calls Try.prog 41 #[u64 x] w fun e w' => e = .returned (.bool (numOk x)) ∧ w' = w := by
  unfold numOk
  by_cases h1 : 1 ≤ x
  · by_cases h2 : x ≤ 9007199254740991
    · go_enter Try.func41, Try.ntmps41
      go_wp2_with fail
      go_ret
      exact ⟨by simp [h1, h2], rfl⟩
    · go_enter Try.func41, Try.ntmps41
      go_wp2_with fail
      go_ret
      exact ⟨by simp [h1, h2], rfl⟩
  · go_enter Try.func41, Try.ntmps41
    go_wp2_with fail
    go_ret
    exact ⟨by simp; omega, rfl⟩

set_option maxHeartbeats 800000 in
theorem rightRange_any (r : Rg) (w : World) : Calls Try.prog 32 #[rgV r] w fun e w' => e = .returned (.bool r.ok) ∧ w' = w.alloc (rgO r) := by
  have hn := fun W => rightNumber_any r.c W
  obtain ⟨c, f, t⟩ := r
  unfold Rg.ok
  simp only at hn ⊢
  generalize numOk c = b at hn ⊢
  cases b with
  | false =>
    go_enter Try.func32, Try.ntmps32
    go_wp2_with (go_at_call 41; refine (hn _).mono ?_; rintro e w' ⟨rfl, rfl⟩)
    go_ret
    exact ⟨by simp, rfl⟩
  | true =>
    by_cases h1 : 1 ≤ f
    · by_cases h2 : f < t
      · by_cases h3 : t ≤ 9007199254740992
        · go_enter Try.func32, Try.ntmps32
          go_wp2_with (go_at_call 41; refine (hn _).mono ?_; rintro e w' ⟨rfl, rfl⟩)
          go_ret
          exact ⟨by simp; omega, rfl⟩
        · go_enter Try.func32, Try.ntmps32
          go_wp2_with (go_at_call 41; refine (hn _).mono ?_; rintro e w' ⟨rfl, rfl⟩)
          go_ret
          exact ⟨by simp [h1, h2, h3], rfl⟩
      · go_enter Try.func32, Try.ntmps32
        go_wp2_with (go_at_call 41; refine (hn _).mono ?_; rintro e w' ⟨rfl, rfl⟩)
        go_ret
        exact ⟨by simp; omega, rfl⟩
    · go_enter Try.func32, Try.ntmps32
      go_wp2_with (go_at_call 41; refine (hn _).mono ?_; rintro e w' ⟨rfl, rfl⟩)
      go_ret
      exact ⟨by simp; omega, rfl⟩

set_option maxHeartbeats 800000 in
theorem within_any (r : Rg) (c k : Int) (w : World) : Calls Try.prog 24 #[rgV r, idV c k] w fun e w' => e = .returned (.bool (r.has c k)) ∧ w' = (w.alloc (rgO r)).alloc (idO c k) := by
  obtain ⟨a, f, t⟩ := r
  unfold Rg.has
  simp only
  by_cases h1 : a = c
  · subst h1
    by_cases h2 : f ≤ k
    · by_cases h3 : k < t
      · go_enter Try.func24, Try.ntmps24
        go_wp2_with fail
        go_ret
        exact ⟨by simp; try omega, rfl⟩
      · go_enter Try.func24, Try.ntmps24
        go_wp2_with fail
        go_ret
        exact ⟨by simp; try omega, rfl⟩
    · go_enter Try.func24, Try.ntmps24
      go_wp2_with fail
      go_ret
      exact ⟨by simp; try omega, rfl⟩
  · go_enter Try.func24, Try.ntmps24
    go_wp2_with fail
    go_ret
    exact ⟨by simp [h1], rfl⟩

def lessI (a b c d : Int) : Bool := if a = c then decide (b < d) else decide (a < c)
set_option maxHeartbeats 800000 in
theorem less_any (a b c d : Int) (w : World) : Calls Try.prog 51 #[idV a b, idV c d] w fun e w' => e = .returned (.bool (lessI a b c d)) ∧ w' = (w.alloc (idO a b)).alloc (idO c d) := by
  unfold lessI
  by_cases h1 : a = c
  · subst h1
    rw [if_pos rfl]
    go_enter Try.func51, Try.ntmps51
    go_wp2_with fail
    go_ret
    exact ⟨rfl, rfl⟩
  · rw [if_neg h1]
    go_enter Try.func51, Try.ntmps51
    go_wp2_with fail
    go_ret
    exact ⟨rfl, rfl⟩

set_option maxHeartbeats 800000 in
theorem follows_any (a b : Tn) (w : World) : Calls Try.prog 56 #[tnV a, tnV b] w fun e w' => e = .returned (.bool (follows a b)) ∧ w' = (w.alloc (tnO a)).alloc (tnO b) := by
  obtain ⟨c, f, t, n⟩ := a
  obtain ⟨c', f', t', n'⟩ := b
  unfold follows
  simp only
  by_cases h1 : c = c'
  · subst h1
    rw [if_pos rfl]
    by_cases h2 : t < f'
    · go_enter Try.func56, Try.ntmps56
      go_wp2_with fail
      go_ret
      exact ⟨by simp; try omega, rfl⟩
    · by_cases h3 : t = f'
      · subst h3
        go_enter Try.func56, Try.ntmps56
        go_wp2_with fail
        go_ret
        exact ⟨by simp; rfl, rfl⟩
      · go_enter Try.func56, Try.ntmps56
        go_wp2_with fail
        go_ret
        exact ⟨by simp; try omega, rfl⟩
  · rw [if_neg h1]
    go_enter Try.func56, Try.ntmps56
    go_wp2_with fail
    go_ret
    exact ⟨rfl, rfl⟩

def ifAb (x y : Int) : Int := if y < x then x else 0
theorem greater_any (x y : Int) (w : World) : Calls Try.prog 34 #[u64 x, u64 y] w fun e w' => e = .returned (u64 (max x y)) ∧ w' = w := by
  go_enter Try.func34, Try.ntmps34
  go_wp2_with fail
  all_goals go_ret
  all_goals exact ⟨by simp; omega, rfl⟩
theorem ifAbove_any (x y : Int) (w : World) : Calls Try.prog 35 #[u64 x, u64 y] w fun e w' => e = .returned (u64 (ifAb x y)) ∧ w' = w := by
  unfold ifAb
  by_cases h : y < x
  · rw [if_pos h]
    go_enter Try.func35, Try.ntmps35
    go_wp2_with fail
    go_ret
    exact ⟨rfl, rfl⟩
  · rw [if_neg h]
    go_enter Try.func35, Try.ntmps35
    go_wp2_with fail
    go_ret
    exact ⟨rfl, rfl⟩
end Go.Proofs.Ytccgiabihagjoaa
