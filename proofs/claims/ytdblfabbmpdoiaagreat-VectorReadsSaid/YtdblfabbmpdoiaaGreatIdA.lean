/- Contracts of the small functions of ids: right numbers and ranges, the order of ids, picks. -/
import Derived.Test.YtdblfabbmpdoiaaGreatChecked
import Derived.Test.YtdblfabbmpdoiaaGreatLib
import Derived.Test.YtdblfabbmpdoiaaGreatIdM
import Derived.BigRegion
import Derived.Sort.Grow
import Derived.Deep.Draws
namespace Go.Proofs.YtdblfabbmpdoiaaGreat
open Go.RowKit
set_option linter.unusedVariables false
set_option linter.unusedSimpArgs false
set_option maxRecDepth 100000

/-- w' is w, new blocks and draws aside. -/
def Grows (w w' : World) : Prop := ∃ q os, w' = Sort.grow (w.drewN q) os
theorem Grows.refl (w : World) : Grows w w := ⟨0, #[], by unfold Sort.grow; rw [Array.append_empty]; rfl⟩
theorem Grows.trans {a b c : World} (h : Grows a b) (k : Grows b c) : Grows a c := by
  obtain ⟨q, os, rfl⟩ := h
  obtain ⟨p, ot, rfl⟩ := k
  exact ⟨q + p, os ++ ot, by simp only [Sort.grow, World.drewN, Nat.add_assoc, Array.append_assoc]⟩
theorem Grows.alloc {a b : World} (h : Grows a b) (o : Obj) : Grows a (b.alloc o) :=
  h.trans ⟨0, #[o], by rw [show b.drewN 0 = b from rfl]; exact Sort.alloc_eq_grow b o⟩
theorem Grows.drew {a b : World} (h : Grows a b) : Grows a b.drew := h.trans ⟨1, #[], by unfold Sort.grow; rw [Array.append_empty]; rfl⟩
theorem Grows.touch {a b : World} (h : Grows a b) : Touch (fun _ => False) a b := by
  obtain ⟨q, os, rfl⟩ := h
  refine ⟨rfl, rfl, rfl, by simp [Sort.grow, World.drewN], fun k hk _ => ?_⟩
  simp only [Sort.grow, World.drewN]
  exact Array.getElem?_append_left hk

abbrev u64 (x : Int) : Value := .int .u64 x
abbrev rgV (r : Rg) : Value := .agg #[.int .u64 r.c, .int .u64 r.f, .int .u64 r.t]
abbrev tnV (r : Tn) : Value := .agg #[.int .u64 r.c, .int .u64 r.f, .int .u64 r.t, .int .u64 r.n]
abbrev idV (c k : Int) : Value := .agg #[.int .u64 c, .int .u64 k]
abbrev rgO (r : Rg) : Obj := .cells #[.int .u64 r.c, .int .u64 r.f, .int .u64 r.t] 55
abbrev tnO (r : Tn) : Obj := .cells #[.int .u64 r.c, .int .u64 r.f, .int .u64 r.t, .int .u64 r.n] 111
abbrev idO (c k : Int) : Obj := .cells #[.int .u64 c, .int .u64 k] 58

set_option maxHeartbeats 400000 in
theorem rightNumber_any (x : Int) (w : World) : Calls Tryz.prog 56 #[u64 x] w fun e w' => e = .returned (.bool (numOk x)) ∧ w' = w := by
  unfold numOk
  by_cases h1 : 1 ≤ x
  · by_cases h2 : x ≤ 9007199254740991
    · go_enter Tryz.func56, Tryz.ntmps56
      go_wp2_with fail
      go_ret
      exact ⟨by simp [h1, h2], rfl⟩
    · go_enter Tryz.func56, Tryz.ntmps56
      go_wp2_with fail
      go_ret
      exact ⟨by simp [h1, h2], rfl⟩
  · go_enter Tryz.func56, Tryz.ntmps56
    go_wp2_with fail
    go_ret
    exact ⟨by simp; omega, rfl⟩

set_option maxHeartbeats 800000 in
theorem rightRange_any (r : Rg) (w : World) : Calls Tryz.prog 100 #[rgV r] w fun e w' => e = .returned (.bool r.ok) ∧ w' = w.alloc (rgO r) := by
  have hn := fun W => rightNumber_any r.c W
  obtain ⟨c, f, t⟩ := r
  unfold Rg.ok
  simp only at hn ⊢
  generalize numOk c = b at hn ⊢
  cases b with
  | false =>
    go_enter Tryz.func100, Tryz.ntmps100
    go_wp2_with (go_at_call 56; refine (hn _).mono ?_; rintro e w' ⟨rfl, rfl⟩)
    go_ret
    exact ⟨by simp, rfl⟩
  | true =>
    by_cases h1 : 1 ≤ f
    · by_cases h2 : f < t
      · by_cases h3 : t ≤ 9007199254740992
        · go_enter Tryz.func100, Tryz.ntmps100
          go_wp2_with (go_at_call 56; refine (hn _).mono ?_; rintro e w' ⟨rfl, rfl⟩)
          go_ret
          exact ⟨by simp; omega, rfl⟩
        · go_enter Tryz.func100, Tryz.ntmps100
          go_wp2_with (go_at_call 56; refine (hn _).mono ?_; rintro e w' ⟨rfl, rfl⟩)
          go_ret
          exact ⟨by simp [h1, h2, h3], rfl⟩
      · go_enter Tryz.func100, Tryz.ntmps100
        go_wp2_with (go_at_call 56; refine (hn _).mono ?_; rintro e w' ⟨rfl, rfl⟩)
        go_ret
        exact ⟨by simp; omega, rfl⟩
    · go_enter Tryz.func100, Tryz.ntmps100
      go_wp2_with (go_at_call 56; refine (hn _).mono ?_; rintro e w' ⟨rfl, rfl⟩)
      go_ret
      exact ⟨by simp; omega, rfl⟩

def lessI (a b c d : Int) : Bool := if a = c then decide (b < d) else decide (a < c)
set_option maxHeartbeats 800000 in
theorem less_any (a b c d : Int) (w : World) : Calls Tryz.prog 84 #[idV a b, idV c d] w fun e w' => e = .returned (.bool (lessI a b c d)) ∧ w' = (w.alloc (idO a b)).alloc (idO c d) := by
  unfold lessI
  by_cases h1 : a = c
  · subst h1
    rw [if_pos rfl]
    go_enter Tryz.func84, Tryz.ntmps84
    go_wp2_with fail
    go_ret
    exact ⟨rfl, rfl⟩
  · rw [if_neg h1]
    go_enter Tryz.func84, Tryz.ntmps84
    go_wp2_with fail
    go_ret
    exact ⟨rfl, rfl⟩

set_option maxHeartbeats 800000 in
theorem right_any (c k : Int) (w : World) : Calls Tryz.prog 41 #[idV c k] w fun e w' => e = .returned (.bool (numOk c && numOk k)) ∧ w' = w.alloc (idO c k) := by
  have hc := fun W => rightNumber_any c W
  have hk := fun W => rightNumber_any k W
  generalize numOk c = b at hc ⊢
  generalize numOk k = d at hk ⊢
  cases b with
  | false =>
    go_enter Tryz.func41, Tryz.ntmps41
    go_wp2_with (go_at_call 56; refine (hc _).mono ?_; rintro e w' ⟨rfl, rfl⟩)
    go_ret
    exact ⟨by simp, rfl⟩
  | true =>
    go_enter Tryz.func41, Tryz.ntmps41
    go_wp2_with (go_at_call 56; first | (refine (hc _).mono ?_; rintro e w' ⟨rfl, rfl⟩) | (refine (hk _).mono ?_; rintro e w' ⟨rfl, rfl⟩))
    go_ret
    exact ⟨by simp, rfl⟩

set_option maxHeartbeats 800000 in
theorem follows_any (a b : Tn) (w : World) : Calls Tryz.prog 97 #[tnV a, tnV b] w fun e w' => e = .returned (.bool (follows a b)) ∧ w' = (w.alloc (tnO a)).alloc (tnO b) := by
  obtain ⟨c, f, t, n⟩ := a
  obtain ⟨c', f', t', n'⟩ := b
  unfold follows
  simp only
  by_cases h1 : c = c'
  · subst h1
    rw [if_pos rfl]
    by_cases h2 : t < f'
    · go_enter Tryz.func97, Tryz.ntmps97
      go_wp2_with fail
      go_ret
      exact ⟨by simp; try omega, rfl⟩
    · by_cases h3 : t = f'
      · subst h3
        go_enter Tryz.func97, Tryz.ntmps97
        go_wp2_with fail
        go_ret
        exact ⟨by simp; rfl, rfl⟩
      · go_enter Tryz.func97, Tryz.ntmps97
        go_wp2_with fail
        go_ret
        exact ⟨by simp; try omega, rfl⟩
  · rw [if_neg h1]
    go_enter Tryz.func97, Tryz.ntmps97
    go_wp2_with fail
    go_ret
    exact ⟨rfl, rfl⟩

def ifAb (x y : Int) : Int := if y < x then x else 0
theorem lesser_any (x y : Int) (w : World) : Calls Tryz.prog 58 #[u64 x, u64 y] w fun e w' => e = .returned (u64 (min x y)) ∧ w' = w := by
  go_enter Tryz.func58, Tryz.ntmps58
  go_wp2_with fail
  all_goals go_ret
  all_goals exact ⟨by simp; omega, rfl⟩
theorem ifAbove_any (x y : Int) (w : World) : Calls Tryz.prog 55 #[u64 x, u64 y] w fun e w' => e = .returned (u64 (ifAb x y)) ∧ w' = w := by
  unfold ifAb
  by_cases h : y < x
  · rw [if_pos h]
    go_enter Tryz.func55, Tryz.ntmps55
    go_wp2_with fail
    go_ret
    exact ⟨rfl, rfl⟩
  · rw [if_neg h]
    go_enter Tryz.func55, Tryz.ntmps55
    go_wp2_with fail
    go_ret
    exact ⟨rfl, rfl⟩
end Go.Proofs.YtdblfabbmpdoiaaGreat
