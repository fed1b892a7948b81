/- Contracts of the small functions of ids: right numbers and ranges, the order of ids, picks. -/
import Derived.Test.YtcolbgbmnmkogabChecked
import Derived.Test.YtcolbgbmnmkogabLib
import Derived.Test.YtcolbgbmnmkogabIdM
import Derived.BigRegion
import Derived.Sort.Grow
import Derived.Deep.Draws
namespace Go.Proofs.Ytcolbgbmnmkogab
open Go.RowKit
set_option linter.unusedVariables false
set_option linter.unusedSimpArgs false
set_option maxRecDepth 100000

/-- w' is w, new blocks and draws aside. -/
def Grows (w w' : World) : Prop := ∃ q os, w' = Sort.grow (w.drewN q) os
theorem Grows.refl (w : World) : Grows w w := ⟨0, #[], by unfold Sort.grow; rw [Array.append_empty]; rfl⟩
theorem Grows.trans {a b c : World} (h : Grows a b) (k : Grows b c) : Grows a c := by
  obtain ⟨q, os, rfl⟩ := h
  obtain ⟨p, ot, rfl⟩ := k
  exact ⟨q + p, os ++ ot, by simp only [Sort.grow, World.drewN, Nat.add_assoc, Array.append_assoc]⟩
theorem Grows.alloc {a b : World} (h : Grows a b) (o : Obj) : Grows a (b.alloc o) :=
  h.trans ⟨0, #[o], by rw [show b.drewN 0 = b from rfl]; exact Sort.alloc_eq_grow b o⟩
theorem Grows.drew {a b : World} (h : Grows a b) : Grows a b.drew := h.trans ⟨1, #[], by unfold Sort.grow; rw [Array.append_empty]; rfl⟩
theorem Grows.touch {a b : World} (h : Grows a b) : Touch (fun _ => False) a b := by
  obtain ⟨q, os, rfl⟩ := h
  refine ⟨rfl, rfl, rfl, by simp [Sort.grow, World.drewN], fun k hk _ => ?_⟩
  simp only [Sort.grow, World.drewN]
  exact Array.getElem?_append_left hk

abbrev u64 (x : Int) : Value := .int .u64 x
abbrev rgV (r : Rg) : Value := .agg #[.int .u64 r.c, .int .u64 r.f, .int .u64 r.t]
abbrev tnV (r : Tn) : Value := .agg #[.int .u64 r.c, .int .u64 r.f, .int .u64 r.t, .int .u64 r.n]
abbrev idV (c k : Int) : Value := .agg #[.int .u64 c, .int .u64 k]
abbrev idO (c k : Int) : Obj := .cells #[.int .u64 c, .int .u64 k] 31

set_option maxHeartbeats 400000 in
theorem rightNumber_any (x : Int) (w : World) : Calls Try.prog 54 #[u64 x] w fun e w' => e = .returned (.bool (numOk x)) ∧ w' = w := by
  unfold numOk
  by_cases h1 : 1 ≤ x
  · by_cases h2 : x ≤ 9007199254740991
    · go_enter Try.func54, Try.ntmps54
      go_wp2_with fail
      go_ret
      exact ⟨by simp [h1, h2], rfl⟩
    · go_enter Try.func54, Try.ntmps54
      go_wp2_with fail
      go_ret
      exact ⟨by simp [h1, h2], rfl⟩
  · go_enter Try.func54, Try.ntmps54
    go_wp2_with fail
    go_ret
    exact ⟨by simp; omega, rfl⟩

def lessI (a b c d : Int) : Bool := if a = c then decide (b < d) else decide (a < c)
set_option maxHeartbeats 800000 in
theorem less_any (a b c d : Int) (w : World) : Calls Try.prog 50 #[idV a b, idV c d] w fun e w' => e = .returned (.bool (lessI a b c d)) ∧ w' = (w.alloc (idO a b)).alloc (idO c d) := by
  unfold lessI
  by_cases h1 : a = c
  · subst h1
    rw [if_pos rfl]
    go_enter Try.func50, Try.ntmps50
    go_wp2_with fail
    go_ret
    exact ⟨rfl, rfl⟩
  · rw [if_neg h1]
    go_enter Try.func50, Try.ntmps50
    go_wp2_with fail
    go_ret
    exact ⟨rfl, rfl⟩

set_option maxHeartbeats 800000 in
theorem right_any (c k : Int) (w : World) : Calls Try.prog 32 #[idV c k] w fun e w' => e = .returned (.bool (numOk c && numOk k)) ∧ w' = w.alloc (idO c k) := by
  have hc := fun W => rightNumber_any c W
  have hk := fun W => rightNumber_any k W
  generalize numOk c = b at hc ⊢
  generalize numOk k = d at hk ⊢
  cases b with
  | false =>
    go_enter Try.func32, Try.ntmps32
    go_wp2_with (go_at_call 54; refine (hc _).mono ?_; rintro e w' ⟨rfl, rfl⟩)
    go_ret
    exact ⟨by simp, rfl⟩
  | true =>
    go_enter Try.func32, Try.ntmps32
    go_wp2_with (go_at_call 54; first | (refine (hc _).mono ?_; rintro e w' ⟨rfl, rfl⟩) | (refine (hk _).mono ?_; rintro e w' ⟨rfl, rfl⟩))
    go_ret
    exact ⟨by simp, rfl⟩

def ifAb (x y : Int) : Int := if y < x then x else 0
end Go.Proofs.Ytcolbgbmnmkogab
