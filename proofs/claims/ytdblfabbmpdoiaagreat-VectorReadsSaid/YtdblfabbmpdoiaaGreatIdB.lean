/- Contracts of cmp.Compare, cmp.Or and ids.byStart. -/
import Derived.Test.YtdblfabbmpdoiaaGreatIdA
import Derived.Deep.RegionHeld3
namespace Go.Proofs.YtdblfabbmpdoiaaGreat
open Go.RowKit
set_option linter.unusedVariables false
set_option linter.unusedSimpArgs false
set_option maxRecDepth 100000

def cmpU (x y : Int) : Int := if x < y then -1 else if y < x then 1 else 0
theorem isNaN_any (x : Int) (w : World) : Calls Tryz.prog 61 #[u64 x] w fun e w' => e = .returned (.bool false) ∧ w' = w := by
  go_enter Tryz.func61, Tryz.ntmps61
  go_wp2_with fail
  go_ret
  exact ⟨by simp, rfl⟩
set_option maxHeartbeats 800000 in
theorem compare_any (x y : Int) (w : World) : Calls Tryz.prog 48 #[u64 x, u64 y] w fun e w' => e = .returned (.int .i64 (cmpU x y)) ∧ w' = w := by
  have hn := fun x W => isNaN_any x W
  unfold cmpU
  by_cases h1 : x < y
  · rw [if_pos h1]
    go_enter Tryz.func48, Tryz.ntmps48
    go_wp2_with (go_at_call 61; refine (hn _ _).mono ?_; rintro e w' ⟨rfl, rfl⟩)
    go_ret
    exact ⟨rfl, rfl⟩
  · rw [if_neg h1]
    by_cases h2 : y < x
    · rw [if_pos h2]
      go_enter Tryz.func48, Tryz.ntmps48
      go_wp2_with (go_at_call 61; refine (hn _ _).mono ?_; rintro e w' ⟨rfl, rfl⟩)
      go_ret
      exact ⟨rfl, rfl⟩
    · rw [if_neg h2]
      go_enter Tryz.func48, Tryz.ntmps48
      go_wp2_with (go_at_call 61; refine (hn _ _).mono ?_; rintro e w' ⟨rfl, rfl⟩)
      go_ret
      exact ⟨rfl, rfl⟩
set_option maxHeartbeats 800000 in
theorem or_any (x y : Int) (w : World) (g : Nat) (c0 : w.cell? ⟨g, 0, none⟩ = some (.int .i64 x)) (c1 : w.cell? ⟨g, 1, none⟩ = some (.int .i64 y)) : Calls Tryz.prog 107 #[.slice (some ⟨g, 0, none⟩) 2 2] w fun e w' => e = .returned (.int .i64 (if x = 0 then y else x)) ∧ w' = w := by
  by_cases h1 : x = 0
  · subst h1
    rw [if_pos rfl]
    by_cases h2 : y = 0
    · subst h2
      go_enter Tryz.func107, Tryz.ntmps107
      go_wp2_with fail
      refine wp_loop_rounds 3 ?_
      rw [rounds_succ]
      go_wp2_with fail
      rw [rounds_succ]
      go_wp2_with fail
      rw [rounds_succ]
      go_wp2_with fail
      go_ret
      exact ⟨rfl, rfl⟩
    · go_enter Tryz.func107, Tryz.ntmps107
      go_wp2_with fail
      refine wp_loop_rounds 2 ?_
      rw [rounds_succ]
      go_wp2_with fail
      rw [rounds_succ]
      go_wp2_with fail
      go_ret
      exact ⟨rfl, rfl⟩
  · rw [if_neg h1]
    go_enter Tryz.func107, Tryz.ntmps107
    go_wp2_with fail
    refine wp_loop_rounds 1 ?_
    rw [rounds_succ]
    go_wp2_with fail
    go_ret
    exact ⟨rfl, rfl⟩
def byS (a b : Rg) : Int := if cmpU a.c b.c = 0 then cmpU a.f b.f else cmpU a.c b.c

set_option maxHeartbeats 1600000 in
theorem byStart_any (a b : Rg) (w : World) : Calls Tryz.prog 102 #[rgV a, rgV b] w fun e w' => e = .returned (.int .i64 (byS a b)) ∧ Grows w w' := by
  have h1 := fun W => compare_any a.c b.c W
  have h2 := fun W => compare_any a.f b.f W
  have h3 : Calls Tryz.prog 107 #[.slice (some ⟨w.heap.size + 1 + 1, 0, none⟩) 2 2] (((w.alloc (rgO a)).alloc (rgO b)).alloc (.cells #[.int .i64 (cmpU a.c b.c), .int .i64 (cmpU a.f b.f)] 3)).drew fun e w' => e = .returned (.int .i64 (if cmpU a.c b.c = 0 then cmpU a.f b.f else cmpU a.c b.c)) ∧ w' = (((w.alloc (rgO a)).alloc (rgO b)).alloc (.cells #[.int .i64 (cmpU a.c b.c), .int .i64 (cmpU a.f b.f)] 3)).drew := by
    have e := heap_alloc_new ((w.alloc (rgO a)).alloc (rgO b)) (.cells #[.int .i64 (cmpU a.c b.c), .int .i64 (cmpU a.f b.f)] 3)
    rw [World.size_alloc, World.size_alloc] at e
    have e' : (((w.alloc (rgO a)).alloc (rgO b)).alloc (.cells #[.int .i64 (cmpU a.c b.c), .int .i64 (cmpU a.f b.f)] 3)).drew.heap[w.heap.size + 1 + 1]? = some (.cells #[.int .i64 (cmpU a.c b.c), .int .i64 (cmpU a.f b.f)] 3) := e
    exact or_any (cmpU a.c b.c) (cmpU a.f b.f) _ _ (by rw [cell_of_block e']; rfl) (by rw [cell_of_block e']; rfl)
  have HG : Hid (∀ X : World, ∀ o : Obj, X = (w.alloc (rgO a)).alloc (rgO b) → Grows w ((X.alloc o).drew)) := by
    rintro X o rfl
    exact ((((Grows.refl w).alloc _).alloc _).alloc _).drew
  unfold byS
  generalize cmpU a.c b.c = x at *
  generalize cmpU a.f b.f = y at *
  generalize (if x = 0 then y else x) = z at *
  obtain ⟨c, f, t⟩ := a
  obtain ⟨c', f', t'⟩ := b
  simp only at *
  have s0 : ∀ X, X = (w.alloc (rgO ⟨c, f, t⟩)).alloc (rgO ⟨c', f', t'⟩) → ∀ Y, Touch (fun _ => False) X Y → Y.cell? ⟨w.heap.size, 0, none⟩ = some (u64 c) ∧ Y.cell? ⟨w.heap.size, 1, none⟩ = some (u64 f) ∧ Y.cell? ⟨w.heap.size + 1, 0, none⟩ = some (u64 c') ∧ Y.cell? ⟨w.heap.size + 1, 1, none⟩ = some (u64 f') := by
    rintro X rfl Y hT
    have b0 : ((w.alloc (rgO ⟨c, f, t⟩)).alloc (rgO ⟨c', f', t'⟩)).heap[w.heap.size]? = some (rgO ⟨c, f, t⟩) := (Below.heap_alloc _ _ _ (by simp)).trans (heap_alloc_new w _)
    have b1 : ((w.alloc (rgO ⟨c, f, t⟩)).alloc (rgO ⟨c', f', t'⟩)).heap[w.heap.size + 1]? = some (rgO ⟨c', f', t'⟩) := by
      have := heap_alloc_new (w.alloc (rgO ⟨c, f, t⟩)) (rgO ⟨c', f', t'⟩)
      rwa [World.size_alloc] at this
    have d0 := (hT.block _ (lt_of_heap b0) id).trans b0
    have d1 := (hT.block _ (lt_of_heap b1) id).trans b1
    exact ⟨by rw [cell_of_block d0]; rfl, by rw [cell_of_block d0]; rfl, by rw [cell_of_block d1]; rfl, by rw [cell_of_block d1]; rfl⟩
  have S0 := s0 _ rfl _ (Touch.refl _ _).drew
  have S1 := s0 _ rfl _ ((Touch.refl _ _).alloc (.cells #[.int .i64 x, .int .i64 y] 3)).drew
  clear s0
  go_enter Tryz.func102, Tryz.ntmps102
  go_wp2_with fail
  go_region_held3 (fun W => W.cell? ⟨w.heap.size, 0, none⟩ = some (u64 c) ∧ W.cell? ⟨w.heap.size, 1, none⟩ = some (u64 f) ∧ W.cell? ⟨w.heap.size + 1, 0, none⟩ = some (u64 c') ∧ W.cell? ⟨w.heap.size + 1, 1, none⟩ = some (u64 f')) (first | assumption)
    (first | (go_at_call 48; first | ((with_reducible refine (h1 _).mono ?_); rintro e w' ⟨rfl, rfl⟩) | ((with_reducible refine (h2 _).mono ?_); rintro e w' ⟨rfl, rfl⟩)) | (go_at_call 107; (with_reducible refine h3.mono ?_); rintro e w' ⟨rfl, rfl⟩))
  all_goals (try go_wp2_with fail)
  all_goals go_ret
  all_goals exact ⟨rfl, HG.out _ _ rfl⟩
end Go.Proofs.YtdblfabbmpdoiaaGreat
