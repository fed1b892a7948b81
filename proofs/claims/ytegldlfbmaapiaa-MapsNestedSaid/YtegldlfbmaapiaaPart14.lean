/- Contracts of cmp.Compare, cmp.Or and ids.byStart. -/
import Derived.Test.YtegldlfbmaapiaaPart2
import Derived.Deep.RegionHeld3
import Derived.Shelf.SlSortCmp.WholeK
import Derived.Shelf.SlSortCmp.NoneTotal
import Derived.Ground.SlsfProg
import Derived.Test.YtegldlfbmaapiaaProg
namespace Go.Proofs.Ytegldlfbmaapiaa
open Go.RowKit
set_option linter.unusedVariables false
set_option linter.unusedSimpArgs false
set_option maxRecDepth 100000

def cmpU (x y : Int) : Int := if x < y then -1 else if y < x then 1 else 0
theorem isNaN_any (x : Int) (w : World) : Calls Try.prog 88 #[u64 x] w fun e w' => e = .returned (.bool false) ∧ w' = w := by
  go_enter Try.func88, Try.ntmps88
  go_wp2_with fail
  go_ret
  exact ⟨by simp, rfl⟩
set_option maxHeartbeats 800000 in
theorem compare_any (x y : Int) (w : World) : Calls Try.prog 67 #[u64 x, u64 y] w fun e w' => e = .returned (.int .i64 (cmpU x y)) ∧ w' = w := by
  have hn := fun x W => isNaN_any x W
  unfold cmpU
  by_cases h1 : x < y
  · rw [if_pos h1]
    go_enter Try.func67, Try.ntmps67
    go_wp2_with (go_at_call 88; refine (hn _ _).mono ?_; rintro e w' ⟨rfl, rfl⟩)
    go_ret
    exact ⟨rfl, rfl⟩
  · rw [if_neg h1]
    by_cases h2 : y < x
    · rw [if_pos h2]
      go_enter Try.func67, Try.ntmps67
      go_wp2_with (go_at_call 88; refine (hn _ _).mono ?_; rintro e w' ⟨rfl, rfl⟩)
      go_ret
      exact ⟨rfl, rfl⟩
    · rw [if_neg h2]
      go_enter Try.func67, Try.ntmps67
      go_wp2_with (go_at_call 88; refine (hn _ _).mono ?_; rintro e w' ⟨rfl, rfl⟩)
      go_ret
      exact ⟨rfl, rfl⟩
set_option maxHeartbeats 800000 in
theorem or_any (x y : Int) (w : World) (g : Nat) (c0 : w.cell? ⟨g, 0, none⟩ = some (.int .i64 x)) (c1 : w.cell? ⟨g, 1, none⟩ = some (.int .i64 y)) : Calls Try.prog 66 #[.slice (some ⟨g, 0, none⟩) 2 2] w fun e w' => e = .returned (.int .i64 (if x = 0 then y else x)) ∧ w' = w := by
  by_cases h1 : x = 0
  · subst h1
    rw [if_pos rfl]
    by_cases h2 : y = 0
    · subst h2
      go_enter Try.func66, Try.ntmps66
      go_wp2_with fail
      refine wp_loop_rounds 3 ?_
      rw [rounds_succ]
      go_wp2_with fail
      rw [rounds_succ]
      go_wp2_with fail
      rw [rounds_succ]
      go_wp2_with fail
      go_ret
      exact ⟨rfl, rfl⟩
    · go_enter Try.func66, Try.ntmps66
      go_wp2_with fail
      refine wp_loop_rounds 2 ?_
      rw [rounds_succ]
      go_wp2_with fail
      rw [rounds_succ]
      go_wp2_with fail
      go_ret
      exact ⟨rfl, rfl⟩
  · rw [if_neg h1]
    go_enter Try.func66, Try.ntmps66
    go_wp2_with fail
    refine wp_loop_rounds 1 ?_
    rw [rounds_succ]
    go_wp2_with fail
    go_ret
    exact ⟨rfl, rfl⟩
def byS (a b : Rg) : Int := if cmpU a.c b.c = 0 then cmpU a.f b.f else cmpU a.c b.c

set_option maxHeartbeats 1600000 in
theorem byStart_any (a b : Rg) (w : World) : Calls Try.prog 44 #[rgV a, rgV b] w fun e w' => e = .returned (.int .i64 (byS a b)) ∧ Grows w w' := by
  have h1 := fun W => compare_any a.c b.c W
  have h2 := fun W => compare_any a.f b.f W
  have h3 : Calls Try.prog 66 #[.slice (some ⟨w.heap.size + 1 + 1, 0, none⟩) 2 2] (((w.alloc (rgO a)).alloc (rgO b)).alloc (.cells #[.int .i64 (cmpU a.c b.c), .int .i64 (cmpU a.f b.f)] 3)).drew fun e w' => e = .returned (.int .i64 (if cmpU a.c b.c = 0 then cmpU a.f b.f else cmpU a.c b.c)) ∧ w' = (((w.alloc (rgO a)).alloc (rgO b)).alloc (.cells #[.int .i64 (cmpU a.c b.c), .int .i64 (cmpU a.f b.f)] 3)).drew := by
    have e := heap_alloc_new ((w.alloc (rgO a)).alloc (rgO b)) (.cells #[.int .i64 (cmpU a.c b.c), .int .i64 (cmpU a.f b.f)] 3)
    rw [World.size_alloc, World.size_alloc] at e
    have e' : (((w.alloc (rgO a)).alloc (rgO b)).alloc (.cells #[.int .i64 (cmpU a.c b.c), .int .i64 (cmpU a.f b.f)] 3)).drew.heap[w.heap.size + 1 + 1]? = some (.cells #[.int .i64 (cmpU a.c b.c), .int .i64 (cmpU a.f b.f)] 3) := e
    exact or_any (cmpU a.c b.c) (cmpU a.f b.f) _ _ (by rw [cell_of_block e']; rfl) (by rw [cell_of_block e']; rfl)
  have HG : Hid (∀ X : World, ∀ o : Obj, X = (w.alloc (rgO a)).alloc (rgO b) → Grows w ((X.alloc o).drew)) := by
    rintro X o rfl
    exact ((((Grows.refl w).alloc _).alloc _).alloc _).drew
  unfold byS
  generalize cmpU a.c b.c = x at *
  generalize cmpU a.f b.f = y at *
  generalize (if x = 0 then y else x) = z at *
  obtain ⟨c, f, t⟩ := a
  obtain ⟨c', f', t'⟩ := b
  simp only at *
  have s0 : ∀ X, X = (w.alloc (rgO ⟨c, f, t⟩)).alloc (rgO ⟨c', f', t'⟩) → ∀ Y, Touch (fun _ => False) X Y → Y.cell? ⟨w.heap.size, 0, none⟩ = some (u64 c) ∧ Y.cell? ⟨w.heap.size, 1, none⟩ = some (u64 f) ∧ Y.cell? ⟨w.heap.size + 1, 0, none⟩ = some (u64 c') ∧ Y.cell? ⟨w.heap.size + 1, 1, none⟩ = some (u64 f') := by
    rintro X rfl Y hT
    have b0 : ((w.alloc (rgO ⟨c, f, t⟩)).alloc (rgO ⟨c', f', t'⟩)).heap[w.heap.size]? = some (rgO ⟨c, f, t⟩) := (Below.heap_alloc _ _ _ (by simp)).trans (heap_alloc_new w _)
    have b1 : ((w.alloc (rgO ⟨c, f, t⟩)).alloc (rgO ⟨c', f', t'⟩)).heap[w.heap.size + 1]? = some (rgO ⟨c', f', t'⟩) := by
      have := heap_alloc_new (w.alloc (rgO ⟨c, f, t⟩)) (rgO ⟨c', f', t'⟩)
      rwa [World.size_alloc] at this
    have d0 := (hT.block _ (lt_of_heap b0) id).trans b0
    have d1 := (hT.block _ (lt_of_heap b1) id).trans b1
    exact ⟨by rw [cell_of_block d0]; rfl, by rw [cell_of_block d0]; rfl, by rw [cell_of_block d1]; rfl, by rw [cell_of_block d1]; rfl⟩
  have S0 := s0 _ rfl _ (Touch.refl _ _).drew
  have S1 := s0 _ rfl _ ((Touch.refl _ _).alloc (.cells #[.int .i64 x, .int .i64 y] 3)).drew
  clear s0
  go_enter Try.func44, Try.ntmps44
  go_wp2_with fail
  go_region_held3 (fun W => W.cell? ⟨w.heap.size, 0, none⟩ = some (u64 c) ∧ W.cell? ⟨w.heap.size, 1, none⟩ = some (u64 f) ∧ W.cell? ⟨w.heap.size + 1, 0, none⟩ = some (u64 c') ∧ W.cell? ⟨w.heap.size + 1, 1, none⟩ = some (u64 f')) (first | assumption)
    (first | (go_at_call 67; first | ((with_reducible refine (h1 _).mono ?_); rintro e w' ⟨rfl, rfl⟩) | ((with_reducible refine (h2 _).mono ?_); rintro e w' ⟨rfl, rfl⟩)) | (go_at_call 66; (with_reducible refine h3.mono ?_); rintro e w' ⟨rfl, rfl⟩))
  all_goals (try go_wp2_with fail)
  all_goals go_ret
  all_goals exact ⟨rfl, HG.out _ _ rfl⟩
end Go.Proofs.Ytegldlfbmaapiaa

/- The library's slices.SortFunc, laid at this program. -/
namespace Go.Proofs
open Go.Shelf
def Try.sortF_ren : Go.Shelf.Ren := ⟨fun | 6 => 43 | 15 => 65 | 14 => 64 | 28 => 86 | 29 => 87 | 20 => 78 | 21 => 79 | 22 => 80 | 23 => 81 | 24 => 82 | 25 => 83 | 26 => 84 | 27 => 85 | 46 => 91 | 47 => 92 | 48 => 93 | 49 => 94 | 50 => 95 | 57 => 105 | n => n, fun | 22 => 24 | 24 => 54 | 25 => 95 | 3 => 3 | 39 => 123 | 0 => 0 | 53 => 144 | 55 => 32 | 4 => 4 | 46 => 138 | 45 => 137 | 50 => 114 | 5 => 5 | 9 => 9 | 66 => 149 | 70 => 153 | 76 => 161 | 77 => 162 | n => n, fun | n => n⟩
theorem Try.sortF : Go.Proofs.SlLaysF0.n6 Try.prog Try.sortF_ren := {
  mixed := by kernel_rfl
  f6 := ⟨Try.f43.name, by decide, Try.func43.trans (congrArg some (by kernel_rfl))⟩
  f14 := ⟨Try.f64.name, by decide, Try.func64.trans (congrArg some (by kernel_rfl))⟩
  f15 := Try.func65.trans (congrArg some (by kernel_rfl))
  f20 := ⟨Try.f78.name, by decide, Try.func78.trans (congrArg some (by kernel_rfl))⟩
  f21 := ⟨Try.f79.name, by decide, Try.func79.trans (congrArg some (by kernel_rfl))⟩
  f22 := ⟨Try.f80.name, by decide, Try.func80.trans (congrArg some (by kernel_rfl))⟩
  f23 := ⟨Try.f81.name, by decide, Try.func81.trans (congrArg some (by kernel_rfl))⟩
  f24 := ⟨Try.f82.name, by decide, Try.func82.trans (congrArg some (by kernel_rfl))⟩
  f25 := ⟨Try.f83.name, by decide, Try.func83.trans (congrArg some (by kernel_rfl))⟩
  f26 := ⟨Try.f84.name, by decide, Try.func84.trans (congrArg some (by kernel_rfl))⟩
  f27 := ⟨Try.f85.name, by decide, Try.func85.trans (congrArg some (by kernel_rfl))⟩
  f28 := Try.func86.trans (congrArg some (by kernel_rfl))
  f29 := Try.func87.trans (congrArg some (by kernel_rfl))
  f46 := ⟨Try.f91.name, by decide, Try.func91.trans (congrArg some (by kernel_rfl))⟩
  f47 := Try.func92.trans (congrArg some (by kernel_rfl))
  f48 := Try.func93.trans (congrArg some (by kernel_rfl))
  f49 := ⟨Try.f94.name, by decide, Try.func94.trans (congrArg some (by kernel_rfl))⟩
  f50 := ⟨Try.f95.name, by decide, Try.func95.trans (congrArg some (by kernel_rfl))⟩
  f57 := ⟨Try.f105.name, by decide, Try.func105.trans (congrArg some (by kernel_rfl))⟩
  t0 := Try.underlying0
  a0 := Try.isAgg0
  z0 := Try.sizeOf0
  v0 := Try.zeroValue0
  t3 := Try.underlying3
  a3 := Try.isAgg3
  z3 := Try.sizeOf3
  v3 := Try.zeroValue3
  t4 := Try.underlying4
  a4 := Try.isAgg4
  z4 := Try.sizeOf4
  v4 := Try.zeroValue4
  t5 := Try.underlying5
  a5 := Try.isAgg5
  z5 := Try.sizeOf5
  v5 := Try.zeroValue5
  t9 := Try.underlying9
  a9 := Try.isAgg9
  z9 := Try.sizeOf9
  v9 := Try.zeroValue9
  t22 := Try.underlying24
  a22 := Try.isAgg24
  z22 := Try.sizeOf24
  v22 := Try.zeroValue24
  t25 := Try.underlying95
  a25 := Try.isAgg95
  z25 := Try.sizeOf95
  v25 := Try.zeroValue95
  t39 := Try.underlying123
  a39 := Try.isAgg123
  z39 := Try.sizeOf123
  v39 := Try.zeroValue123
  t45 := Try.underlying137
  a45 := Try.isAgg137
  z45 := Try.sizeOf137
  v45 := Try.zeroValue137
  t46 := Try.underlying138
  a46 := Try.isAgg138
  z46 := Try.sizeOf138
  v46 := Try.zeroValue138
  t50 := Try.underlying114
  a50 := Try.isAgg114
  z50 := Try.sizeOf114
  v50 := Try.zeroValue114
  t53 := Try.underlying144
  a53 := Try.isAgg144
  z53 := Try.sizeOf144
  v53 := Try.zeroValue144
  t55 := Try.underlying32
  a55 := Try.isAgg32
  z55 := Try.sizeOf32
  v55 := Try.zeroValue32
  t66 := Try.underlying149
  a66 := Try.isAgg149
  z66 := Try.sizeOf149
  v66 := Try.zeroValue149
  t70 := Try.underlying153
  a70 := Try.isAgg153
  z70 := Try.sizeOf153
  v70 := Try.zeroValue153
  t76 := Try.underlying161
  a76 := Try.isAgg161
  z76 := Try.sizeOf161
  v76 := Try.zeroValue161
  t77 := Try.underlying162
  a77 := Try.isAgg162
  z77 := Try.sizeOf162
  v77 := Try.zeroValue162 }
end Go.Proofs
