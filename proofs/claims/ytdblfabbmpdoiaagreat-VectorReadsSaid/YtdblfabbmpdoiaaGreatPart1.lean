/- Contracts of the small functions of vector: what a clock tells, the order of clocks. -/
import Derived.Test.YtdblfabbmpdoiaaGreatRowC
import Derived.Test.YtdblfabbmpdoiaaGreatIdB
import Derived.Shelf.SlSortCmp.WholeK
import Derived.Shelf.SlSortCmp.NoneTotal
import Derived.Ground.SlsfProg
import Derived.Test.YtdblfabbmpdoiaaGreatProg
namespace Go.Proofs.YtdblfabbmpdoiaaGreat
open Go.RowKit
set_option linter.unusedVariables false
set_option linter.unusedSimpArgs false
set_option maxRecDepth 100000

set_option maxHeartbeats 800000 in
theorem told_any (x : Ck) (w : World) : Calls Tryz.prog 30 #[ckV x] w fun e w' => e = .returned (.tuple #[ckV x.cap, .bool x.cap.ok]) ∧ Touch (fun _ => False) w w' := by
  have HR := fun W => right_any x.c (min x.k 9007199254740991) W
  have HO : Hid (x.cap.ok = (numOk x.c && numOk (min x.k 9007199254740991))) := rfl
  obtain ⟨c, k⟩ := x
  simp only at HR HO
  generalize (numOk c && numOk (min k 9007199254740991)) = b at *
  go_enter Tryz.func30, Tryz.ntmps30
  go_wp2_with fail
  go_region_with (go_at_call 41; (with_reducible refine (HR _).mono ?_); rintro e w' ⟨rfl, rfl⟩)
  all_goals (try go_wp2_with fail)
  all_goals refine bodyPost_ret (v := .tuple #[ckV ⟨c, min k 9007199254740991⟩, .bool b]) (by simp [results, Tryz.results30, go_sem]) rfl ?_
  all_goals exact ⟨by rw [HO.out]; rfl, ((((Touch.refl _ w).alloc _).alloc _).alloc _).drew⟩
theorem clientOf_any (x : Ck) (w : World) : Calls Tryz.prog 29 #[ckV x] w fun e w' => e = .returned (u64 x.c) ∧ w' = w.alloc (ckO x) := by
  obtain ⟨c, k⟩ := x
  go_enter Tryz.func29, Tryz.ntmps29
  go_wp2_with fail
  go_ret
  exact ⟨rfl, rfl⟩
def byC (a b : Ck) : Int := cmpU a.c b.c
set_option maxHeartbeats 800000 in
theorem byC_any (a b : Ck) (w : World) (B : Nat) (hB : w.cell? ⟨B, 0, none⟩ = some (.func (.func 29) #[] #[])) : Calls Tryz.prog 47 #[ckV a, ckV b, .pointer (some ⟨B, 0, none⟩)] w fun e w' => e = .returned (.int .i64 (byC a b)) ∧ Grows w w' := by
  have h1 := fun W => compare_any a.c b.c W
  have h2 := fun W => clientOf_any a W
  have h3 := fun W => clientOf_any b W
  unfold byC
  generalize cmpU a.c b.c = x at *
  obtain ⟨c, f⟩ := a
  obtain ⟨c', f'⟩ := b
  simp only at *
  have b0 : ((w.alloc (ckO ⟨c, f⟩)).alloc (ckO ⟨c', f'⟩)).heap[w.heap.size]? = some (ckO ⟨c, f⟩) := (Below.heap_alloc _ _ _ (by simp)).trans (heap_alloc_new w _)
  have b1 : ((w.alloc (ckO ⟨c, f⟩)).alloc (ckO ⟨c', f'⟩)).heap[w.heap.size + 1]? = some (ckO ⟨c', f'⟩) := by
    have := heap_alloc_new (w.alloc (ckO ⟨c, f⟩)) (ckO ⟨c', f'⟩)
    rwa [World.size_alloc] at this
  have hB2 : ((w.alloc (ckO ⟨c, f⟩)).alloc (ckO ⟨c', f'⟩)).cell? ⟨B, 0, none⟩ = some (.func (.func 29) #[] #[]) := ((((Touch.refl (fun _ => False) w).alloc _).alloc _).cell (World.block_lt_of_cell? _ _ hB) id 0).trans hB
  have S0 : (((w.alloc (ckO ⟨c, f⟩)).alloc (ckO ⟨c', f'⟩)).cell? ⟨B, 0, none⟩ = some (.func (.func 29) #[] #[]) ∧ ((w.alloc (ckO ⟨c, f⟩)).alloc (ckO ⟨c', f'⟩)).cell? ⟨w.heap.size, 0, none⟩ = some (u64 c) ∧ ((w.alloc (ckO ⟨c, f⟩)).alloc (ckO ⟨c', f'⟩)).cell? ⟨w.heap.size, 1, none⟩ = some (u64 f) ∧ ((w.alloc (ckO ⟨c, f⟩)).alloc (ckO ⟨c', f'⟩)).cell? ⟨w.heap.size + 1, 0, none⟩ = some (u64 c') ∧ ((w.alloc (ckO ⟨c, f⟩)).alloc (ckO ⟨c', f'⟩)).cell? ⟨w.heap.size + 1, 1, none⟩ = some (u64 f')) ∧ Hid (Grows w ((w.alloc (ckO ⟨c, f⟩)).alloc (ckO ⟨c', f'⟩))) :=
    ⟨⟨hB2, by rw [cell_of_block b0]; rfl, by rw [cell_of_block b0]; rfl, by rw [cell_of_block b1]; rfl, by rw [cell_of_block b1]; rfl⟩, ((Grows.refl w).alloc _).alloc _⟩
  have HK : Hid (∀ {W W1 W2 : World}, (W.cell? ⟨B, 0, none⟩ = some (.func (.func 29) #[] #[]) ∧ W.cell? ⟨w.heap.size, 0, none⟩ = some (u64 c) ∧ W.cell? ⟨w.heap.size, 1, none⟩ = some (u64 f) ∧ W.cell? ⟨w.heap.size + 1, 0, none⟩ = some (u64 c') ∧ W.cell? ⟨w.heap.size + 1, 1, none⟩ = some (u64 f')) ∧ Hid (Grows w W) → Grows W W1 → W2 = W1 → (W2.cell? ⟨B, 0, none⟩ = some (.func (.func 29) #[] #[]) ∧ W2.cell? ⟨w.heap.size, 0, none⟩ = some (u64 c) ∧ W2.cell? ⟨w.heap.size, 1, none⟩ = some (u64 f) ∧ W2.cell? ⟨w.heap.size + 1, 0, none⟩ = some (u64 c') ∧ W2.cell? ⟨w.heap.size + 1, 1, none⟩ = some (u64 f')) ∧ Hid (Grows w W2)) := by
    rintro W W1 W2 ⟨⟨k0, k1, k2, k3, k4⟩, g⟩ g2 rfl
    have go : ∀ (b o : Nat) (v : Value), W.cell? ⟨b, o, none⟩ = some v → W2.cell? ⟨b, o, none⟩ = some v := fun b o v hv => (g2.touch.cell (World.block_lt_of_cell? _ _ hv) id o).trans hv
    exact ⟨⟨go _ _ _ k0, go _ _ _ k1, go _ _ _ k2, go _ _ _ k3, go _ _ _ k4⟩, g.out.trans g2⟩
  have S1 := HK.out S0 (Grows.refl _).drew rfl
  clear b0 b1 hB2
  go_enter Tryz.func47, Tryz.ntmps47
  go_wp2_with fail
  go_region_held3 (fun W => (W.cell? ⟨B, 0, none⟩ = some (.func (.func 29) #[] #[]) ∧ W.cell? ⟨w.heap.size, 0, none⟩ = some (u64 c) ∧ W.cell? ⟨w.heap.size, 1, none⟩ = some (u64 f) ∧ W.cell? ⟨w.heap.size + 1, 0, none⟩ = some (u64 c') ∧ W.cell? ⟨w.heap.size + 1, 1, none⟩ = some (u64 f')) ∧ Hid (Grows w W)) (first | assumption)
    (first | (go_at_call 29; first | ((with_reducible refine (h2 _).mono ?_); rintro e w' ⟨rfl, hw'⟩; have S2 := HK.out (by assumption) ((Grows.refl _).alloc _) hw'; clear hw') | ((with_reducible refine (h3 _).mono ?_); rintro e w' ⟨rfl, hw'⟩; have S2 := HK.out (by assumption) ((Grows.refl _).alloc _) hw'; clear hw')) | (go_at_call 48; (with_reducible refine (h1 _).mono ?_); rintro e w' ⟨rfl, rfl⟩))
  all_goals (try go_wp2_with fail)
  all_goals go_ret
  all_goals exact ⟨rfl, S2.2.out⟩
end Go.Proofs.YtdblfabbmpdoiaaGreat

/- The library's slices.SortFunc, laid at this program. -/
namespace Go.Proofs
open Go.Shelf
def Tryz.sortG_ren : Go.Shelf.Ren := ⟨fun | 6 => 46 | 15 => 60 | 14 => 59 | 28 => 75 | 29 => 76 | 20 => 67 | 21 => 68 | 22 => 69 | 23 => 70 | 24 => 71 | 25 => 72 | 26 => 73 | 27 => 74 | 46 => 89 | 47 => 90 | 48 => 91 | 49 => 92 | 50 => 93 | 57 => 103 | n => n, fun | 22 => 22 | 24 => 50 | 25 => 79 | 3 => 3 | 39 => 76 | 0 => 0 | 53 => 107 | 55 => 48 | 4 => 4 | 46 => 100 | 45 => 99 | 50 => 104 | 5 => 5 | 9 => 9 | 66 => 121 | 70 => 125 | 76 => 139 | 77 => 140 | n => n, fun | n => n⟩
theorem Tryz.sortG : Go.Proofs.SlLaysF0.n6 Tryz.prog Tryz.sortG_ren := {
  mixed := by kernel_rfl
  f6 := ⟨Tryz.f46.name, by decide, Tryz.func46.trans (congrArg some (by kernel_rfl))⟩
  f14 := ⟨Tryz.f59.name, by decide, Tryz.func59.trans (congrArg some (by kernel_rfl))⟩
  f15 := Tryz.func60.trans (congrArg some (by kernel_rfl))
  f20 := ⟨Tryz.f67.name, by decide, Tryz.func67.trans (congrArg some (by kernel_rfl))⟩
  f21 := ⟨Tryz.f68.name, by decide, Tryz.func68.trans (congrArg some (by kernel_rfl))⟩
  f22 := ⟨Tryz.f69.name, by decide, Tryz.func69.trans (congrArg some (by kernel_rfl))⟩
  f23 := ⟨Tryz.f70.name, by decide, Tryz.func70.trans (congrArg some (by kernel_rfl))⟩
  f24 := ⟨Tryz.f71.name, by decide, Tryz.func71.trans (congrArg some (by kernel_rfl))⟩
  f25 := ⟨Tryz.f72.name, by decide, Tryz.func72.trans (congrArg some (by kernel_rfl))⟩
  f26 := ⟨Tryz.f73.name, by decide, Tryz.func73.trans (congrArg some (by kernel_rfl))⟩
  f27 := ⟨Tryz.f74.name, by decide, Tryz.func74.trans (congrArg some (by kernel_rfl))⟩
  f28 := Tryz.func75.trans (congrArg some (by kernel_rfl))
  f29 := Tryz.func76.trans (congrArg some (by kernel_rfl))
  f46 := ⟨Tryz.f89.name, by decide, Tryz.func89.trans (congrArg some (by kernel_rfl))⟩
  f47 := Tryz.func90.trans (congrArg some (by kernel_rfl))
  f48 := Tryz.func91.trans (congrArg some (by kernel_rfl))
  f49 := ⟨Tryz.f92.name, by decide, Tryz.func92.trans (congrArg some (by kernel_rfl))⟩
  f50 := ⟨Tryz.f93.name, by decide, Tryz.func93.trans (congrArg some (by kernel_rfl))⟩
  f57 := ⟨Tryz.f103.name, by decide, Tryz.func103.trans (congrArg some (by kernel_rfl))⟩
  t0 := Tryz.underlying0
  a0 := Tryz.isAgg0
  z0 := Tryz.sizeOf0
  v0 := Tryz.zeroValue0
  t3 := Tryz.underlying3
  a3 := Tryz.isAgg3
  z3 := Tryz.sizeOf3
  v3 := Tryz.zeroValue3
  t4 := Tryz.underlying4
  a4 := Tryz.isAgg4
  z4 := Tryz.sizeOf4
  v4 := Tryz.zeroValue4
  t5 := Tryz.underlying5
  a5 := Tryz.isAgg5
  z5 := Tryz.sizeOf5
  v5 := Tryz.zeroValue5
  t9 := Tryz.underlying9
  a9 := Tryz.isAgg9
  z9 := Tryz.sizeOf9
  v9 := Tryz.zeroValue9
  t22 := Tryz.underlying22
  a22 := Tryz.isAgg22
  z22 := Tryz.sizeOf22
  v22 := Tryz.zeroValue22
  t25 := Tryz.underlying79
  a25 := Tryz.isAgg79
  z25 := Tryz.sizeOf79
  v25 := Tryz.zeroValue79
  t39 := Tryz.underlying76
  a39 := Tryz.isAgg76
  z39 := Tryz.sizeOf76
  v39 := Tryz.zeroValue76
  t45 := Tryz.underlying99
  a45 := Tryz.isAgg99
  z45 := Tryz.sizeOf99
  v45 := Tryz.zeroValue99
  t46 := Tryz.underlying100
  a46 := Tryz.isAgg100
  z46 := Tryz.sizeOf100
  v46 := Tryz.zeroValue100
  t50 := Tryz.underlying104
  a50 := Tryz.isAgg104
  z50 := Tryz.sizeOf104
  v50 := Tryz.zeroValue104
  t53 := Tryz.underlying107
  a53 := Tryz.isAgg107
  z53 := Tryz.sizeOf107
  v53 := Tryz.zeroValue107
  t55 := Tryz.underlying48
  a55 := Tryz.isAgg48
  z55 := Tryz.sizeOf48
  v55 := Tryz.zeroValue48
  t66 := Tryz.underlying121
  a66 := Tryz.isAgg121
  z66 := Tryz.sizeOf121
  v66 := Tryz.zeroValue121
  t70 := Tryz.underlying125
  a70 := Tryz.isAgg125
  z70 := Tryz.sizeOf125
  v70 := Tryz.zeroValue125
  t76 := Tryz.underlying139
  a76 := Tryz.isAgg139
  z76 := Tryz.sizeOf139
  v76 := Tryz.zeroValue139
  t77 := Tryz.underlying140
  a77 := Tryz.isAgg140
  z77 := Tryz.sizeOf140
  v77 := Tryz.zeroValue140 }
end Go.Proofs
