/- Contracts of the small functions of vector: what a clock tells, the order of clocks. -/
import Derived.Test.YtdblfabbmpdoiaaGreatRowC
import Derived.Test.YtdblfabbmpdoiaaGreatIdB
namespace Go.Proofs.YtdblfabbmpdoiaaGreat
open Go.RowKit
set_option linter.unusedVariables false
set_option linter.unusedSimpArgs false
set_option maxRecDepth 100000

set_option maxHeartbeats 800000 in
theorem told_any (x : Ck) (w : World) : Calls Tryz.prog 30 #[ckV x] w fun e w' => e = .returned (.tuple #[ckV x.cap, .bool x.cap.ok]) ∧ Touch (fun _ => False) w w' := by
  have HR := fun W => right_any x.c (min x.k 9007199254740991) W
  have HO : Hid (x.cap.ok = (numOk x.c && numOk (min x.k 9007199254740991))) := rfl
  obtain ⟨c, k⟩ := x
  simp only at HR HO
  generalize (numOk c && numOk (min k 9007199254740991)) = b at *
  go_enter Tryz.func30, Tryz.ntmps30
  go_wp2_with fail
  go_region_with (go_at_call 41; (with_reducible refine (HR _).mono ?_); rintro e w' ⟨rfl, rfl⟩)
  all_goals (try go_wp2_with fail)
  all_goals refine bodyPost_ret (v := .tuple #[ckV ⟨c, min k 9007199254740991⟩, .bool b]) (by simp [results, Tryz.results30, go_sem]) rfl ?_
  all_goals exact ⟨by rw [HO.out]; rfl, ((((Touch.refl _ w).alloc _).alloc _).alloc _).drew⟩
theorem clientOf_any (x : Ck) (w : World) : Calls Tryz.prog 29 #[ckV x] w fun e w' => e = .returned (u64 x.c) ∧ w' = w.alloc (ckO x) := by
  obtain ⟨c, k⟩ := x
  go_enter Tryz.func29, Tryz.ntmps29
  go_wp2_with fail
  go_ret
  exact ⟨rfl, rfl⟩
def byC (a b : Ck) : Int := cmpU a.c b.c
set_option maxHeartbeats 800000 in
theorem byC_any (a b : Ck) (w : World) (B : Nat) (hB : w.cell? ⟨B, 0, none⟩ = some (.func (.func 29) #[] #[])) : Calls Tryz.prog 47 #[ckV a, ckV b, .pointer (some ⟨B, 0, none⟩)] w fun e w' => e = .returned (.int .i64 (byC a b)) ∧ Grows w w' := by
  have h1 := fun W => compare_any a.c b.c W
  have h2 := fun W => clientOf_any a W
  have h3 := fun W => clientOf_any b W
  unfold byC
  generalize cmpU a.c b.c = x at *
  obtain ⟨c, f⟩ := a
  obtain ⟨c', f'⟩ := b
  simp only at *
  have b0 : ((w.alloc (ckO ⟨c, f⟩)).alloc (ckO ⟨c', f'⟩)).heap[w.heap.size]? = some (ckO ⟨c, f⟩) := (Below.heap_alloc _ _ _ (by simp)).trans (heap_alloc_new w _)
  have b1 : ((w.alloc (ckO ⟨c, f⟩)).alloc (ckO ⟨c', f'⟩)).heap[w.heap.size + 1]? = some (ckO ⟨c', f'⟩) := by
    have := heap_alloc_new (w.alloc (ckO ⟨c, f⟩)) (ckO ⟨c', f'⟩)
    rwa [World.size_alloc] at this
  have hB2 : ((w.alloc (ckO ⟨c, f⟩)).alloc (ckO ⟨c', f'⟩)).cell? ⟨B, 0, none⟩ = some (.func (.func 29) #[] #[]) := ((((Touch.refl (fun _ => False) w).alloc _).alloc _).cell (World.block_lt_of_cell? _ _ hB) id 0).trans hB
  have S0 : (((w.alloc (ckO ⟨c, f⟩)).alloc (ckO ⟨c', f'⟩)).cell? ⟨B, 0, none⟩ = some (.func (.func 29) #[] #[]) ∧ ((w.alloc (ckO ⟨c, f⟩)).alloc (ckO ⟨c', f'⟩)).cell? ⟨w.heap.size, 0, none⟩ = some (u64 c) ∧ ((w.alloc (ckO ⟨c, f⟩)).alloc (ckO ⟨c', f'⟩)).cell? ⟨w.heap.size, 1, none⟩ = some (u64 f) ∧ ((w.alloc (ckO ⟨c, f⟩)).alloc (ckO ⟨c', f'⟩)).cell? ⟨w.heap.size + 1, 0, none⟩ = some (u64 c') ∧ ((w.alloc (ckO ⟨c, f⟩)).alloc (ckO ⟨c', f'⟩)).cell? ⟨w.heap.size + 1, 1, none⟩ = some (u64 f')) ∧ Hid (Grows w ((w.alloc (ckO ⟨c, f⟩)).alloc (ckO ⟨c', f'⟩))) :=
    ⟨⟨hB2, by rw [cell_of_block b0]; rfl, by rw [cell_of_block b0]; rfl, by rw [cell_of_block b1]; rfl, by rw [cell_of_block b1]; rfl⟩, ((Grows.refl w).alloc _).alloc _⟩
  have HK : Hid (∀ {W W1 W2 : World}, (W.cell? ⟨B, 0, none⟩ = some (.func (.func 29) #[] #[]) ∧ W.cell? ⟨w.heap.size, 0, none⟩ = some (u64 c) ∧ W.cell? ⟨w.heap.size, 1, none⟩ = some (u64 f) ∧ W.cell? ⟨w.heap.size + 1, 0, none⟩ = some (u64 c') ∧ W.cell? ⟨w.heap.size + 1, 1, none⟩ = some (u64 f')) ∧ Hid (Grows w W) → Grows W W1 → W2 = W1 → (W2.cell? ⟨B, 0, none⟩ = some (.func (.func 29) #[] #[]) ∧ W2.cell? ⟨w.heap.size, 0, none⟩ = some (u64 c) ∧ W2.cell? ⟨w.heap.size, 1, none⟩ = some (u64 f) ∧ W2.cell? ⟨w.heap.size + 1, 0, none⟩ = some (u64 c') ∧ W2.cell? ⟨w.heap.size + 1, 1, none⟩ = some (u64 f')) ∧ Hid (Grows w W2)) := by
    rintro W W1 W2 ⟨⟨k0, k1, k2, k3, k4⟩, g⟩ g2 rfl
    have go : ∀ (b o : Nat) (v : Value), W.cell? ⟨b, o, none⟩ = some v → W2.cell? ⟨b, o, none⟩ = some v := fun b o v hv => (g2.touch.cell (World.block_lt_of_cell? _ _ hv) id o).trans hv
    exact ⟨⟨go _ _ _ k0, go _ _ _ k1, go _ _ _ k2, go _ _ _ k3, go _ _ _ k4⟩, g.out.trans g2⟩
  have S1 := HK.out S0 (Grows.refl _).drew rfl
  clear b0 b1 hB2
  go_enter Tryz.func47, Tryz.ntmps47
  go_wp2_with fail
  go_region_held3 (fun W => (W.cell? ⟨B, 0, none⟩ = some (.func (.func 29) #[] #[]) ∧ W.cell? ⟨w.heap.size, 0, none⟩ = some (u64 c) ∧ W.cell? ⟨w.heap.size, 1, none⟩ = some (u64 f) ∧ W.cell? ⟨w.heap.size + 1, 0, none⟩ = some (u64 c') ∧ W.cell? ⟨w.heap.size + 1, 1, none⟩ = some (u64 f')) ∧ Hid (Grows w W)) (first | assumption)
    (first | (go_at_call 29; first | ((with_reducible refine (h2 _).mono ?_); rintro e w' ⟨rfl, hw'⟩; have S2 := HK.out (by assumption) ((Grows.refl _).alloc _) hw'; clear hw') | ((with_reducible refine (h3 _).mono ?_); rintro e w' ⟨rfl, hw'⟩; have S2 := HK.out (by assumption) ((Grows.refl _).alloc _) hw'; clear hw')) | (go_at_call 48; (with_reducible refine (h1 _).mono ?_); rintro e w' ⟨rfl, rfl⟩))
  all_goals (try go_wp2_with fail)
  all_goals go_ret
  all_goals exact ⟨rfl, S2.2.out⟩
end Go.Proofs.YtdblfabbmpdoiaaGreat
