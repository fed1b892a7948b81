/- The document's names. -/
import Derived.Test.YtphcnjbiojdalaaGreatDoorPart14
import Derived.Test.YtphcnjbiojdalaaGreatDoorPart6
import Derived.Test.YtphcnjbiojdalaaGreatDoorPart13
namespace Go.Proofs.YtphcnjbiojdalaaGreatDoor
open Go.RowKit
set_option linter.unusedVariables false
set_option linter.unusedSimpArgs false
set_option maxRecDepth 100000

set_option maxHeartbeats 4000000 in
theorem rnames_any (o : O) (w : World) : Calls Tryz.prog 44 #[o.val] w fun e w' => e = .returned (.slice (some ⟨w.heap.size + 1, 0, none⟩) 5 5) ∧ Touch (fun _ => False) w w' ∧ w'.heap[w.heap.size + 1]? = some (.cells (namesA o) 24 (0, 0)) := by
  go_enter Tryz.func44, Tryz.ntmps44
  go_upto_region 1 with fail
  obtain ⟨W0, hW0⟩ : ∃ W0, Hid (W0 = w.alloc (opO o)) := ⟨_, Eq.refl _⟩
  have HT0 : Hid (Touch (fun _ => False) w W0) := by rw [hW0.out]; exact (Touch.refl _ _).alloc _
  have hA : OpAt w.heap.size o W0 := by rw [hW0.out]; exact heap_alloc_new _ _
  have hz : W0.heap.size = w.heap.size + 1 := by rw [hW0.out]; simp
  rw [← hW0.out]
  clear hW0
  have q4 := hA.q4
  have q5 := hA.q5
  have q6 := hA.q6
  have q7 := hA.q7
  have q14 := hA.q14
  have q15 := hA.q15
  have q16 := hA.q16
  have q17 := hA.q17
  have q19 := hA.q19
  have q20 := hA.q20
  clear hA
  go_wp2_with fail
  go_ret
  refine ⟨rfl, HT0.out.alloc _, ?_⟩
  rw [← hz]
  exact heap_alloc_new _ _
end Go.Proofs.YtphcnjbiojdalaaGreatDoor

/- How ops.inOrder compares two places: by ids, then as they stood. -/
namespace Go.Proofs.YtphcnjbiojdalaaGreatDoor
open Go.RowKit
set_option linter.unusedVariables false
set_option linter.unusedSimpArgs false
set_option maxRecDepth 100000

theorem isNaNI_any (x : Int) (w : World) : Calls Tryz.prog 103 #[.int .i64 x] w fun e w' => e = .returned (.bool false) ∧ w' = w := by
  go_enter Tryz.func103, Tryz.ntmps103
  go_wp2_with fail
  go_ret
  exact ⟨by simp, rfl⟩
set_option maxHeartbeats 800000 in
theorem compareI_any (x y : Int) (w : World) : Calls Tryz.prog 85 #[.int .i64 x, .int .i64 y] w fun e w' => e = .returned (.int .i64 (cmpU x y)) ∧ w' = w := by
  have hn := fun x W => isNaNI_any x W
  unfold cmpU
  by_cases h1 : x < y
  · rw [if_pos h1]
    go_enter Tryz.func85, Tryz.ntmps85
    go_wp2_with (go_at_call 103; refine (hn _ _).mono ?_; rintro e w' ⟨rfl, rfl⟩)
    go_ret
    exact ⟨rfl, rfl⟩
  · rw [if_neg h1]
    by_cases h2 : y < x
    · rw [if_pos h2]
      go_enter Tryz.func85, Tryz.ntmps85
      go_wp2_with (go_at_call 103; refine (hn _ _).mono ?_; rintro e w' ⟨rfl, rfl⟩)
      go_ret
      exact ⟨rfl, rfl⟩
    · rw [if_neg h2]
      go_enter Tryz.func85, Tryz.ntmps85
      go_wp2_with (go_at_call 103; refine (hn _ _).mono ?_; rintro e w' ⟨rfl, rfl⟩)
      go_ret
      exact ⟨rfl, rfl⟩
set_option maxHeartbeats 2000000 in
theorem byIdG_any (a b c d : Int) (w : World) : Calls Tryz.prog 84 #[idV a b, idV c d] w fun e w' => e = .returned (.int .i64 (cmpI a b c d)) ∧ Grows w w' := by
  have H1 : Hid (∀ W, Calls Tryz.prog 102 #[idV a b, idV c d] W fun e w' => e = .returned (.bool (lessI a b c d)) ∧ Grows W w') := fun W => (less_any a b c d W).mono (by rintro e w2 ⟨rfl, rfl⟩; exact ⟨rfl, ((Grows.refl _).alloc _).alloc _⟩)
  have H2 : Hid (∀ W, Calls Tryz.prog 102 #[idV c d, idV a b] W fun e w' => e = .returned (.bool (lessI c d a b)) ∧ Grows W w') := fun W => (less_any c d a b W).mono (by rintro e w2 ⟨rfl, rfl⟩; exact ⟨rfl, ((Grows.refl _).alloc _).alloc _⟩)
  have HG : Hid (cmpI a b c d = bif lessI a b c d then -1 else bif lessI c d a b then 1 else 0) := rfl
  generalize lessI a b c d = x at *
  generalize lessI c d a b = y at *
  go_enter Tryz.func84, Tryz.ntmps84
  go_wp2_with fail
  refine (H1.out _).mono ?_
  rintro e w1 ⟨rfl, gr⟩
  have t := gr.touch
  have hb := heap_two w (idO a b) (idO c d)
  have b0 := (t.block w.heap.size (lt_of_heap hb.1) id).trans hb.1
  have b1 := (t.block (w.heap.size + 1) (lt_of_heap hb.2) id).trans hb.2
  have q0 : w1.cell? ⟨w.heap.size, 0, none⟩ = some (.int .u64 a) := by rw [cell_of_block b0]; rfl
  have q1 : w1.cell? ⟨w.heap.size, 1, none⟩ = some (.int .u64 b) := by rw [cell_of_block b0]; rfl
  have q2 : w1.cell? ⟨w.heap.size + 1, 0, none⟩ = some (.int .u64 c) := by rw [cell_of_block b1]; rfl
  have q3 : w1.cell? ⟨w.heap.size + 1, 1, none⟩ = some (.int .u64 d) := by rw [cell_of_block b1]; rfl
  have HT : Hid (Grows w w1) := (((Grows.refl _).alloc _).alloc _).trans gr
  clear t gr hb b0 b1 H1
  cases x
  · go_wp2_with fail
    refine (H2.out _).mono ?_
    rintro e w2 ⟨rfl, t⟩
    have HT2 : Hid (Grows w w2) := HT.out.trans t
    clear t HT
    cases y
    · go_wp2_with fail
      go_ret
      exact ⟨by rw [HG.out]; rfl, HT2.out⟩
    · go_wp2_with fail
      go_ret
      exact ⟨by rw [HG.out]; rfl, HT2.out⟩
  · go_wp2_with fail
    go_ret
    exact ⟨by rw [HG.out]; rfl, HT.out⟩
def orI (x y : Int) : Int := if x = 0 then y else x
/-- By ids, then by places. -/
def cmpP (a b c d : Int) (i j : Int) : Int := orI (cmpI a b c d) (cmpU i j)
set_option maxHeartbeats 2000000 in
theorem inOrd1_any (a k c d : Int) (i j n : Nat) (hi : i < n) (hj : j < n) (B b o cap : Nat) (w : World) (hB : w.cell? ⟨B, 0, none⟩ = some (.slice (some ⟨b, o, none⟩) n cap))
    (a0 : w.cell? ⟨b, o + i * 22, none⟩ = some (.int .u64 a)) (a1 : w.cell? ⟨b, o + i * 22 + 1, none⟩ = some (.int .u64 k)) (c0 : w.cell? ⟨b, o + j * 22, none⟩ = some (.int .u64 c)) (c1 : w.cell? ⟨b, o + j * 22 + 1, none⟩ = some (.int .u64 d)) :
    Calls Tryz.prog 82 #[.int .i64 (i : Int), .int .i64 (j : Int), .pointer (some ⟨B, 0, none⟩)] w fun e w' => e = .returned (.int .i64 (cmpP a k c d i j)) ∧ Grows w w' := by
  have h1 := fun W => byIdG_any a k c d W
  have h2 := fun W => compareI_any (i : Int) (j : Int) W
  have h3 : ∀ (x y : Int) (W : World), Calls Tryz.prog 83 #[.slice (some ⟨W.heap.size, 0, none⟩) 2 2] (W.alloc (.cells #[.int .i64 x, .int .i64 y] 3)) fun e w' => e = .returned (.int .i64 (orI x y)) ∧ w' = W.alloc (.cells #[.int .i64 x, .int .i64 y] 3) := fun x y W => by
    have e := heap_alloc_new W (.cells #[.int .i64 x, .int .i64 y] 3)
    exact or_any x y _ _ (by rw [cell_of_block e]; rfl) (by rw [cell_of_block e]; rfl)
  have hkeep : Hid (∀ W, Grows w W → W.cell? ⟨B, 0, none⟩ = some (.slice (some ⟨b, o, none⟩) n cap) ∧ W.cell? ⟨b, o + i * 22, none⟩ = some (.int .u64 a) ∧ W.cell? ⟨b, o + i * 22 + 1, none⟩ = some (.int .u64 k) ∧ W.cell? ⟨b, o + j * 22, none⟩ = some (.int .u64 c) ∧ W.cell? ⟨b, o + j * 22 + 1, none⟩ = some (.int .u64 d) ∧ Hid (Grows w W)) := by
    intro W g
    have t := g.touch
    have q : ∀ b o v, w.cell? ⟨b, o, none⟩ = some v → W.cell? ⟨b, o, none⟩ = some v := fun b o v h => by
      rw [World.cell?_of_block (t.block _ (World.block_lt_of_cell? _ _ h) id)]; exact h
    exact ⟨q _ _ _ hB, q _ _ _ a0, q _ _ _ a1, q _ _ _ c0, q _ _ _ c1, g⟩
  have HP : Hid (cmpP a k c d i j = orI (cmpI a k c d) (cmpU i j)) := rfl
  have i1 : (0 : Int) ≤ (i : Int) := by omega
  have i2 : (i : Int) < (n : Int) := by omega
  have j1 : (0 : Int) ≤ (j : Int) := by omega
  have j2 : (j : Int) < (n : Int) := by omega
  have S0 := hkeep.out w.drew (Grows.refl w).drew
  generalize cmpI a k c d = x at *
  generalize cmpU i j = y at *
  clear hB a0 a1 c0 c1 hi hj
  go_enter Tryz.func82, Tryz.ntmps82
  go_wp2_with fail
  go_region_held3 (fun W => W.cell? ⟨B, 0, none⟩ = some (.slice (some ⟨b, o, none⟩) n cap) ∧ W.cell? ⟨b, o + i * 22, none⟩ = some (.int .u64 a) ∧ W.cell? ⟨b, o + i * 22 + 1, none⟩ = some (.int .u64 k) ∧ W.cell? ⟨b, o + j * 22, none⟩ = some (.int .u64 c) ∧ W.cell? ⟨b, o + j * 22 + 1, none⟩ = some (.int .u64 d) ∧ Hid (Grows w W)) (first | assumption)
    (first
      | (go_at_call 84; (with_reducible refine (h1 _).mono ?_); rintro e w1 ⟨rfl, g⟩; have hS2 := hkeep.out w1 ((Grows.refl w).drew.trans g); have hS3 := hkeep.out (w1.alloc (.cells #[.int .i64 x, .int .i64 y] 3)) (((Grows.refl w).drew.trans g).alloc _); clear g)
      | (go_at_call 85; (with_reducible refine (h2 _).mono ?_); rintro e w1 ⟨rfl, rfl⟩)
      | (go_at_call 83; (with_reducible refine (h3 _ _ _).mono ?_); rintro e w1 ⟨rfl, rfl⟩))
  all_goals (try go_wp2_with fail)
  all_goals go_ret
  all_goals exact ⟨by rw [HP.out]; rfl, by first | exact hS3.2.2.2.2.2.out⟩
end Go.Proofs.YtphcnjbiojdalaaGreatDoor
