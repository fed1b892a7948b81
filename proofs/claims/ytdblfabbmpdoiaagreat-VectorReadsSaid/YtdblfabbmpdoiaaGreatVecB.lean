/- Contracts of slices.Clone, Grow, Concat at clocks. -/
import Derived.Test.YtdblfabbmpdoiaaGreatRowC
import Derived.Lib.AppendZeros
namespace Go.Proofs.YtdblfabbmpdoiaaGreat
open Go.RowKit
set_option linter.unusedVariables false
set_option linter.unusedSimpArgs false
set_option maxRecDepth 100000

theorem NewC.empty (w : World) : NewC w (w.alloc (.cells #[] 50)) (.slice (some ⟨w.heap.size, 0, none⟩) 0 0) [] :=
  ⟨⟨rfl, .inr ⟨w.heap.size, 0, #[], rfl, Nat.zero_le _, heap_alloc_new _ _, Nat.le_refl _, Nat.zero_le _, rfl, rfl⟩⟩, (Touch.refl _ w).alloc _, fun k hk => by simp [Value.ownBlock] at hk; omega⟩
set_option maxHeartbeats 800000 in
theorem cloneC_any (l : List Ck) (v : Value) (w : World) (hs : SlC w v l) (hll : l.length ≤ 1073741824) :
    Calls Tryz.prog 45 #[v] w fun e w' => ∃ v', e = .returned v' ∧ NewC w w' v' l := by
  have heq := Lib.run_eql_slice_nil (P := Tryz.prog)
  obtain ⟨ao, cap, rfl, hno, _, _, hL⟩ := hs
  cases ao with
  | none =>
    have hl : l = [] := by
      rcases hL with h | ⟨b, o, e, _⟩
      · exact h
      · cases e
    subst hl
    have HQ : Hid (NewC w w (.slice none 0 0) []) := NewC.nil w w (Touch.refl _ _)
    go_enter Tryz.func45, Tryz.ntmps45
    go_wp2_with fail
    go_ret
    exact ⟨_, rfl, HQ.out⟩
  | some ad =>
    obtain ⟨v', w', hrun, hN, _⟩ := (NewC.empty w).app (some ad) l.length cap l rfl (fun h => by cases h) (hL.touch ((Touch.refl _ w).alloc _)) (by simp; omega)
    have HQ : Hid (NewC w w' v' l) := by rw [List.nil_append] at hN; exact hN
    obtain ⟨ao4, cap4, rfl, _⟩ := hN.shape
    clear hN hL hno
    go_enter Tryz.func45, Tryz.ntmps45
    go_wp2_with (at_builtin; refine wpList_append_runC rfl _ _ rfl _ _ _ rfl rfl hrun ?_)
    go_ret
    exact ⟨_, rfl, HQ.out⟩
set_option maxHeartbeats 800000 in
theorem growC_any (m : Int) (n : Nat) (hm : m = (n : Int)) (w : World) (hn : n ≤ 1073741824) :
    Calls Tryz.prog 57 #[.slice none 0 0, .int .i64 m] w fun e w' => ∃ v', e = .returned v' ∧ NewC w w' v' [] := by
  subst hm
  by_cases h0 : n = 0
  · subst h0
    have HQ : Hid (NewC w w (.slice none 0 0) []) := NewC.nil w w (Touch.refl _ _)
    go_enter Tryz.func57, Tryz.ntmps57
    go_wp2_with fail
    go_ret
    exact ⟨_, rfl, HQ.out⟩
  · obtain ⟨i0, hi, hz0, hz1, hz2⟩ := info_parts infoC
    have hcg := grownCap_ge w n 0 50
    have hcl := grownCap_le_maxLen w n 0 50 (by unfold maxLen; omega)
    have hrun : ∀ ty, (Builtin.append_ #[22, 3] ty #[.slice none 0 0, .int .i64 (n : Int)]).run Tryz.prog w = _ := fun ty => Lib.run_append_nil_zeros (P := Tryz.prog) w 22 3 ty 50 i0 _ .i64 .i64 Tryz.underlying22 Tryz.underlying3 hi hz0 n (by omega) (by omega) (by omega) (by rw [hz2]; omega)
    have HQ : Hid (NewC w (w.drew.alloc (.cells (Builtin.zeroCells (Value.agg #[.int .u64 0, .int .u64 0]).cells n ++ Builtin.zeroCells (Value.agg #[.int .u64 0, .int .u64 0]).cells (grownCap w n 0 50 - n)) 50)) (.slice (some ⟨w.heap.size, 0, none⟩) 0 (grownCap w n 0 50)) []) := by
      refine ⟨⟨rfl, .inr ⟨w.heap.size, _, _, rfl, Nat.zero_le _, heap_alloc_new w.drew _, Nat.zero_le _, hcl, ?_, ?_⟩⟩, (Touch.refl _ w).drew.alloc _, fun k hk => by simp [Value.ownBlock] at hk; omega⟩
      · have hz : (Value.agg #[.int .u64 0, .int .u64 0]).cells.size = 2 := rfl
        simp only [Array.size_append, size_zeroCells, hz, ← Nat.add_mul]
        congr 1
        omega
      · simp [cellsC]
    have hsl := fun W => sliceC_to (some ⟨w.heap.size, 0, none⟩) n (grownCap w n 0 50) 0 (Nat.zero_le _) W
    have hs0 := fun W => sliceC_to none 0 0 0 (Nat.zero_le _) W
    have hpos : 0 < (n : Int) := by omega
    generalize (grownCap w n 0 50) = cp at *
    generalize (w.drew.alloc (.cells (Builtin.zeroCells (Value.agg #[.int .u64 0, .int .u64 0]).cells n ++ Builtin.zeroCells (Value.agg #[.int .u64 0, .int .u64 0]).cells (cp - n)) 50)) = w1 at *
    clear hcg hcl hi hz0 hz1 hz2 h0
    go_enter Tryz.func57, Tryz.ntmps57
    go_wp2_with (at_builtin; refine Lib.wpList_append_run _ rfl _ _ _ _ rfl _ _ rfl rfl _ _ (hrun _) ?_)
    go_ret
    exact ⟨_, rfl, HQ.out⟩
set_option maxHeartbeats 1600000 in
theorem concatC_any (a b : List Ck) (va vb : Value) (w : World) (g : Nat) (c0 : w.cell? ⟨g, 0, none⟩ = some va) (c1 : w.cell? ⟨g, 1, none⟩ = some vb) (ha : SlC w va a) (hb : SlC w vb b) (hla : a.length ≤ 268435456) (hlb : b.length ≤ 268435456) :
    Calls Tryz.prog 42 #[.slice (some ⟨g, 0, none⟩) 2 2] w fun e w' => ∃ v', e = .returned v' ∧ NewC w w' v' (a ++ b) := by
  obtain ⟨aoa, capa, rfl, na, _, _, La⟩ := ha
  obtain ⟨aob, capb, rfl, nb, _, _, Lb⟩ := hb
  have HG := fun m h W => growC_any m (a.length + b.length) h W (by omega)
  have HL : Hid (LiesC w aoa a ∧ LiesC w aob b ∧ (aoa = none → capa = 0) ∧ (aob = none → capb = 0)) := ⟨La, Lb, na, nb⟩
  have hA : ¬ ((a.length : Int) < 0) := by omega
  have hAB : ¬ ((a.length : Int) + (b.length : Int) < 0) := by omega
  clear La Lb na nb
  go_enter Tryz.func42, Tryz.ntmps42
  go_wp2_with fail
  refine wp_loop_rounds 3 ?_
  rw [rounds_succ]
  go_wp2_with fail
  rw [rounds_succ]
  go_wp2_with fail
  rw [rounds_succ]
  go_wp2_with fail
  refine (HG _ (by omega) _).mono ?_
  rintro e w1 ⟨v1, rfl, hN⟩
  have d0 : w1.cell? ⟨g, 0, none⟩ = some (.slice aoa a.length capa) := (hN.touch.cell (World.block_lt_of_cell? _ _ c0) id 0).trans c0
  have d1 : w1.cell? ⟨g, 1, none⟩ = some (.slice aob b.length capb) := (hN.touch.cell (World.block_lt_of_cell? _ _ c1) id 1).trans c1
  obtain ⟨v2, w2, hrun2, hN2, _⟩ := hN.app aoa a.length capa a rfl HL.out.2.2.1 (HL.out.1.touch hN.touch) (by simp; omega)
  have e1 : w2.cell? ⟨g, 1, none⟩ = some (.slice aob b.length capb) := (hN2.touch.cell (World.block_lt_of_cell? _ _ c1) id 1).trans c1
  obtain ⟨v3, w3, hrun3, hN3, _⟩ := hN2.app aob b.length capb b rfl HL.out.2.2.2 (HL.out.2.1.touch hN2.touch) (by simp; omega)
  have HQ : Hid (NewC w w3 v3 (a ++ b)) := by rw [List.nil_append] at hN3; exact hN3
  obtain ⟨ao1, cap1, rfl, _⟩ := hN.shape
  obtain ⟨ao2, cap2, rfl, _⟩ := hN2.shape
  obtain ⟨ao3, cap3, rfl, _⟩ := hN3.shape
  clear hN hN2 hN3 c0 c1 HG
  go_wp2_with fail
  refine wp_loop_rounds 3 ?_
  rw [rounds_succ]
  go_wp2_with (at_builtin; refine wpList_append_runC rfl _ _ rfl _ _ _ rfl rfl hrun2 ?_)
  rw [rounds_succ]
  go_wp2_with (at_builtin; refine wpList_append_runC rfl _ _ rfl _ _ _ rfl rfl hrun3 ?_)
  rw [rounds_succ]
  go_wp2_with fail
  go_ret
  exact ⟨_, rfl, by
    have := HQ.out
    simp only [List.nil_append, List.length_append] at this
    exact this⟩
end Go.Proofs.YtdblfabbmpdoiaaGreat
