/- ops.Range; the document's Range. -/
import Derived.Test.YtphcnjbiojdalaaGreatDoorPart10
import Derived.Deep.RegionHeld3
import Derived.Deep.MidRow
namespace Go.Proofs.YtphcnjbiojdalaaGreatDoor
open Go.RowKit
set_option linter.unusedVariables false
set_option linter.unusedSimpArgs false
set_option maxRecDepth 100000

/-- The clock behind its last. -/
def endO (o : O) : Int := IntKind.u64.wrap (o.k + (lenO o : Int))
abbrev rangeV (o : O) : Value := .agg #[.int .u64 o.c, .int .u64 o.k, .int .u64 (endO o)]
theorem lenO_le (o : O) : lenO o ≤ o.tx.size + 1 := by
  unfold lenO; split
  · have h : (rsOf o.tx.data.toList).length ≤ o.tx.size := by have := rsOf_len o.tx.data.toList; simpa using this
    omega
  · omega
theorem heap_two (w : World) (a b : Obj) : ((w.alloc a).alloc b).heap[w.heap.size]? = some a ∧ ((w.alloc a).alloc b).heap[w.heap.size + 1]? = some b := by
  refine ⟨?_, ?_⟩
  · rw [Below.heap_alloc _ _ _ (by simp)]; exact heap_alloc_new _ _
  · have := heap_alloc_new (w.alloc a) b
    simpa using this
/-- An operation's box. -/
def OpAt (B : Nat) (o : O) (W : World) : Prop := W.heap[B]? = some (opO o)
theorem rangeAt_of {W : World} {B : Nat} {o : O} (h : OpAt B o W) : W.rangeAt B 0 o.vals.toList := by
  intro j v hv
  rw [Nat.zero_add, cell_of_block (i := j) h]
  simpa using hv
theorem OpAt.q0 {W : World} {B : Nat} {o : O} (h : OpAt B o W) : W.cell? ⟨B, 0, none⟩ = some (.int .u64 o.c) := by rw [cell_of_block h]; rfl
theorem OpAt.q1 {W : World} {B : Nat} {o : O} (h : OpAt B o W) : W.cell? ⟨B, 1, none⟩ = some (.int .u64 o.k) := by rw [cell_of_block h]; rfl
theorem OpAt.q2 {W : World} {B : Nat} {o : O} (h : OpAt B o W) : W.cell? ⟨B, 2, none⟩ = some (.int .i64 o.kind) := by rw [cell_of_block h]; rfl
theorem OpAt.q3 {W : World} {B : Nat} {o : O} (h : OpAt B o W) : W.cell? ⟨B, 3, none⟩ = some (.int .u64 o.st) := by rw [cell_of_block h]; rfl
theorem OpAt.q4 {W : World} {B : Nat} {o : O} (h : OpAt B o W) : W.cell? ⟨B, 4, none⟩ = some (.int .u64 o.lc) := by rw [cell_of_block h]; rfl
theorem OpAt.q5 {W : World} {B : Nat} {o : O} (h : OpAt B o W) : W.cell? ⟨B, 5, none⟩ = some (.int .u64 o.lk) := by rw [cell_of_block h]; rfl
theorem OpAt.q6 {W : World} {B : Nat} {o : O} (h : OpAt B o W) : W.cell? ⟨B, 6, none⟩ = some (.int .u64 o.rc) := by rw [cell_of_block h]; rfl
theorem OpAt.q7 {W : World} {B : Nat} {o : O} (h : OpAt B o W) : W.cell? ⟨B, 7, none⟩ = some (.int .u64 o.rk) := by rw [cell_of_block h]; rfl
theorem OpAt.q8 {W : World} {B : Nat} {o : O} (h : OpAt B o W) : W.cell? ⟨B, 8, none⟩ = some (.string o.tx) := by rw [cell_of_block h]; rfl
theorem OpAt.q9 {W : World} {B : Nat} {o : O} (h : OpAt B o W) : W.cell? ⟨B, 9, none⟩ = some (.int .i64 o.vk) := by rw [cell_of_block h]; rfl
theorem OpAt.q10 {W : World} {B : Nat} {o : O} (h : OpAt B o W) : W.cell? ⟨B, 10, none⟩ = some (.int .i64 o.vn) := by rw [cell_of_block h]; rfl
theorem OpAt.q11 {W : World} {B : Nat} {o : O} (h : OpAt B o W) : W.cell? ⟨B, 11, none⟩ = some (.float .f64 o.vf) := by rw [cell_of_block h]; rfl
theorem OpAt.q12 {W : World} {B : Nat} {o : O} (h : OpAt B o W) : W.cell? ⟨B, 12, none⟩ = some (.string o.vs) := by rw [cell_of_block h]; rfl
theorem OpAt.q13 {W : World} {B : Nat} {o : O} (h : OpAt B o W) : W.cell? ⟨B, 13, none⟩ = some (.string o.ky) := by rw [cell_of_block h]; rfl
theorem OpAt.q14 {W : World} {B : Nat} {o : O} (h : OpAt B o W) : W.cell? ⟨B, 14, none⟩ = some (.int .u64 o.pc) := by rw [cell_of_block h]; rfl
theorem OpAt.q15 {W : World} {B : Nat} {o : O} (h : OpAt B o W) : W.cell? ⟨B, 15, none⟩ = some (.int .u64 o.pk) := by rw [cell_of_block h]; rfl
theorem OpAt.q16 {W : World} {B : Nat} {o : O} (h : OpAt B o W) : W.cell? ⟨B, 16, none⟩ = some (.int .u64 o.fc) := by rw [cell_of_block h]; rfl
theorem OpAt.q17 {W : World} {B : Nat} {o : O} (h : OpAt B o W) : W.cell? ⟨B, 17, none⟩ = some (.int .u64 o.fk) := by rw [cell_of_block h]; rfl
theorem OpAt.q18 {W : World} {B : Nat} {o : O} (h : OpAt B o W) : W.cell? ⟨B, 18, none⟩ = some (.bool o.fa) := by rw [cell_of_block h]; rfl
theorem OpAt.q19 {W : World} {B : Nat} {o : O} (h : OpAt B o W) : W.cell? ⟨B, 19, none⟩ = some (.int .u64 o.tc) := by rw [cell_of_block h]; rfl
theorem OpAt.q20 {W : World} {B : Nat} {o : O} (h : OpAt B o W) : W.cell? ⟨B, 20, none⟩ = some (.int .u64 o.tk) := by rw [cell_of_block h]; rfl
theorem OpAt.q21 {W : World} {B : Nat} {o : O} (h : OpAt B o W) : W.cell? ⟨B, 21, none⟩ = some (.bool o.ta) := by rw [cell_of_block h]; rfl
theorem put3 {w : World} {R : Nat} {x0 x1 x2 : Value} {t : TypeId} (a0 a1 a2 : Value) (h : w.heap[R]? = some (.cells #[x0, x1, x2] t (0, 0))) :
    (((w.setCell ⟨R, 0, none⟩ a0).setCell ⟨R, 1, none⟩ a1).setCell ⟨R, 2, none⟩ a2).heap[R]? = some (.cells #[a0, a1, a2] t (0, 0)) := by
  have h0 := heap_setCell_same w R 0 a0 h
  have h1 := heap_setCell_same _ R 1 a1 h0
  have h2 := heap_setCell_same _ R 2 a2 h1
  rw [h2]; rfl
theorem touch3 (w : World) (R : Nat) (a0 a1 a2 : Value) : Touch (· = R) w (((w.setCell ⟨R, 0, none⟩ a0).setCell ⟨R, 1, none⟩ a1).setCell ⟨R, 2, none⟩ a2) := by
  have t0 : Touch (· = R) w (w.setCell ⟨R, 0, none⟩ a0) := (Touch.refl _ w).setCell ⟨R, 0, none⟩ a0 (fun _ => rfl)
  have t1 := t0.setCell ⟨R, 1, none⟩ a1 (fun _ => rfl)
  exact t1.setCell ⟨R, 2, none⟩ a2 (fun _ => rfl)

set_option maxHeartbeats 4000000 in
theorem ops_range (o : O) (hs : o.tx.size ≤ 4611686018427387904) (w : World) (hU : TabsU w) : Calls Tryz.prog 18 #[o.val] w fun e w' => e = .returned (rangeV o) ∧ Touch (fun _ => False) w w' := by
  have HL : Hid (∀ W, Touch (fun _ => False) w W → Calls Tryz.prog 17 #[o.val] W fun e w' => e = .returned (.int .i64 (lenO o : Int)) ∧ Touch (fun _ => False) W w') := fun W t => ops_len o hs W (hU.keep t)
  have hle := lenO_le o
  have hw1 : IntKind.u64.wrap (lenO o : Int) = (lenO o : Int) := wrap_u64_small _ (by omega) (by omega)
  have HE : Hid (endO o = IntKind.u64.wrap (o.k + (lenO o : Int))) := rfl
  clear hle hs hU
  go_enter Tryz.func18, Tryz.ntmps18
  go_wp2_with fail
  obtain ⟨W0, hW0⟩ : ∃ W0, Hid (W0 = (w.alloc (opO o)).alloc (.cells #[.int .u64 0, .int .u64 0, .int .u64 0] 41)) := ⟨_, Eq.refl _⟩
  have HB0 : Hid (W0.drew.heap[w.heap.size]? = some (opO o)) := by rw [hW0.out]; exact (heap_two w _ _).1
  have HR0 : Hid (W0.drew.heap[w.heap.size + 1]? = some (.cells #[.int .u64 0, .int .u64 0, .int .u64 0] 41)) := by rw [hW0.out]; exact (heap_two w _ _).2
  have HT0 : Hid (Touch (fun _ => False) w W0.drew) := by rw [hW0.out]; exact (((Touch.refl _ _).alloc _).alloc _).drew
  have hS0 : OpAt w.heap.size o W0.drew := HB0.out
  rw [← hW0.out]
  clear hW0
  refine wp_region_held_drew (S := OpAt w.heap.size o) (by kernel_rfl) hS0 (fun hHeld => ?_)
  refine wpAnyH_take (i := 0) (oi := { dst := some 3, op := Go.Op.fieldAddr 31 (Go.Operand.tmp 1) 0, type := 0, pos := "ops.go:29", after := #[], guard := none }) (v := .pointer (some ⟨w.heap.size, 0, none⟩)) rfl (by kernel_rfl) (by kernel_rfl) (by kernel_rfl) (fun _ _ _ h => h) (Or.inl ⟨by rfl, ?_⟩) hHeld ?_
  · intro w hSw; clear hSw; go_simp
  simp only [Act.put, List.setIfInBounds_toArray]
  refine wpAnyH_take (i := 1) (oi := { dst := some 4, op := Go.Op.fieldAddr 24 (Go.Operand.tmp 3) 0, type := 0, pos := "ops.go:29", after := #[{ on := 0, ground := Go.Ground.data }], guard := none }) (v := .pointer (some ⟨w.heap.size, 0, none⟩)) rfl (by kernel_rfl) (by kernel_rfl) (by kernel_rfl) (fun _ _ _ h => h) (Or.inl ⟨by rfl, ?_⟩) hHeld ?_
  · intro w hSw; clear hSw; go_simp
  simp only [Act.put, List.setIfInBounds_toArray]
  refine wpAnyH_take (i := 2) (oi := { dst := some 5, op := Go.Op.load 22 (Go.Operand.tmp 4), type := 22, pos := "ops.go:29", after := #[{ on := 1, ground := Go.Ground.data }], guard := none }) (v := .int .u64 o.c) rfl (by kernel_rfl) (by kernel_rfl) (by kernel_rfl) (fun _ _ _ h => h) (Or.inl ⟨by rfl, ?_⟩) hHeld ?_
  · intro w hSw; have hq := hSw.q0; clear hSw; go_simp
  simp only [Act.put, List.setIfInBounds_toArray]
  refine wpAnyH_take (i := 3) (oi := { dst := some 6, op := Go.Op.fieldAddr 31 (Go.Operand.tmp 1) 0, type := 0, pos := "ops.go:29", after := #[], guard := none }) (v := .pointer (some ⟨w.heap.size, 0, none⟩)) rfl (by kernel_rfl) (by kernel_rfl) (by kernel_rfl) (fun _ _ _ h => h) (Or.inl ⟨by rfl, ?_⟩) hHeld ?_
  · intro w hSw; clear hSw; go_simp
  simp only [Act.put, List.setIfInBounds_toArray]
  refine wpAnyH_take (i := 4) (oi := { dst := some 7, op := Go.Op.fieldAddr 24 (Go.Operand.tmp 6) 1, type := 0, pos := "ops.go:29", after := #[{ on := 3, ground := Go.Ground.data }], guard := none }) (v := .pointer (some ⟨w.heap.size, 1, none⟩)) rfl (by kernel_rfl) (by kernel_rfl) (by kernel_rfl) (fun _ _ _ h => h) (Or.inl ⟨by rfl, ?_⟩) hHeld ?_
  · intro w hSw; clear hSw; go_simp
  simp only [Act.put, List.setIfInBounds_toArray]
  refine wpAnyH_take (i := 5) (oi := { dst := some 8, op := Go.Op.load 22 (Go.Operand.tmp 7), type := 22, pos := "ops.go:29", after := #[{ on := 4, ground := Go.Ground.data }], guard := none }) (v := .int .u64 o.k) rfl (by kernel_rfl) (by kernel_rfl) (by kernel_rfl) (fun _ _ _ h => h) (Or.inl ⟨by rfl, ?_⟩) hHeld ?_
  · intro w hSw; have hq := hSw.q1; clear hSw; go_simp
  simp only [Act.put, List.setIfInBounds_toArray]
  refine wpAnyH_take (i := 6) (oi := { dst := some 9, op := Go.Op.fieldAddr 31 (Go.Operand.tmp 1) 0, type := 0, pos := "ops.go:29", after := #[], guard := none }) (v := .pointer (some ⟨w.heap.size, 0, none⟩)) rfl (by kernel_rfl) (by kernel_rfl) (by kernel_rfl) (fun _ _ _ h => h) (Or.inl ⟨by rfl, ?_⟩) hHeld ?_
  · intro w hSw; clear hSw; go_simp
  simp only [Act.put, List.setIfInBounds_toArray]
  refine wpAnyH_take (i := 7) (oi := { dst := some 10, op := Go.Op.fieldAddr 24 (Go.Operand.tmp 9) 1, type := 0, pos := "ops.go:29", after := #[{ on := 6, ground := Go.Ground.data }], guard := none }) (v := .pointer (some ⟨w.heap.size, 1, none⟩)) rfl (by kernel_rfl) (by kernel_rfl) (by kernel_rfl) (fun _ _ _ h => h) (Or.inl ⟨by rfl, ?_⟩) hHeld ?_
  · intro w hSw; clear hSw; go_simp
  simp only [Act.put, List.setIfInBounds_toArray]
  refine wpAnyH_take (i := 8) (oi := { dst := some 11, op := Go.Op.load 22 (Go.Operand.tmp 10), type := 22, pos := "ops.go:29", after := #[{ on := 7, ground := Go.Ground.data }], guard := none }) (v := .int .u64 o.k) rfl (by kernel_rfl) (by kernel_rfl) (by kernel_rfl) (fun _ _ _ h => h) (Or.inl ⟨by rfl, ?_⟩) hHeld ?_
  · intro w hSw; have hq := hSw.q1; clear hSw; go_simp
  simp only [Act.put, List.setIfInBounds_toArray]
  refine wpAnyH_take (i := 9) (oi := { dst := some 12, op := Go.Op.load 31 (Go.Operand.tmp 1), type := 31, pos := "ops.go:29", after := #[], guard := none }) (v := o.val) rfl (by kernel_rfl) (by kernel_rfl) (by kernel_rfl) (fun _ _ _ h => h) (yieldsIf_load_mid (by rfl) 31 (.tmp 1) rfl w.heap.size 0 rfl o.vals.toList _ (fun w hw => rangeAt_of hw) Tryz.underlying31 rfl (by kernel_rfl)) hHeld ?_
  simp only [Act.put, List.setIfInBounds_toArray]
  refine wpAnyH_ready (rs := [10]) (by kernel_rfl) (by simp) ?_
  refine AllReadyH.cons (o := { dst := some 13, op := Go.Op.call { callee := Go.Callee.value (Go.Operand.func 17), args := #[Go.Operand.tmp 12], argTypes := #[31] }, type := 3, pos := "ops.go:29", after := #[{ on := 9, ground := Go.Ground.data }], guard := none }) rfl (fun K hK => ?_) AllReadyH.nil
  go_simp
  refine (HL.out _ HT0.out).mono ?_
  rintro e w2 ⟨rfl, hT⟩
  have hb2 : w2.heap[w.heap.size]? = some (opO o) := (hT.block _ (lt_of_heap HB0.out) id).trans HB0.out
  have hr2 : w2.heap[w.heap.size + 1]? = some (.cells #[.int .u64 0, .int .u64 0, .int .u64 0] 41) := (hT.block _ (lt_of_heap HR0.out) id).trans HR0.out
  have HR2 : Hid (w2.heap[w.heap.size + 1]? = some (.cells #[.int .u64 0, .int .u64 0, .int .u64 0] 41)) := hr2
  have HB2 : Hid (w2.heap[w.heap.size]? = some (opO o)) := hb2
  have HT2 : Hid (Touch (fun _ => False) w w2) := HT0.out.trans hT
  have hS2 : OpAt w.heap.size o w2 := hb2
  clear hT hb2 hr2
  refine hK.out _ _ hS2 (fun hHeld => ?_)
  clear hK K hS2
  refine wpAnyH_take (i := 11) (oi := { dst := some 14, op := Go.Op.convert 3 22 (Go.Operand.tmp 13), type := 22, pos := "ops.go:29", after := #[{ on := 10, ground := Go.Ground.data }], guard := none }) (v := .int .u64 (lenO o : Int)) rfl (by kernel_rfl) (by kernel_rfl) (by kernel_rfl) (fun _ _ _ h => h) (Or.inl ⟨by rfl, ?_⟩) hHeld ?_
  · intro w hSw; clear hSw; go_simp
  simp only [Act.put, List.setIfInBounds_toArray]
  refine wpAnyH_take (i := 12) (oi := { dst := some 15, op := Go.Op.binOp Go.BinOp.add 22 (Go.Operand.tmp 11) (Go.Operand.tmp 14) 22, type := 22, pos := "ops.go:29", after := #[{ on := 8, ground := Go.Ground.data }, { on := 11, ground := Go.Ground.data }], guard := none }) (v := .int .u64 (IntKind.u64.wrap (o.k + (lenO o : Int)))) rfl (by kernel_rfl) (by kernel_rfl) (by kernel_rfl) (fun _ _ _ h => h) (Or.inl ⟨by rfl, ?_⟩) hHeld ?_
  · intro w hSw; clear hSw; go_simp
  simp only [Act.put, List.setIfInBounds_toArray]
  refine wpAnyH_take (i := 13) (oi := { dst := some 16, op := Go.Op.build 41 #[(0, Go.Operand.tmp 5), (1, Go.Operand.tmp 8), (2, Go.Operand.tmp 15)], type := 41, pos := "ops.go:29", after := #[{ on := 2, ground := Go.Ground.data }, { on := 5, ground := Go.Ground.data }, { on := 12, ground := Go.Ground.data }], guard := none }) (v := .agg #[.int .u64 o.c, .int .u64 o.k, .int .u64 (IntKind.u64.wrap (o.k + (lenO o : Int)))]) rfl (by kernel_rfl) (by kernel_rfl) (by kernel_rfl) (fun _ _ _ h => h) (Or.inl ⟨by rfl, ?_⟩) hHeld ?_
  · intro w hSw; clear hSw; go_simp
  simp only [Act.put, List.setIfInBounds_toArray]
  have r0 : w2.cell? ⟨w.heap.size + 1, 0, none⟩ = some (.int .u64 0) := by rw [cell_of_block HR2.out]; rfl
  have r1 : w2.cell? ⟨w.heap.size + 1, 1, none⟩ = some (.int .u64 0) := by rw [cell_of_block HR2.out]; rfl
  have r2 : w2.cell? ⟨w.heap.size + 1, 2, none⟩ = some (.int .u64 0) := by rw [cell_of_block HR2.out]; rfl
  have z0 : w2.frozen? ⟨w.heap.size + 1, 0, none⟩ = false := free_of_block HR2.out
  have z1 : w2.frozen? ⟨w.heap.size + 1, 1, none⟩ = false := free_of_block HR2.out
  have z2 : w2.frozen? ⟨w.heap.size + 1, 2, none⟩ = false := free_of_block HR2.out
  refine wpAnyH_ready (rs := [14]) (by kernel_rfl) (by simp) ?_
  refine AllReadyH.cons (o := { dst := none, op := Go.Op.store 41 (Go.Operand.tmp 2) (Go.Operand.tmp 16), type := 0, pos := "ops.go:29", after := #[{ on := 13, ground := Go.Ground.data }, { on := 10, ground := Go.Ground.chain }, { on := 0, ground := Go.Ground.phase }, { on := 1, ground := Go.Ground.phase }, { on := 2, ground := Go.Ground.phase }, { on := 3, ground := Go.Ground.phase }, { on := 4, ground := Go.Ground.phase }, { on := 5, ground := Go.Ground.phase }, { on := 6, ground := Go.Ground.phase }, { on := 7, ground := Go.Ground.phase }, { on := 8, ground := Go.Ground.phase }, { on := 9, ground := Go.Ground.phase }, { on := 10, ground := Go.Ground.phase }, { on := 11, ground := Go.Ground.phase }, { on := 12, ground := Go.Ground.phase }, { on := 13, ground := Go.Ground.phase }], guard := none }) rfl (fun K hK => ?_) AllReadyH.nil
  clear hHeld
  go_simp
  have hB9 := put3 (.int .u64 o.c) (.int .u64 o.k) (.int .u64 (IntKind.u64.wrap (o.k + (lenO o : Int)))) HR2.out
  have tt := touch3 w2 (w.heap.size + 1) (.int .u64 o.c) (.int .u64 o.k) (.int .u64 (IntKind.u64.wrap (o.k + (lenO o : Int))))
  have hS9 : OpAt w.heap.size o (((w2.setCell ⟨w.heap.size + 1, 0, none⟩ (.int .u64 o.c)).setCell ⟨w.heap.size + 1, 1, none⟩ (.int .u64 o.k)).setCell ⟨w.heap.size + 1, 2, none⟩ (.int .u64 (IntKind.u64.wrap (o.k + (lenO o : Int))))) := (tt.block w.heap.size (lt_of_heap HB2.out) (by omega)).trans HB2.out
  have HT9 : Hid (Touch (fun _ => False) w (((w2.setCell ⟨w.heap.size + 1, 0, none⟩ (.int .u64 o.c)).setCell ⟨w.heap.size + 1, 1, none⟩ (.int .u64 o.k)).setCell ⟨w.heap.size + 1, 2, none⟩ (.int .u64 (IntKind.u64.wrap (o.k + (lenO o : Int)))))) := HT2.out.then tt (fun i hi e => by omega)
  refine hK.out _ _ hS9 (fun hHeld => ?_)
  clear hK K hS9 tt
  refine wpAnyH_done (by kernel_rfl) ?_ _
  clear hHeld
  have f0 := cell_of_block (i := 0) hB9
  have f1 := cell_of_block (i := 1) hB9
  have f2 := cell_of_block (i := 2) hB9
  go_wp2_with fail
  refine bodyPost_ret (v := rangeV o) ?_ rfl ⟨rfl, HT9.out⟩
  simp [results, Tryz.results18, go_sem, f0, f1, f2, HE.out]

set_option maxHeartbeats 4000000 in
theorem ref_range (o : O) (hs : o.tx.size ≤ 17592186044416) (w : World) : Calls Tryz.prog 19 #[o.val] w fun e w' => e = .returned (rangeV o) ∧ Touch (fun _ => False) w w' := by
  have HL : Hid (∀ W, Touch (fun _ => False) w W → Calls Tryz.prog 13 #[o.val] W fun e w' => e = .returned (.int .i64 (lenO o : Int)) ∧ Touch (fun _ => False) W w') := fun W t => ref_lenO o hs W
  have hle := lenO_le o
  have hw1 : IntKind.u64.wrap (lenO o : Int) = (lenO o : Int) := wrap_u64_small _ (by omega) (by omega)
  have HE : Hid (endO o = IntKind.u64.wrap (o.k + (lenO o : Int))) := rfl
  clear hle hs
  go_enter Tryz.func19, Tryz.ntmps19
  go_wp2_with fail
  obtain ⟨W0, hW0⟩ : ∃ W0, Hid (W0 = (w.alloc (opO o)).alloc (.cells #[.int .u64 0, .int .u64 0, .int .u64 0] 41)) := ⟨_, Eq.refl _⟩
  have HB0 : Hid (W0.drew.heap[w.heap.size]? = some (opO o)) := by rw [hW0.out]; exact (heap_two w _ _).1
  have HR0 : Hid (W0.drew.heap[w.heap.size + 1]? = some (.cells #[.int .u64 0, .int .u64 0, .int .u64 0] 41)) := by rw [hW0.out]; exact (heap_two w _ _).2
  have HT0 : Hid (Touch (fun _ => False) w W0.drew) := by rw [hW0.out]; exact (((Touch.refl _ _).alloc _).alloc _).drew
  have hS0 : OpAt w.heap.size o W0.drew := HB0.out
  rw [← hW0.out]
  clear hW0
  refine wp_region_held_drew (S := OpAt w.heap.size o) (by kernel_rfl) hS0 (fun hHeld => ?_)
  refine wpAnyH_take (i := 0) (oi := { dst := some 3, op := Go.Op.fieldAddr 31 (Go.Operand.tmp 1) 0, type := 0, pos := "quireref8.go:84", after := #[], guard := none }) (v := .pointer (some ⟨w.heap.size, 0, none⟩)) rfl (by kernel_rfl) (by kernel_rfl) (by kernel_rfl) (fun _ _ _ h => h) (Or.inl ⟨by rfl, ?_⟩) hHeld ?_
  · intro w hSw; clear hSw; go_simp
  simp only [Act.put, List.setIfInBounds_toArray]
  refine wpAnyH_take (i := 1) (oi := { dst := some 4, op := Go.Op.fieldAddr 24 (Go.Operand.tmp 3) 0, type := 0, pos := "quireref8.go:84", after := #[{ on := 0, ground := Go.Ground.data }], guard := none }) (v := .pointer (some ⟨w.heap.size, 0, none⟩)) rfl (by kernel_rfl) (by kernel_rfl) (by kernel_rfl) (fun _ _ _ h => h) (Or.inl ⟨by rfl, ?_⟩) hHeld ?_
  · intro w hSw; clear hSw; go_simp
  simp only [Act.put, List.setIfInBounds_toArray]
  refine wpAnyH_take (i := 2) (oi := { dst := some 5, op := Go.Op.load 22 (Go.Operand.tmp 4), type := 22, pos := "quireref8.go:84", after := #[{ on := 1, ground := Go.Ground.data }], guard := none }) (v := .int .u64 o.c) rfl (by kernel_rfl) (by kernel_rfl) (by kernel_rfl) (fun _ _ _ h => h) (Or.inl ⟨by rfl, ?_⟩) hHeld ?_
  · intro w hSw; have hq := hSw.q0; clear hSw; go_simp
  simp only [Act.put, List.setIfInBounds_toArray]
  refine wpAnyH_take (i := 3) (oi := { dst := some 6, op := Go.Op.fieldAddr 31 (Go.Operand.tmp 1) 0, type := 0, pos := "quireref8.go:84", after := #[], guard := none }) (v := .pointer (some ⟨w.heap.size, 0, none⟩)) rfl (by kernel_rfl) (by kernel_rfl) (by kernel_rfl) (fun _ _ _ h => h) (Or.inl ⟨by rfl, ?_⟩) hHeld ?_
  · intro w hSw; clear hSw; go_simp
  simp only [Act.put, List.setIfInBounds_toArray]
  refine wpAnyH_take (i := 4) (oi := { dst := some 7, op := Go.Op.fieldAddr 24 (Go.Operand.tmp 6) 1, type := 0, pos := "quireref8.go:84", after := #[{ on := 3, ground := Go.Ground.data }], guard := none }) (v := .pointer (some ⟨w.heap.size, 1, none⟩)) rfl (by kernel_rfl) (by kernel_rfl) (by kernel_rfl) (fun _ _ _ h => h) (Or.inl ⟨by rfl, ?_⟩) hHeld ?_
  · intro w hSw; clear hSw; go_simp
  simp only [Act.put, List.setIfInBounds_toArray]
  refine wpAnyH_take (i := 5) (oi := { dst := some 8, op := Go.Op.load 22 (Go.Operand.tmp 7), type := 22, pos := "quireref8.go:84", after := #[{ on := 4, ground := Go.Ground.data }], guard := none }) (v := .int .u64 o.k) rfl (by kernel_rfl) (by kernel_rfl) (by kernel_rfl) (fun _ _ _ h => h) (Or.inl ⟨by rfl, ?_⟩) hHeld ?_
  · intro w hSw; have hq := hSw.q1; clear hSw; go_simp
  simp only [Act.put, List.setIfInBounds_toArray]
  refine wpAnyH_take (i := 6) (oi := { dst := some 9, op := Go.Op.fieldAddr 31 (Go.Operand.tmp 1) 0, type := 0, pos := "quireref8.go:84", after := #[], guard := none }) (v := .pointer (some ⟨w.heap.size, 0, none⟩)) rfl (by kernel_rfl) (by kernel_rfl) (by kernel_rfl) (fun _ _ _ h => h) (Or.inl ⟨by rfl, ?_⟩) hHeld ?_
  · intro w hSw; clear hSw; go_simp
  simp only [Act.put, List.setIfInBounds_toArray]
  refine wpAnyH_take (i := 7) (oi := { dst := some 10, op := Go.Op.fieldAddr 24 (Go.Operand.tmp 9) 1, type := 0, pos := "quireref8.go:84", after := #[{ on := 6, ground := Go.Ground.data }], guard := none }) (v := .pointer (some ⟨w.heap.size, 1, none⟩)) rfl (by kernel_rfl) (by kernel_rfl) (by kernel_rfl) (fun _ _ _ h => h) (Or.inl ⟨by rfl, ?_⟩) hHeld ?_
  · intro w hSw; clear hSw; go_simp
  simp only [Act.put, List.setIfInBounds_toArray]
  refine wpAnyH_take (i := 8) (oi := { dst := some 11, op := Go.Op.load 22 (Go.Operand.tmp 10), type := 22, pos := "quireref8.go:84", after := #[{ on := 7, ground := Go.Ground.data }], guard := none }) (v := .int .u64 o.k) rfl (by kernel_rfl) (by kernel_rfl) (by kernel_rfl) (fun _ _ _ h => h) (Or.inl ⟨by rfl, ?_⟩) hHeld ?_
  · intro w hSw; have hq := hSw.q1; clear hSw; go_simp
  simp only [Act.put, List.setIfInBounds_toArray]
  refine wpAnyH_take (i := 9) (oi := { dst := some 12, op := Go.Op.load 31 (Go.Operand.tmp 1), type := 31, pos := "quireref8.go:84", after := #[], guard := none }) (v := o.val) rfl (by kernel_rfl) (by kernel_rfl) (by kernel_rfl) (fun _ _ _ h => h) (yieldsIf_load_mid (by rfl) 31 (.tmp 1) rfl w.heap.size 0 rfl o.vals.toList _ (fun w hw => rangeAt_of hw) Tryz.underlying31 rfl (by kernel_rfl)) hHeld ?_
  simp only [Act.put, List.setIfInBounds_toArray]
  refine wpAnyH_ready (rs := [10]) (by kernel_rfl) (by simp) ?_
  refine AllReadyH.cons (o := { dst := some 13, op := Go.Op.call { callee := Go.Callee.value (Go.Operand.func 13), args := #[Go.Operand.tmp 12], argTypes := #[31] }, type := 3, pos := "quireref8.go:84", after := #[{ on := 9, ground := Go.Ground.data }], guard := none }) rfl (fun K hK => ?_) AllReadyH.nil
  go_simp
  refine (HL.out _ HT0.out).mono ?_
  rintro e w2 ⟨rfl, hT⟩
  have hb2 : w2.heap[w.heap.size]? = some (opO o) := (hT.block _ (lt_of_heap HB0.out) id).trans HB0.out
  have hr2 : w2.heap[w.heap.size + 1]? = some (.cells #[.int .u64 0, .int .u64 0, .int .u64 0] 41) := (hT.block _ (lt_of_heap HR0.out) id).trans HR0.out
  have HR2 : Hid (w2.heap[w.heap.size + 1]? = some (.cells #[.int .u64 0, .int .u64 0, .int .u64 0] 41)) := hr2
  have HB2 : Hid (w2.heap[w.heap.size]? = some (opO o)) := hb2
  have HT2 : Hid (Touch (fun _ => False) w w2) := HT0.out.trans hT
  have hS2 : OpAt w.heap.size o w2 := hb2
  clear hT hb2 hr2
  refine hK.out _ _ hS2 (fun hHeld => ?_)
  clear hK K hS2
  refine wpAnyH_take (i := 11) (oi := { dst := some 14, op := Go.Op.convert 3 22 (Go.Operand.tmp 13), type := 22, pos := "quireref8.go:84", after := #[{ on := 10, ground := Go.Ground.data }], guard := none }) (v := .int .u64 (lenO o : Int)) rfl (by kernel_rfl) (by kernel_rfl) (by kernel_rfl) (fun _ _ _ h => h) (Or.inl ⟨by rfl, ?_⟩) hHeld ?_
  · intro w hSw; clear hSw; go_simp
  simp only [Act.put, List.setIfInBounds_toArray]
  refine wpAnyH_take (i := 12) (oi := { dst := some 15, op := Go.Op.binOp Go.BinOp.add 22 (Go.Operand.tmp 11) (Go.Operand.tmp 14) 22, type := 22, pos := "quireref8.go:84", after := #[{ on := 8, ground := Go.Ground.data }, { on := 11, ground := Go.Ground.data }], guard := none }) (v := .int .u64 (IntKind.u64.wrap (o.k + (lenO o : Int)))) rfl (by kernel_rfl) (by kernel_rfl) (by kernel_rfl) (fun _ _ _ h => h) (Or.inl ⟨by rfl, ?_⟩) hHeld ?_
  · intro w hSw; clear hSw; go_simp
  simp only [Act.put, List.setIfInBounds_toArray]
  refine wpAnyH_take (i := 13) (oi := { dst := some 16, op := Go.Op.build 41 #[(0, Go.Operand.tmp 5), (1, Go.Operand.tmp 8), (2, Go.Operand.tmp 15)], type := 41, pos := "quireref8.go:84", after := #[{ on := 2, ground := Go.Ground.data }, { on := 5, ground := Go.Ground.data }, { on := 12, ground := Go.Ground.data }], guard := none }) (v := .agg #[.int .u64 o.c, .int .u64 o.k, .int .u64 (IntKind.u64.wrap (o.k + (lenO o : Int)))]) rfl (by kernel_rfl) (by kernel_rfl) (by kernel_rfl) (fun _ _ _ h => h) (Or.inl ⟨by rfl, ?_⟩) hHeld ?_
  · intro w hSw; clear hSw; go_simp
  simp only [Act.put, List.setIfInBounds_toArray]
  have r0 : w2.cell? ⟨w.heap.size + 1, 0, none⟩ = some (.int .u64 0) := by rw [cell_of_block HR2.out]; rfl
  have r1 : w2.cell? ⟨w.heap.size + 1, 1, none⟩ = some (.int .u64 0) := by rw [cell_of_block HR2.out]; rfl
  have r2 : w2.cell? ⟨w.heap.size + 1, 2, none⟩ = some (.int .u64 0) := by rw [cell_of_block HR2.out]; rfl
  have z0 : w2.frozen? ⟨w.heap.size + 1, 0, none⟩ = false := free_of_block HR2.out
  have z1 : w2.frozen? ⟨w.heap.size + 1, 1, none⟩ = false := free_of_block HR2.out
  have z2 : w2.frozen? ⟨w.heap.size + 1, 2, none⟩ = false := free_of_block HR2.out
  refine wpAnyH_ready (rs := [14]) (by kernel_rfl) (by simp) ?_
  refine AllReadyH.cons (o := { dst := none, op := Go.Op.store 41 (Go.Operand.tmp 2) (Go.Operand.tmp 16), type := 0, pos := "quireref8.go:84", after := #[{ on := 13, ground := Go.Ground.data }, { on := 10, ground := Go.Ground.chain }, { on := 0, ground := Go.Ground.phase }, { on := 1, ground := Go.Ground.phase }, { on := 2, ground := Go.Ground.phase }, { on := 3, ground := Go.Ground.phase }, { on := 4, ground := Go.Ground.phase }, { on := 5, ground := Go.Ground.phase }, { on := 6, ground := Go.Ground.phase }, { on := 7, ground := Go.Ground.phase }, { on := 8, ground := Go.Ground.phase }, { on := 9, ground := Go.Ground.phase }, { on := 10, ground := Go.Ground.phase }, { on := 11, ground := Go.Ground.phase }, { on := 12, ground := Go.Ground.phase }, { on := 13, ground := Go.Ground.phase }], guard := none }) rfl (fun K hK => ?_) AllReadyH.nil
  clear hHeld
  go_simp
  have hB9 := put3 (.int .u64 o.c) (.int .u64 o.k) (.int .u64 (IntKind.u64.wrap (o.k + (lenO o : Int)))) HR2.out
  have tt := touch3 w2 (w.heap.size + 1) (.int .u64 o.c) (.int .u64 o.k) (.int .u64 (IntKind.u64.wrap (o.k + (lenO o : Int))))
  have hS9 : OpAt w.heap.size o (((w2.setCell ⟨w.heap.size + 1, 0, none⟩ (.int .u64 o.c)).setCell ⟨w.heap.size + 1, 1, none⟩ (.int .u64 o.k)).setCell ⟨w.heap.size + 1, 2, none⟩ (.int .u64 (IntKind.u64.wrap (o.k + (lenO o : Int))))) := (tt.block w.heap.size (lt_of_heap HB2.out) (by omega)).trans HB2.out
  have HT9 : Hid (Touch (fun _ => False) w (((w2.setCell ⟨w.heap.size + 1, 0, none⟩ (.int .u64 o.c)).setCell ⟨w.heap.size + 1, 1, none⟩ (.int .u64 o.k)).setCell ⟨w.heap.size + 1, 2, none⟩ (.int .u64 (IntKind.u64.wrap (o.k + (lenO o : Int)))))) := HT2.out.then tt (fun i hi e => by omega)
  refine hK.out _ _ hS9 (fun hHeld => ?_)
  clear hK K hS9 tt
  refine wpAnyH_done (by kernel_rfl) ?_ _
  clear hHeld
  have f0 := cell_of_block (i := 0) hB9
  have f1 := cell_of_block (i := 1) hB9
  have f2 := cell_of_block (i := 2) hB9
  go_wp2_with fail
  refine bodyPost_ret (v := rangeV o) ?_ rfl ⟨rfl, HT9.out⟩
  simp [results, Tryz.results19, go_sem, f0, f1, f2, HE.out]
end Go.Proofs.YtphcnjbiojdalaaGreatDoor
