/- The document's Check: the region of its loop. -/
import Derived.Test.YtegldlfbmaapiaaPart20
import Derived.Deep.RegionHeld3
import Derived.Deep.MidRow
namespace Go.Proofs.Ytegldlfbmaapiaa
open Go.RowKit
set_option linter.unusedVariables false
set_option linter.unusedSimpArgs false
set_option maxRecDepth 100000

/-- Is it one of its own clocks? -/
def ownB (o : O) (x y : Int) : Bool := (x == o.c) && (decide (o.k ≤ y) && decide (IntKind.u64.wrap (y - o.k) < (lenO o : Int)))
theorem Touch.drew_leftC {S : Nat → Prop} {a b : World} (h : Touch S a.drew b) : Touch S a b := ⟨h.os, h.tape, h.output, h.size, h.block⟩
set_option maxHeartbeats 8000000 in
theorem reg25 (o : O) (i : Nat) (hi : i < 5) (xc xk : Int) (B NB : Nat) (T : Array Value) (W : World) (hsz : T.size = 257) (h1 : T.getD 1 undef = .pointer (some ⟨B, 0, none⟩)) (h10 : T.getD 10 undef = .slice (some ⟨NB, 0, none⟩) 5 5) (h11 : T.getD 11 undef = .int .i64 (i : Int)) (hAt : OpAt B o W) (c0 : W.cell? ⟨NB, i * 2, none⟩ = some (.int .u64 xc)) (c1 : W.cell? ⟨NB, i * 2 + 1, none⟩ = some (.int .u64 xk))
    (HL : Hid (∀ W', Touch (fun _ => False) W W' → Calls Try.prog 36 #[o.val] W' fun e w' => e = .returned (.int .i64 (lenO o : Int)) ∧ Touch (fun _ => False) W' w')) (hw1 : IntKind.u64.wrap (lenO o : Int) = (lenO o : Int))
    {Q : Exit → Act → World → Prop} (hQ : ∀ c (A1 A2 : Array Value) ds w, Q (.panic c) ⟨A1, ds⟩ w → Q (.panic c) ⟨A2, ds⟩ w)
    (hk : ∀ T' W', T'.size = 257 → T'.getD 1 undef = .pointer (some ⟨B, 0, none⟩) → T'.getD 10 undef = .slice (some ⟨NB, 0, none⟩) 5 5 → T'.getD 11 undef = .int .i64 (i : Int) → T'.getD 256 undef = .bool (ownB o xc xk) → Touch (fun _ => False) W W' → Q .normal ⟨T', []⟩ W') :
    (Code.region 25 #[{ dst := some 222, op := Go.Op.move (Go.Operand.tmp 10), type := 64, pos := "quireref8.go:58", after := #[], guard := none }, { dst := some 223, op := Go.Op.move (Go.Operand.tmp 11), type := 3, pos := "quireref8.go:58", after := #[], guard := none }, { dst := some 224, op := Go.Op.indexAddr 64 (Go.Operand.tmp 222) (Go.Operand.tmp 223), type := 0, pos := "quireref8.go:58", after := #[{ on := 0, ground := Go.Ground.data }, { on := 1, ground := Go.Ground.data }], guard := none }, { dst := some 225, op := Go.Op.fieldAddr 34 (Go.Operand.tmp 224) 0, type := 0, pos := "quireref8.go:58", after := #[{ on := 2, ground := Go.Ground.data }], guard := none }, { dst := some 226, op := Go.Op.load 32 (Go.Operand.tmp 225), type := 32, pos := "quireref8.go:58", after := #[{ on := 3, ground := Go.Ground.data }], guard := none }, { dst := some 227, op := Go.Op.fieldAddr 41 (Go.Operand.tmp 1) 0, type := 0, pos := "quireref8.go:58", after := #[], guard := none }, { dst := some 228, op := Go.Op.fieldAddr 34 (Go.Operand.tmp 227) 0, type := 0, pos := "quireref8.go:58", after := #[{ on := 5, ground := Go.Ground.data }], guard := none }, { dst := some 229, op := Go.Op.load 32 (Go.Operand.tmp 228), type := 32, pos := "quireref8.go:58", after := #[{ on := 6, ground := Go.Ground.data }], guard := none }, { dst := some 230, op := Go.Op.binOp Go.BinOp.eql 32 (Go.Operand.tmp 226) (Go.Operand.tmp 229) 32, type := 4, pos := "quireref8.go:58", after := #[{ on := 4, ground := Go.Ground.data }, { on := 7, ground := Go.Ground.data }], guard := none }, { dst := some 231, op := Go.Op.move (Go.Operand.tmp 230), type := 4, pos := "quireref8.go:58", after := #[{ on := 8, ground := Go.Ground.data }], guard := none }, { dst := some 232, op := Go.Op.move (Go.Operand.tmp 10), type := 64, pos := "quireref8.go:58", after := #[{ on := 9, ground := Go.Ground.guard }], guard := some (9, true) }, { dst := some 233, op := Go.Op.move (Go.Operand.tmp 11), type := 3, pos := "quireref8.go:58", after := #[{ on := 9, ground := Go.Ground.guard }], guard := some (9, true) }, { dst := some 234, op := Go.Op.indexAddr 64 (Go.Operand.tmp 232) (Go.Operand.tmp 233), type := 0, pos := "quireref8.go:58", after := #[{ on := 10, ground := Go.Ground.data }, { on := 11, ground := Go.Ground.data }, { on := 9, ground := Go.Ground.guard }], guard := some (9, true) }, { dst := some 235, op := Go.Op.fieldAddr 34 (Go.Operand.tmp 234) 1, type := 0, pos := "quireref8.go:58", after := #[{ on := 12, ground := Go.Ground.data }, { on := 9, ground := Go.Ground.guard }], guard := some (9, true) }, { dst := some 236, op := Go.Op.load 32 (Go.Operand.tmp 235), type := 32, pos := "quireref8.go:58", after := #[{ on := 13, ground := Go.Ground.data }, { on := 9, ground := Go.Ground.guard }], guard := some (9, true) }, { dst := some 237, op := Go.Op.fieldAddr 41 (Go.Operand.tmp 1) 0, type := 0, pos := "quireref8.go:58", after := #[{ on := 9, ground := Go.Ground.guard }], guard := some (9, true) }, { dst := some 238, op := Go.Op.fieldAddr 34 (Go.Operand.tmp 237) 1, type := 0, pos := "quireref8.go:58", after := #[{ on := 15, ground := Go.Ground.data }, { on := 9, ground := Go.Ground.guard }], guard := some (9, true) }, { dst := some 239, op := Go.Op.load 32 (Go.Operand.tmp 238), type := 32, pos := "quireref8.go:58", after := #[{ on := 16, ground := Go.Ground.data }, { on := 9, ground := Go.Ground.guard }], guard := some (9, true) }, { dst := some 240, op := Go.Op.binOp Go.BinOp.geq 32 (Go.Operand.tmp 236) (Go.Operand.tmp 239) 32, type := 4, pos := "quireref8.go:58", after := #[{ on := 14, ground := Go.Ground.data }, { on := 17, ground := Go.Ground.data }, { on := 9, ground := Go.Ground.guard }], guard := some (9, true) }, { dst := some 241, op := Go.Op.pick (Go.Operand.tmp 231) (Go.Operand.tmp 240) (Go.Operand.const (Go.Value.bool false)), type := 4, pos := "quireref8.go:58", after := #[{ on := 9, ground := Go.Ground.data }, { on := 18, ground := Go.Ground.data }], guard := none }, { dst := some 242, op := Go.Op.move (Go.Operand.tmp 241), type := 4, pos := "quireref8.go:58", after := #[{ on := 19, ground := Go.Ground.data }, { on := 9, ground := Go.Ground.chain }], guard := none }, { dst := some 243, op := Go.Op.move (Go.Operand.tmp 10), type := 64, pos := "quireref8.go:58", after := #[{ on := 20, ground := Go.Ground.guard }], guard := some (20, true) }, { dst := some 244, op := Go.Op.move (Go.Operand.tmp 11), type := 3, pos := "quireref8.go:58", after := #[{ on := 20, ground := Go.Ground.guard }], guard := some (20, true) }, { dst := some 245, op := Go.Op.indexAddr 64 (Go.Operand.tmp 243) (Go.Operand.tmp 244), type := 0, pos := "quireref8.go:58", after := #[{ on := 21, ground := Go.Ground.data }, { on := 22, ground := Go.Ground.data }, { on := 20, ground := Go.Ground.guard }], guard := some (20, true) }, { dst := some 246, op := Go.Op.fieldAddr 34 (Go.Operand.tmp 245) 1, type := 0, pos := "quireref8.go:58", after := #[{ on := 23, ground := Go.Ground.data }, { on := 20, ground := Go.Ground.guard }], guard := some (20, true) }, { dst := some 247, op := Go.Op.load 32 (Go.Operand.tmp 246), type := 32, pos := "quireref8.go:58", after := #[{ on := 24, ground := Go.Ground.data }, { on := 20, ground := Go.Ground.guard }], guard := some (20, true) }, { dst := some 248, op := Go.Op.fieldAddr 41 (Go.Operand.tmp 1) 0, type := 0, pos := "quireref8.go:58", after := #[{ on := 20, ground := Go.Ground.guard }], guard := some (20, true) }, { dst := some 249, op := Go.Op.fieldAddr 34 (Go.Operand.tmp 248) 1, type := 0, pos := "quireref8.go:58", after := #[{ on := 26, ground := Go.Ground.data }, { on := 20, ground := Go.Ground.guard }], guard := some (20, true) }, { dst := some 250, op := Go.Op.load 32 (Go.Operand.tmp 249), type := 32, pos := "quireref8.go:58", after := #[{ on := 27, ground := Go.Ground.data }, { on := 20, ground := Go.Ground.guard }], guard := some (20, true) }, { dst := some 251, op := Go.Op.binOp Go.BinOp.sub 32 (Go.Operand.tmp 247) (Go.Operand.tmp 250) 32, type := 32, pos := "quireref8.go:58", after := #[{ on := 25, ground := Go.Ground.data }, { on := 28, ground := Go.Ground.data }, { on := 20, ground := Go.Ground.guard }], guard := some (20, true) }, { dst := some 252, op := Go.Op.load 41 (Go.Operand.tmp 1), type := 41, pos := "quireref8.go:58", after := #[{ on := 20, ground := Go.Ground.guard }], guard := some (20, true) }, { dst := some 253, op := Go.Op.call { callee := Go.Callee.value (Go.Operand.func 36), args := #[Go.Operand.tmp 252], argTypes := #[41] }, type := 3, pos := "quireref8.go:58", after := #[{ on := 30, ground := Go.Ground.data }, { on := 20, ground := Go.Ground.chain }, { on := 20, ground := Go.Ground.guard }], guard := some (20, true) }, { dst := some 254, op := Go.Op.convert 3 32 (Go.Operand.tmp 253), type := 32, pos := "quireref8.go:58", after := #[{ on := 31, ground := Go.Ground.data }, { on := 20, ground := Go.Ground.guard }], guard := some (20, true) }, { dst := some 255, op := Go.Op.binOp Go.BinOp.lss 32 (Go.Operand.tmp 251) (Go.Operand.tmp 254) 32, type := 4, pos := "quireref8.go:58", after := #[{ on := 29, ground := Go.Ground.data }, { on := 32, ground := Go.Ground.data }, { on := 20, ground := Go.Ground.guard }], guard := some (20, true) }, { dst := some 256, op := Go.Op.pick (Go.Operand.tmp 242) (Go.Operand.tmp 255) (Go.Operand.const (Go.Value.bool false)), type := 4, pos := "quireref8.go:58", after := #[{ on := 20, ground := Go.Ground.data }, { on := 33, ground := Go.Ground.data }], guard := none }] true).wp Try.prog Q ⟨T, []⟩ W := by
  have hg := getD_set
  have i1 : (0 : Int) ≤ (i : Int) := by omega
  have i2 : (i : Int) < 5 := by omega
  have hSk : Hid (∀ W', Touch (fun _ => False) W W' → OpAt B o W' ∧ W'.cell? ⟨NB, i * 2, none⟩ = some (.int .u64 xc) ∧ W'.cell? ⟨NB, i * 2 + 1, none⟩ = some (.int .u64 xk)) := fun W' t => by
    have q : ∀ b o v, W.cell? ⟨b, o, none⟩ = some v → W'.cell? ⟨b, o, none⟩ = some v := fun b o v h => by
      rw [World.cell?_of_block (t.block _ (World.block_lt_of_cell? _ _ h) id)]; exact h
    exact ⟨(t.block B (lt_of_heap hAt) id).trans hAt, q _ _ _ c0, q _ _ _ c1⟩
  have hS0 := hSk.out W.drew (Touch.refl _ W).drew
  clear hAt c0 c1 hi
  refine wp_region_held_drew (S := fun W' => OpAt B o W' ∧ W'.cell? ⟨NB, i * 2, none⟩ = some (.int .u64 xc) ∧ W'.cell? ⟨NB, i * 2 + 1, none⟩ = some (.int .u64 xk)) (by kernel_rfl) hS0 (fun hHeld => ?_)
  clear hS0
  by_cases hc1 : xc = o.c
  rotate_left
  · have hb1 : (xc == o.c) = false := by simpa using hc1
    have he : ownB o xc xk = false := by unfold ownB; rw [hb1]; rfl
    refine wpAnyH_take (i := 0) (oi := { dst := some 222, op := Go.Op.move (Go.Operand.tmp 10), type := 64, pos := "quireref8.go:58", after := #[], guard := none }) (v := .slice (some ⟨NB, 0, none⟩) 5 5) rfl (by kernel_rfl) (by kernel_rfl) (by kernel_rfl) (fun c a w h => hQ c _ a.tmps a.defers w h) (Or.inl ⟨by rfl, ?_⟩) hHeld ?_
    · intro w hSw; clear hSw; go_simp
    simp only [Act.put]
    refine wpAnyH_take (i := 1) (oi := { dst := some 223, op := Go.Op.move (Go.Operand.tmp 11), type := 3, pos := "quireref8.go:58", after := #[], guard := none }) (v := .int .i64 (i : Int)) rfl (by kernel_rfl) (by kernel_rfl) (by kernel_rfl) (fun c a w h => hQ c _ a.tmps a.defers w h) (Or.inl ⟨by rfl, ?_⟩) hHeld ?_
    · intro w hSw; clear hSw; go_simp
    simp only [Act.put]
    refine wpAnyH_take (i := 2) (oi := { dst := some 224, op := Go.Op.indexAddr 64 (Go.Operand.tmp 222) (Go.Operand.tmp 223), type := 0, pos := "quireref8.go:58", after := #[{ on := 0, ground := Go.Ground.data }, { on := 1, ground := Go.Ground.data }], guard := none }) (v := .pointer (some ⟨NB, i * 2, none⟩)) rfl (by kernel_rfl) (by kernel_rfl) (by kernel_rfl) (fun c a w h => hQ c _ a.tmps a.defers w h) (Or.inl ⟨by rfl, ?_⟩) hHeld ?_
    · intro w hSw; clear hSw; go_simp
    simp only [Act.put]
    refine wpAnyH_take (i := 3) (oi := { dst := some 225, op := Go.Op.fieldAddr 34 (Go.Operand.tmp 224) 0, type := 0, pos := "quireref8.go:58", after := #[{ on := 2, ground := Go.Ground.data }], guard := none }) (v := .pointer (some ⟨NB, i * 2, none⟩)) rfl (by kernel_rfl) (by kernel_rfl) (by kernel_rfl) (fun c a w h => hQ c _ a.tmps a.defers w h) (Or.inl ⟨by rfl, ?_⟩) hHeld ?_
    · intro w hSw; clear hSw; go_simp
    simp only [Act.put]
    refine wpAnyH_take (i := 4) (oi := { dst := some 226, op := Go.Op.load 32 (Go.Operand.tmp 225), type := 32, pos := "quireref8.go:58", after := #[{ on := 3, ground := Go.Ground.data }], guard := none }) (v := .int .u64 xc) rfl (by kernel_rfl) (by kernel_rfl) (by kernel_rfl) (fun c a w h => hQ c _ a.tmps a.defers w h) (Or.inl ⟨by rfl, ?_⟩) hHeld ?_
    · intro w hSw; have hq := hSw.2.1; clear hSw; go_simp
    simp only [Act.put]
    refine wpAnyH_take (i := 5) (oi := { dst := some 227, op := Go.Op.fieldAddr 41 (Go.Operand.tmp 1) 0, type := 0, pos := "quireref8.go:58", after := #[], guard := none }) (v := .pointer (some ⟨B, 0, none⟩)) rfl (by kernel_rfl) (by kernel_rfl) (by kernel_rfl) (fun c a w h => hQ c _ a.tmps a.defers w h) (Or.inl ⟨by rfl, ?_⟩) hHeld ?_
    · intro w hSw; clear hSw; go_simp
    simp only [Act.put]
    refine wpAnyH_take (i := 6) (oi := { dst := some 228, op := Go.Op.fieldAddr 34 (Go.Operand.tmp 227) 0, type := 0, pos := "quireref8.go:58", after := #[{ on := 5, ground := Go.Ground.data }], guard := none }) (v := .pointer (some ⟨B, 0, none⟩)) rfl (by kernel_rfl) (by kernel_rfl) (by kernel_rfl) (fun c a w h => hQ c _ a.tmps a.defers w h) (Or.inl ⟨by rfl, ?_⟩) hHeld ?_
    · intro w hSw; clear hSw; go_simp
    simp only [Act.put]
    refine wpAnyH_take (i := 7) (oi := { dst := some 229, op := Go.Op.load 32 (Go.Operand.tmp 228), type := 32, pos := "quireref8.go:58", after := #[{ on := 6, ground := Go.Ground.data }], guard := none }) (v := .int .u64 o.c) rfl (by kernel_rfl) (by kernel_rfl) (by kernel_rfl) (fun c a w h => hQ c _ a.tmps a.defers w h) (Or.inl ⟨by rfl, ?_⟩) hHeld ?_
    · intro w hSw; have hq := hSw.1.q0; clear hSw; go_simp
    simp only [Act.put]
    refine wpAnyH_take (i := 8) (oi := { dst := some 230, op := Go.Op.binOp Go.BinOp.eql 32 (Go.Operand.tmp 226) (Go.Operand.tmp 229) 32, type := 4, pos := "quireref8.go:58", after := #[{ on := 4, ground := Go.Ground.data }, { on := 7, ground := Go.Ground.data }], guard := none }) (v := .bool false) rfl (by kernel_rfl) (by kernel_rfl) (by kernel_rfl) (fun c a w h => hQ c _ a.tmps a.defers w h) (Or.inl ⟨by rfl, ?_⟩) hHeld ?_
    · intro w hSw; clear hSw; go_simp
    simp only [Act.put]
    refine wpAnyH_take (i := 9) (oi := { dst := some 231, op := Go.Op.move (Go.Operand.tmp 230), type := 4, pos := "quireref8.go:58", after := #[{ on := 8, ground := Go.Ground.data }], guard := none }) (v := .bool false) rfl (by kernel_rfl) (by kernel_rfl) (by kernel_rfl) (fun c a w h => hQ c _ a.tmps a.defers w h) (Or.inl ⟨by rfl, ?_⟩) hHeld ?_
    · intro w hSw; clear hSw; go_simp
    simp only [Act.put]
    refine wpAnyH_take (i := 10) (oi := { dst := some 232, op := Go.Op.move (Go.Operand.tmp 10), type := 64, pos := "quireref8.go:58", after := #[{ on := 9, ground := Go.Ground.guard }], guard := some (9, true) }) (v := undef) rfl (by kernel_rfl) (by kernel_rfl) (by kernel_rfl) (fun c a w h => hQ c _ a.tmps a.defers w h) (Or.inr ⟨wanted_at 9 231 false rfl rfl (by simp only [Array.size_setIfInBounds, hsz]; decide) (by go_simp), rfl⟩) hHeld ?_
    simp only [Act.put]
    refine wpAnyH_take (i := 11) (oi := { dst := some 233, op := Go.Op.move (Go.Operand.tmp 11), type := 3, pos := "quireref8.go:58", after := #[{ on := 9, ground := Go.Ground.guard }], guard := some (9, true) }) (v := undef) rfl (by kernel_rfl) (by kernel_rfl) (by kernel_rfl) (fun c a w h => hQ c _ a.tmps a.defers w h) (Or.inr ⟨wanted_at 9 231 false rfl rfl (by simp only [Array.size_setIfInBounds, hsz]; decide) (by go_simp), rfl⟩) hHeld ?_
    simp only [Act.put]
    refine wpAnyH_take (i := 12) (oi := { dst := some 234, op := Go.Op.indexAddr 64 (Go.Operand.tmp 232) (Go.Operand.tmp 233), type := 0, pos := "quireref8.go:58", after := #[{ on := 10, ground := Go.Ground.data }, { on := 11, ground := Go.Ground.data }, { on := 9, ground := Go.Ground.guard }], guard := some (9, true) }) (v := undef) rfl (by kernel_rfl) (by kernel_rfl) (by kernel_rfl) (fun c a w h => hQ c _ a.tmps a.defers w h) (Or.inr ⟨wanted_at 9 231 false rfl rfl (by simp only [Array.size_setIfInBounds, hsz]; decide) (by go_simp), rfl⟩) hHeld ?_
    simp only [Act.put]
    refine wpAnyH_take (i := 13) (oi := { dst := some 235, op := Go.Op.fieldAddr 34 (Go.Operand.tmp 234) 1, type := 0, pos := "quireref8.go:58", after := #[{ on := 12, ground := Go.Ground.data }, { on := 9, ground := Go.Ground.guard }], guard := some (9, true) }) (v := undef) rfl (by kernel_rfl) (by kernel_rfl) (by kernel_rfl) (fun c a w h => hQ c _ a.tmps a.defers w h) (Or.inr ⟨wanted_at 9 231 false rfl rfl (by simp only [Array.size_setIfInBounds, hsz]; decide) (by go_simp), rfl⟩) hHeld ?_
    simp only [Act.put]
    refine wpAnyH_take (i := 14) (oi := { dst := some 236, op := Go.Op.load 32 (Go.Operand.tmp 235), type := 32, pos := "quireref8.go:58", after := #[{ on := 13, ground := Go.Ground.data }, { on := 9, ground := Go.Ground.guard }], guard := some (9, true) }) (v := undef) rfl (by kernel_rfl) (by kernel_rfl) (by kernel_rfl) (fun c a w h => hQ c _ a.tmps a.defers w h) (Or.inr ⟨wanted_at 9 231 false rfl rfl (by simp only [Array.size_setIfInBounds, hsz]; decide) (by go_simp), rfl⟩) hHeld ?_
    simp only [Act.put]
    refine wpAnyH_take (i := 15) (oi := { dst := some 237, op := Go.Op.fieldAddr 41 (Go.Operand.tmp 1) 0, type := 0, pos := "quireref8.go:58", after := #[{ on := 9, ground := Go.Ground.guard }], guard := some (9, true) }) (v := undef) rfl (by kernel_rfl) (by kernel_rfl) (by kernel_rfl) (fun c a w h => hQ c _ a.tmps a.defers w h) (Or.inr ⟨wanted_at 9 231 false rfl rfl (by simp only [Array.size_setIfInBounds, hsz]; decide) (by go_simp), rfl⟩) hHeld ?_
    simp only [Act.put]
    refine wpAnyH_take (i := 16) (oi := { dst := some 238, op := Go.Op.fieldAddr 34 (Go.Operand.tmp 237) 1, type := 0, pos := "quireref8.go:58", after := #[{ on := 15, ground := Go.Ground.data }, { on := 9, ground := Go.Ground.guard }], guard := some (9, true) }) (v := undef) rfl (by kernel_rfl) (by kernel_rfl) (by kernel_rfl) (fun c a w h => hQ c _ a.tmps a.defers w h) (Or.inr ⟨wanted_at 9 231 false rfl rfl (by simp only [Array.size_setIfInBounds, hsz]; decide) (by go_simp), rfl⟩) hHeld ?_
    simp only [Act.put]
    refine wpAnyH_take (i := 17) (oi := { dst := some 239, op := Go.Op.load 32 (Go.Operand.tmp 238), type := 32, pos := "quireref8.go:58", after := #[{ on := 16, ground := Go.Ground.data }, { on := 9, ground := Go.Ground.guard }], guard := some (9, true) }) (v := undef) rfl (by kernel_rfl) (by kernel_rfl) (by kernel_rfl) (fun c a w h => hQ c _ a.tmps a.defers w h) (Or.inr ⟨wanted_at 9 231 false rfl rfl (by simp only [Array.size_setIfInBounds, hsz]; decide) (by go_simp), rfl⟩) hHeld ?_
    simp only [Act.put]
    refine wpAnyH_take (i := 18) (oi := { dst := some 240, op := Go.Op.binOp Go.BinOp.geq 32 (Go.Operand.tmp 236) (Go.Operand.tmp 239) 32, type := 4, pos := "quireref8.go:58", after := #[{ on := 14, ground := Go.Ground.data }, { on := 17, ground := Go.Ground.data }, { on := 9, ground := Go.Ground.guard }], guard := some (9, true) }) (v := undef) rfl (by kernel_rfl) (by kernel_rfl) (by kernel_rfl) (fun c a w h => hQ c _ a.tmps a.defers w h) (Or.inr ⟨wanted_at 9 231 false rfl rfl (by simp only [Array.size_setIfInBounds, hsz]; decide) (by go_simp), rfl⟩) hHeld ?_
    simp only [Act.put]
    refine wpAnyH_take (i := 19) (oi := { dst := some 241, op := Go.Op.pick (Go.Operand.tmp 231) (Go.Operand.tmp 240) (Go.Operand.const (Go.Value.bool false)), type := 4, pos := "quireref8.go:58", after := #[{ on := 9, ground := Go.Ground.data }, { on := 18, ground := Go.Ground.data }], guard := none }) (v := .bool false) rfl (by kernel_rfl) (by kernel_rfl) (by kernel_rfl) (fun c a w h => hQ c _ a.tmps a.defers w h) (Or.inl ⟨by rfl, ?_⟩) hHeld ?_
    · intro w hSw; clear hSw; go_simp
    simp only [Act.put]
    refine wpAnyH_take (i := 20) (oi := { dst := some 242, op := Go.Op.move (Go.Operand.tmp 241), type := 4, pos := "quireref8.go:58", after := #[{ on := 19, ground := Go.Ground.data }, { on := 9, ground := Go.Ground.chain }], guard := none }) (v := .bool false) rfl (by kernel_rfl) (by kernel_rfl) (by kernel_rfl) (fun c a w h => hQ c _ a.tmps a.defers w h) (Or.inl ⟨by rfl, ?_⟩) hHeld ?_
    · intro w hSw; clear hSw; go_simp
    simp only [Act.put]
    refine wpAnyH_take (i := 21) (oi := { dst := some 243, op := Go.Op.move (Go.Operand.tmp 10), type := 64, pos := "quireref8.go:58", after := #[{ on := 20, ground := Go.Ground.guard }], guard := some (20, true) }) (v := undef) rfl (by kernel_rfl) (by kernel_rfl) (by kernel_rfl) (fun c a w h => hQ c _ a.tmps a.defers w h) (Or.inr ⟨wanted_at 20 242 false rfl rfl (by simp only [Array.size_setIfInBounds, hsz]; decide) (by go_simp), rfl⟩) hHeld ?_
    simp only [Act.put]
    refine wpAnyH_take (i := 22) (oi := { dst := some 244, op := Go.Op.move (Go.Operand.tmp 11), type := 3, pos := "quireref8.go:58", after := #[{ on := 20, ground := Go.Ground.guard }], guard := some (20, true) }) (v := undef) rfl (by kernel_rfl) (by kernel_rfl) (by kernel_rfl) (fun c a w h => hQ c _ a.tmps a.defers w h) (Or.inr ⟨wanted_at 20 242 false rfl rfl (by simp only [Array.size_setIfInBounds, hsz]; decide) (by go_simp), rfl⟩) hHeld ?_
    simp only [Act.put]
    refine wpAnyH_take (i := 23) (oi := { dst := some 245, op := Go.Op.indexAddr 64 (Go.Operand.tmp 243) (Go.Operand.tmp 244), type := 0, pos := "quireref8.go:58", after := #[{ on := 21, ground := Go.Ground.data }, { on := 22, ground := Go.Ground.data }, { on := 20, ground := Go.Ground.guard }], guard := some (20, true) }) (v := undef) rfl (by kernel_rfl) (by kernel_rfl) (by kernel_rfl) (fun c a w h => hQ c _ a.tmps a.defers w h) (Or.inr ⟨wanted_at 20 242 false rfl rfl (by simp only [Array.size_setIfInBounds, hsz]; decide) (by go_simp), rfl⟩) hHeld ?_
    simp only [Act.put]
    refine wpAnyH_take (i := 24) (oi := { dst := some 246, op := Go.Op.fieldAddr 34 (Go.Operand.tmp 245) 1, type := 0, pos := "quireref8.go:58", after := #[{ on := 23, ground := Go.Ground.data }, { on := 20, ground := Go.Ground.guard }], guard := some (20, true) }) (v := undef) rfl (by kernel_rfl) (by kernel_rfl) (by kernel_rfl) (fun c a w h => hQ c _ a.tmps a.defers w h) (Or.inr ⟨wanted_at 20 242 false rfl rfl (by simp only [Array.size_setIfInBounds, hsz]; decide) (by go_simp), rfl⟩) hHeld ?_
    simp only [Act.put]
    refine wpAnyH_take (i := 25) (oi := { dst := some 247, op := Go.Op.load 32 (Go.Operand.tmp 246), type := 32, pos := "quireref8.go:58", after := #[{ on := 24, ground := Go.Ground.data }, { on := 20, ground := Go.Ground.guard }], guard := some (20, true) }) (v := undef) rfl (by kernel_rfl) (by kernel_rfl) (by kernel_rfl) (fun c a w h => hQ c _ a.tmps a.defers w h) (Or.inr ⟨wanted_at 20 242 false rfl rfl (by simp only [Array.size_setIfInBounds, hsz]; decide) (by go_simp), rfl⟩) hHeld ?_
    simp only [Act.put]
    refine wpAnyH_take (i := 26) (oi := { dst := some 248, op := Go.Op.fieldAddr 41 (Go.Operand.tmp 1) 0, type := 0, pos := "quireref8.go:58", after := #[{ on := 20, ground := Go.Ground.guard }], guard := some (20, true) }) (v := undef) rfl (by kernel_rfl) (by kernel_rfl) (by kernel_rfl) (fun c a w h => hQ c _ a.tmps a.defers w h) (Or.inr ⟨wanted_at 20 242 false rfl rfl (by simp only [Array.size_setIfInBounds, hsz]; decide) (by go_simp), rfl⟩) hHeld ?_
    simp only [Act.put]
    refine wpAnyH_take (i := 27) (oi := { dst := some 249, op := Go.Op.fieldAddr 34 (Go.Operand.tmp 248) 1, type := 0, pos := "quireref8.go:58", after := #[{ on := 26, ground := Go.Ground.data }, { on := 20, ground := Go.Ground.guard }], guard := some (20, true) }) (v := undef) rfl (by kernel_rfl) (by kernel_rfl) (by kernel_rfl) (fun c a w h => hQ c _ a.tmps a.defers w h) (Or.inr ⟨wanted_at 20 242 false rfl rfl (by simp only [Array.size_setIfInBounds, hsz]; decide) (by go_simp), rfl⟩) hHeld ?_
    simp only [Act.put]
    refine wpAnyH_take (i := 28) (oi := { dst := some 250, op := Go.Op.load 32 (Go.Operand.tmp 249), type := 32, pos := "quireref8.go:58", after := #[{ on := 27, ground := Go.Ground.data }, { on := 20, ground := Go.Ground.guard }], guard := some (20, true) }) (v := undef) rfl (by kernel_rfl) (by kernel_rfl) (by kernel_rfl) (fun c a w h => hQ c _ a.tmps a.defers w h) (Or.inr ⟨wanted_at 20 242 false rfl rfl (by simp only [Array.size_setIfInBounds, hsz]; decide) (by go_simp), rfl⟩) hHeld ?_
    simp only [Act.put]
    refine wpAnyH_take (i := 29) (oi := { dst := some 251, op := Go.Op.binOp Go.BinOp.sub 32 (Go.Operand.tmp 247) (Go.Operand.tmp 250) 32, type := 32, pos := "quireref8.go:58", after := #[{ on := 25, ground := Go.Ground.data }, { on := 28, ground := Go.Ground.data }, { on := 20, ground := Go.Ground.guard }], guard := some (20, true) }) (v := undef) rfl (by kernel_rfl) (by kernel_rfl) (by kernel_rfl) (fun c a w h => hQ c _ a.tmps a.defers w h) (Or.inr ⟨wanted_at 20 242 false rfl rfl (by simp only [Array.size_setIfInBounds, hsz]; decide) (by go_simp), rfl⟩) hHeld ?_
    simp only [Act.put]
    refine wpAnyH_take (i := 30) (oi := { dst := some 252, op := Go.Op.load 41 (Go.Operand.tmp 1), type := 41, pos := "quireref8.go:58", after := #[{ on := 20, ground := Go.Ground.guard }], guard := some (20, true) }) (v := undef) rfl (by kernel_rfl) (by kernel_rfl) (by kernel_rfl) (fun c a w h => hQ c _ a.tmps a.defers w h) (Or.inr ⟨wanted_at 20 242 false rfl rfl (by simp only [Array.size_setIfInBounds, hsz]; decide) (by go_simp), rfl⟩) hHeld ?_
    simp only [Act.put]
    refine wpAnyH_take (i := 31) (oi := { dst := some 253, op := Go.Op.call { callee := Go.Callee.value (Go.Operand.func 36), args := #[Go.Operand.tmp 252], argTypes := #[41] }, type := 3, pos := "quireref8.go:58", after := #[{ on := 30, ground := Go.Ground.data }, { on := 20, ground := Go.Ground.chain }, { on := 20, ground := Go.Ground.guard }], guard := some (20, true) }) (v := undef) rfl (by kernel_rfl) (by kernel_rfl) (by kernel_rfl) (fun c a w h => hQ c _ a.tmps a.defers w h) (Or.inr ⟨wanted_at 20 242 false rfl rfl (by simp only [Array.size_setIfInBounds, hsz]; decide) (by go_simp), rfl⟩) hHeld ?_
    simp only [Act.put]
    refine wpAnyH_take (i := 32) (oi := { dst := some 254, op := Go.Op.convert 3 32 (Go.Operand.tmp 253), type := 32, pos := "quireref8.go:58", after := #[{ on := 31, ground := Go.Ground.data }, { on := 20, ground := Go.Ground.guard }], guard := some (20, true) }) (v := undef) rfl (by kernel_rfl) (by kernel_rfl) (by kernel_rfl) (fun c a w h => hQ c _ a.tmps a.defers w h) (Or.inr ⟨wanted_at 20 242 false rfl rfl (by simp only [Array.size_setIfInBounds, hsz]; decide) (by go_simp), rfl⟩) hHeld ?_
    simp only [Act.put]
    refine wpAnyH_take (i := 33) (oi := { dst := some 255, op := Go.Op.binOp Go.BinOp.lss 32 (Go.Operand.tmp 251) (Go.Operand.tmp 254) 32, type := 4, pos := "quireref8.go:58", after := #[{ on := 29, ground := Go.Ground.data }, { on := 32, ground := Go.Ground.data }, { on := 20, ground := Go.Ground.guard }], guard := some (20, true) }) (v := undef) rfl (by kernel_rfl) (by kernel_rfl) (by kernel_rfl) (fun c a w h => hQ c _ a.tmps a.defers w h) (Or.inr ⟨wanted_at 20 242 false rfl rfl (by simp only [Array.size_setIfInBounds, hsz]; decide) (by go_simp), rfl⟩) hHeld ?_
    simp only [Act.put]
    refine wpAnyH_take (i := 34) (oi := { dst := some 256, op := Go.Op.pick (Go.Operand.tmp 242) (Go.Operand.tmp 255) (Go.Operand.const (Go.Value.bool false)), type := 4, pos := "quireref8.go:58", after := #[{ on := 20, ground := Go.Ground.data }, { on := 33, ground := Go.Ground.data }], guard := none }) (v := .bool false) rfl (by kernel_rfl) (by kernel_rfl) (by kernel_rfl) (fun c a w h => hQ c _ a.tmps a.defers w h) (Or.inl ⟨by rfl, ?_⟩) hHeld ?_
    · intro w hSw; clear hSw; go_simp
    simp only [Act.put]
    refine wpAnyH_done (by kernel_rfl) ?_ _
    clear hHeld
    refine hk _ _ ?_ ?_ ?_ ?_ ?_ (Touch.refl _ W).drew
    · simp only [Array.size_setIfInBounds, hsz]
    · go_simp
    · go_simp
    · go_simp
    · rw [he]; go_simp
  by_cases hc2 : o.k ≤ xk
  rotate_left
  · have he : ownB o xc xk = false := by unfold ownB; rw [decide_eq_false hc2]; simp
    have hc3 : xk < o.k := by omega
    refine wpAnyH_take (i := 0) (oi := { dst := some 222, op := Go.Op.move (Go.Operand.tmp 10), type := 64, pos := "quireref8.go:58", after := #[], guard := none }) (v := .slice (some ⟨NB, 0, none⟩) 5 5) rfl (by kernel_rfl) (by kernel_rfl) (by kernel_rfl) (fun c a w h => hQ c _ a.tmps a.defers w h) (Or.inl ⟨by rfl, ?_⟩) hHeld ?_
    · intro w hSw; clear hSw; go_simp
    simp only [Act.put]
    refine wpAnyH_take (i := 1) (oi := { dst := some 223, op := Go.Op.move (Go.Operand.tmp 11), type := 3, pos := "quireref8.go:58", after := #[], guard := none }) (v := .int .i64 (i : Int)) rfl (by kernel_rfl) (by kernel_rfl) (by kernel_rfl) (fun c a w h => hQ c _ a.tmps a.defers w h) (Or.inl ⟨by rfl, ?_⟩) hHeld ?_
    · intro w hSw; clear hSw; go_simp
    simp only [Act.put]
    refine wpAnyH_take (i := 2) (oi := { dst := some 224, op := Go.Op.indexAddr 64 (Go.Operand.tmp 222) (Go.Operand.tmp 223), type := 0, pos := "quireref8.go:58", after := #[{ on := 0, ground := Go.Ground.data }, { on := 1, ground := Go.Ground.data }], guard := none }) (v := .pointer (some ⟨NB, i * 2, none⟩)) rfl (by kernel_rfl) (by kernel_rfl) (by kernel_rfl) (fun c a w h => hQ c _ a.tmps a.defers w h) (Or.inl ⟨by rfl, ?_⟩) hHeld ?_
    · intro w hSw; clear hSw; go_simp
    simp only [Act.put]
    refine wpAnyH_take (i := 3) (oi := { dst := some 225, op := Go.Op.fieldAddr 34 (Go.Operand.tmp 224) 0, type := 0, pos := "quireref8.go:58", after := #[{ on := 2, ground := Go.Ground.data }], guard := none }) (v := .pointer (some ⟨NB, i * 2, none⟩)) rfl (by kernel_rfl) (by kernel_rfl) (by kernel_rfl) (fun c a w h => hQ c _ a.tmps a.defers w h) (Or.inl ⟨by rfl, ?_⟩) hHeld ?_
    · intro w hSw; clear hSw; go_simp
    simp only [Act.put]
    refine wpAnyH_take (i := 4) (oi := { dst := some 226, op := Go.Op.load 32 (Go.Operand.tmp 225), type := 32, pos := "quireref8.go:58", after := #[{ on := 3, ground := Go.Ground.data }], guard := none }) (v := .int .u64 xc) rfl (by kernel_rfl) (by kernel_rfl) (by kernel_rfl) (fun c a w h => hQ c _ a.tmps a.defers w h) (Or.inl ⟨by rfl, ?_⟩) hHeld ?_
    · intro w hSw; have hq := hSw.2.1; clear hSw; go_simp
    simp only [Act.put]
    refine wpAnyH_take (i := 5) (oi := { dst := some 227, op := Go.Op.fieldAddr 41 (Go.Operand.tmp 1) 0, type := 0, pos := "quireref8.go:58", after := #[], guard := none }) (v := .pointer (some ⟨B, 0, none⟩)) rfl (by kernel_rfl) (by kernel_rfl) (by kernel_rfl) (fun c a w h => hQ c _ a.tmps a.defers w h) (Or.inl ⟨by rfl, ?_⟩) hHeld ?_
    · intro w hSw; clear hSw; go_simp
    simp only [Act.put]
    refine wpAnyH_take (i := 6) (oi := { dst := some 228, op := Go.Op.fieldAddr 34 (Go.Operand.tmp 227) 0, type := 0, pos := "quireref8.go:58", after := #[{ on := 5, ground := Go.Ground.data }], guard := none }) (v := .pointer (some ⟨B, 0, none⟩)) rfl (by kernel_rfl) (by kernel_rfl) (by kernel_rfl) (fun c a w h => hQ c _ a.tmps a.defers w h) (Or.inl ⟨by rfl, ?_⟩) hHeld ?_
    · intro w hSw; clear hSw; go_simp
    simp only [Act.put]
    refine wpAnyH_take (i := 7) (oi := { dst := some 229, op := Go.Op.load 32 (Go.Operand.tmp 228), type := 32, pos := "quireref8.go:58", after := #[{ on := 6, ground := Go.Ground.data }], guard := none }) (v := .int .u64 o.c) rfl (by kernel_rfl) (by kernel_rfl) (by kernel_rfl) (fun c a w h => hQ c _ a.tmps a.defers w h) (Or.inl ⟨by rfl, ?_⟩) hHeld ?_
    · intro w hSw; have hq := hSw.1.q0; clear hSw; go_simp
    simp only [Act.put]
    refine wpAnyH_take (i := 8) (oi := { dst := some 230, op := Go.Op.binOp Go.BinOp.eql 32 (Go.Operand.tmp 226) (Go.Operand.tmp 229) 32, type := 4, pos := "quireref8.go:58", after := #[{ on := 4, ground := Go.Ground.data }, { on := 7, ground := Go.Ground.data }], guard := none }) (v := .bool true) rfl (by kernel_rfl) (by kernel_rfl) (by kernel_rfl) (fun c a w h => hQ c _ a.tmps a.defers w h) (Or.inl ⟨by rfl, ?_⟩) hHeld ?_
    · intro w hSw; clear hSw; go_simp
    simp only [Act.put]
    refine wpAnyH_take (i := 9) (oi := { dst := some 231, op := Go.Op.move (Go.Operand.tmp 230), type := 4, pos := "quireref8.go:58", after := #[{ on := 8, ground := Go.Ground.data }], guard := none }) (v := .bool true) rfl (by kernel_rfl) (by kernel_rfl) (by kernel_rfl) (fun c a w h => hQ c _ a.tmps a.defers w h) (Or.inl ⟨by rfl, ?_⟩) hHeld ?_
    · intro w hSw; clear hSw; go_simp
    simp only [Act.put]
    refine wpAnyH_take (i := 10) (oi := { dst := some 232, op := Go.Op.move (Go.Operand.tmp 10), type := 64, pos := "quireref8.go:58", after := #[{ on := 9, ground := Go.Ground.guard }], guard := some (9, true) }) (v := .slice (some ⟨NB, 0, none⟩) 5 5) rfl (by kernel_rfl) (by kernel_rfl) (by kernel_rfl) (fun c a w h => hQ c _ a.tmps a.defers w h) (Or.inl ⟨wanted_at 9 231 true rfl rfl (by simp only [Array.size_setIfInBounds, hsz]; decide) (by go_simp), ?_⟩) hHeld ?_
    · intro w hSw; clear hSw; go_simp
    simp only [Act.put]
    refine wpAnyH_take (i := 11) (oi := { dst := some 233, op := Go.Op.move (Go.Operand.tmp 11), type := 3, pos := "quireref8.go:58", after := #[{ on := 9, ground := Go.Ground.guard }], guard := some (9, true) }) (v := .int .i64 (i : Int)) rfl (by kernel_rfl) (by kernel_rfl) (by kernel_rfl) (fun c a w h => hQ c _ a.tmps a.defers w h) (Or.inl ⟨wanted_at 9 231 true rfl rfl (by simp only [Array.size_setIfInBounds, hsz]; decide) (by go_simp), ?_⟩) hHeld ?_
    · intro w hSw; clear hSw; go_simp
    simp only [Act.put]
    refine wpAnyH_take (i := 12) (oi := { dst := some 234, op := Go.Op.indexAddr 64 (Go.Operand.tmp 232) (Go.Operand.tmp 233), type := 0, pos := "quireref8.go:58", after := #[{ on := 10, ground := Go.Ground.data }, { on := 11, ground := Go.Ground.data }, { on := 9, ground := Go.Ground.guard }], guard := some (9, true) }) (v := .pointer (some ⟨NB, i * 2, none⟩)) rfl (by kernel_rfl) (by kernel_rfl) (by kernel_rfl) (fun c a w h => hQ c _ a.tmps a.defers w h) (Or.inl ⟨wanted_at 9 231 true rfl rfl (by simp only [Array.size_setIfInBounds, hsz]; decide) (by go_simp), ?_⟩) hHeld ?_
    · intro w hSw; clear hSw; go_simp
    simp only [Act.put]
    refine wpAnyH_take (i := 13) (oi := { dst := some 235, op := Go.Op.fieldAddr 34 (Go.Operand.tmp 234) 1, type := 0, pos := "quireref8.go:58", after := #[{ on := 12, ground := Go.Ground.data }, { on := 9, ground := Go.Ground.guard }], guard := some (9, true) }) (v := .pointer (some ⟨NB, i * 2 + 1, none⟩)) rfl (by kernel_rfl) (by kernel_rfl) (by kernel_rfl) (fun c a w h => hQ c _ a.tmps a.defers w h) (Or.inl ⟨wanted_at 9 231 true rfl rfl (by simp only [Array.size_setIfInBounds, hsz]; decide) (by go_simp), ?_⟩) hHeld ?_
    · intro w hSw; clear hSw; go_simp
    simp only [Act.put]
    refine wpAnyH_take (i := 14) (oi := { dst := some 236, op := Go.Op.load 32 (Go.Operand.tmp 235), type := 32, pos := "quireref8.go:58", after := #[{ on := 13, ground := Go.Ground.data }, { on := 9, ground := Go.Ground.guard }], guard := some (9, true) }) (v := .int .u64 xk) rfl (by kernel_rfl) (by kernel_rfl) (by kernel_rfl) (fun c a w h => hQ c _ a.tmps a.defers w h) (Or.inl ⟨wanted_at 9 231 true rfl rfl (by simp only [Array.size_setIfInBounds, hsz]; decide) (by go_simp), ?_⟩) hHeld ?_
    · intro w hSw; have hq := hSw.2.2; clear hSw; go_simp
    simp only [Act.put]
    refine wpAnyH_take (i := 15) (oi := { dst := some 237, op := Go.Op.fieldAddr 41 (Go.Operand.tmp 1) 0, type := 0, pos := "quireref8.go:58", after := #[{ on := 9, ground := Go.Ground.guard }], guard := some (9, true) }) (v := .pointer (some ⟨B, 0, none⟩)) rfl (by kernel_rfl) (by kernel_rfl) (by kernel_rfl) (fun c a w h => hQ c _ a.tmps a.defers w h) (Or.inl ⟨wanted_at 9 231 true rfl rfl (by simp only [Array.size_setIfInBounds, hsz]; decide) (by go_simp), ?_⟩) hHeld ?_
    · intro w hSw; clear hSw; go_simp
    simp only [Act.put]
    refine wpAnyH_take (i := 16) (oi := { dst := some 238, op := Go.Op.fieldAddr 34 (Go.Operand.tmp 237) 1, type := 0, pos := "quireref8.go:58", after := #[{ on := 15, ground := Go.Ground.data }, { on := 9, ground := Go.Ground.guard }], guard := some (9, true) }) (v := .pointer (some ⟨B, 1, none⟩)) rfl (by kernel_rfl) (by kernel_rfl) (by kernel_rfl) (fun c a w h => hQ c _ a.tmps a.defers w h) (Or.inl ⟨wanted_at 9 231 true rfl rfl (by simp only [Array.size_setIfInBounds, hsz]; decide) (by go_simp), ?_⟩) hHeld ?_
    · intro w hSw; clear hSw; go_simp
    simp only [Act.put]
    refine wpAnyH_take (i := 17) (oi := { dst := some 239, op := Go.Op.load 32 (Go.Operand.tmp 238), type := 32, pos := "quireref8.go:58", after := #[{ on := 16, ground := Go.Ground.data }, { on := 9, ground := Go.Ground.guard }], guard := some (9, true) }) (v := .int .u64 o.k) rfl (by kernel_rfl) (by kernel_rfl) (by kernel_rfl) (fun c a w h => hQ c _ a.tmps a.defers w h) (Or.inl ⟨wanted_at 9 231 true rfl rfl (by simp only [Array.size_setIfInBounds, hsz]; decide) (by go_simp), ?_⟩) hHeld ?_
    · intro w hSw; have hq := hSw.1.q1; clear hSw; go_simp
    simp only [Act.put]
    refine wpAnyH_take (i := 18) (oi := { dst := some 240, op := Go.Op.binOp Go.BinOp.geq 32 (Go.Operand.tmp 236) (Go.Operand.tmp 239) 32, type := 4, pos := "quireref8.go:58", after := #[{ on := 14, ground := Go.Ground.data }, { on := 17, ground := Go.Ground.data }, { on := 9, ground := Go.Ground.guard }], guard := some (9, true) }) (v := .bool false) rfl (by kernel_rfl) (by kernel_rfl) (by kernel_rfl) (fun c a w h => hQ c _ a.tmps a.defers w h) (Or.inl ⟨wanted_at 9 231 true rfl rfl (by simp only [Array.size_setIfInBounds, hsz]; decide) (by go_simp), ?_⟩) hHeld ?_
    · intro w hSw; clear hSw; go_simp
    simp only [Act.put]
    refine wpAnyH_take (i := 19) (oi := { dst := some 241, op := Go.Op.pick (Go.Operand.tmp 231) (Go.Operand.tmp 240) (Go.Operand.const (Go.Value.bool false)), type := 4, pos := "quireref8.go:58", after := #[{ on := 9, ground := Go.Ground.data }, { on := 18, ground := Go.Ground.data }], guard := none }) (v := .bool false) rfl (by kernel_rfl) (by kernel_rfl) (by kernel_rfl) (fun c a w h => hQ c _ a.tmps a.defers w h) (Or.inl ⟨by rfl, ?_⟩) hHeld ?_
    · intro w hSw; clear hSw; go_simp
    simp only [Act.put]
    refine wpAnyH_take (i := 20) (oi := { dst := some 242, op := Go.Op.move (Go.Operand.tmp 241), type := 4, pos := "quireref8.go:58", after := #[{ on := 19, ground := Go.Ground.data }, { on := 9, ground := Go.Ground.chain }], guard := none }) (v := .bool false) rfl (by kernel_rfl) (by kernel_rfl) (by kernel_rfl) (fun c a w h => hQ c _ a.tmps a.defers w h) (Or.inl ⟨by rfl, ?_⟩) hHeld ?_
    · intro w hSw; clear hSw; go_simp
    simp only [Act.put]
    refine wpAnyH_take (i := 21) (oi := { dst := some 243, op := Go.Op.move (Go.Operand.tmp 10), type := 64, pos := "quireref8.go:58", after := #[{ on := 20, ground := Go.Ground.guard }], guard := some (20, true) }) (v := undef) rfl (by kernel_rfl) (by kernel_rfl) (by kernel_rfl) (fun c a w h => hQ c _ a.tmps a.defers w h) (Or.inr ⟨wanted_at 20 242 false rfl rfl (by simp only [Array.size_setIfInBounds, hsz]; decide) (by go_simp), rfl⟩) hHeld ?_
    simp only [Act.put]
    refine wpAnyH_take (i := 22) (oi := { dst := some 244, op := Go.Op.move (Go.Operand.tmp 11), type := 3, pos := "quireref8.go:58", after := #[{ on := 20, ground := Go.Ground.guard }], guard := some (20, true) }) (v := undef) rfl (by kernel_rfl) (by kernel_rfl) (by kernel_rfl) (fun c a w h => hQ c _ a.tmps a.defers w h) (Or.inr ⟨wanted_at 20 242 false rfl rfl (by simp only [Array.size_setIfInBounds, hsz]; decide) (by go_simp), rfl⟩) hHeld ?_
    simp only [Act.put]
    refine wpAnyH_take (i := 23) (oi := { dst := some 245, op := Go.Op.indexAddr 64 (Go.Operand.tmp 243) (Go.Operand.tmp 244), type := 0, pos := "quireref8.go:58", after := #[{ on := 21, ground := Go.Ground.data }, { on := 22, ground := Go.Ground.data }, { on := 20, ground := Go.Ground.guard }], guard := some (20, true) }) (v := undef) rfl (by kernel_rfl) (by kernel_rfl) (by kernel_rfl) (fun c a w h => hQ c _ a.tmps a.defers w h) (Or.inr ⟨wanted_at 20 242 false rfl rfl (by simp only [Array.size_setIfInBounds, hsz]; decide) (by go_simp), rfl⟩) hHeld ?_
    simp only [Act.put]
    refine wpAnyH_take (i := 24) (oi := { dst := some 246, op := Go.Op.fieldAddr 34 (Go.Operand.tmp 245) 1, type := 0, pos := "quireref8.go:58", after := #[{ on := 23, ground := Go.Ground.data }, { on := 20, ground := Go.Ground.guard }], guard := some (20, true) }) (v := undef) rfl (by kernel_rfl) (by kernel_rfl) (by kernel_rfl) (fun c a w h => hQ c _ a.tmps a.defers w h) (Or.inr ⟨wanted_at 20 242 false rfl rfl (by simp only [Array.size_setIfInBounds, hsz]; decide) (by go_simp), rfl⟩) hHeld ?_
    simp only [Act.put]
    refine wpAnyH_take (i := 25) (oi := { dst := some 247, op := Go.Op.load 32 (Go.Operand.tmp 246), type := 32, pos := "quireref8.go:58", after := #[{ on := 24, ground := Go.Ground.data }, { on := 20, ground := Go.Ground.guard }], guard := some (20, true) }) (v := undef) rfl (by kernel_rfl) (by kernel_rfl) (by kernel_rfl) (fun c a w h => hQ c _ a.tmps a.defers w h) (Or.inr ⟨wanted_at 20 242 false rfl rfl (by simp only [Array.size_setIfInBounds, hsz]; decide) (by go_simp), rfl⟩) hHeld ?_
    simp only [Act.put]
    refine wpAnyH_take (i := 26) (oi := { dst := some 248, op := Go.Op.fieldAddr 41 (Go.Operand.tmp 1) 0, type := 0, pos := "quireref8.go:58", after := #[{ on := 20, ground := Go.Ground.guard }], guard := some (20, true) }) (v := undef) rfl (by kernel_rfl) (by kernel_rfl) (by kernel_rfl) (fun c a w h => hQ c _ a.tmps a.defers w h) (Or.inr ⟨wanted_at 20 242 false rfl rfl (by simp only [Array.size_setIfInBounds, hsz]; decide) (by go_simp), rfl⟩) hHeld ?_
    simp only [Act.put]
    refine wpAnyH_take (i := 27) (oi := { dst := some 249, op := Go.Op.fieldAddr 34 (Go.Operand.tmp 248) 1, type := 0, pos := "quireref8.go:58", after := #[{ on := 26, ground := Go.Ground.data }, { on := 20, ground := Go.Ground.guard }], guard := some (20, true) }) (v := undef) rfl (by kernel_rfl) (by kernel_rfl) (by kernel_rfl) (fun c a w h => hQ c _ a.tmps a.defers w h) (Or.inr ⟨wanted_at 20 242 false rfl rfl (by simp only [Array.size_setIfInBounds, hsz]; decide) (by go_simp), rfl⟩) hHeld ?_
    simp only [Act.put]
    refine wpAnyH_take (i := 28) (oi := { dst := some 250, op := Go.Op.load 32 (Go.Operand.tmp 249), type := 32, pos := "quireref8.go:58", after := #[{ on := 27, ground := Go.Ground.data }, { on := 20, ground := Go.Ground.guard }], guard := some (20, true) }) (v := undef) rfl (by kernel_rfl) (by kernel_rfl) (by kernel_rfl) (fun c a w h => hQ c _ a.tmps a.defers w h) (Or.inr ⟨wanted_at 20 242 false rfl rfl (by simp only [Array.size_setIfInBounds, hsz]; decide) (by go_simp), rfl⟩) hHeld ?_
    simp only [Act.put]
    refine wpAnyH_take (i := 29) (oi := { dst := some 251, op := Go.Op.binOp Go.BinOp.sub 32 (Go.Operand.tmp 247) (Go.Operand.tmp 250) 32, type := 32, pos := "quireref8.go:58", after := #[{ on := 25, ground := Go.Ground.data }, { on := 28, ground := Go.Ground.data }, { on := 20, ground := Go.Ground.guard }], guard := some (20, true) }) (v := undef) rfl (by kernel_rfl) (by kernel_rfl) (by kernel_rfl) (fun c a w h => hQ c _ a.tmps a.defers w h) (Or.inr ⟨wanted_at 20 242 false rfl rfl (by simp only [Array.size_setIfInBounds, hsz]; decide) (by go_simp), rfl⟩) hHeld ?_
    simp only [Act.put]
    refine wpAnyH_take (i := 30) (oi := { dst := some 252, op := Go.Op.load 41 (Go.Operand.tmp 1), type := 41, pos := "quireref8.go:58", after := #[{ on := 20, ground := Go.Ground.guard }], guard := some (20, true) }) (v := undef) rfl (by kernel_rfl) (by kernel_rfl) (by kernel_rfl) (fun c a w h => hQ c _ a.tmps a.defers w h) (Or.inr ⟨wanted_at 20 242 false rfl rfl (by simp only [Array.size_setIfInBounds, hsz]; decide) (by go_simp), rfl⟩) hHeld ?_
    simp only [Act.put]
    refine wpAnyH_take (i := 31) (oi := { dst := some 253, op := Go.Op.call { callee := Go.Callee.value (Go.Operand.func 36), args := #[Go.Operand.tmp 252], argTypes := #[41] }, type := 3, pos := "quireref8.go:58", after := #[{ on := 30, ground := Go.Ground.data }, { on := 20, ground := Go.Ground.chain }, { on := 20, ground := Go.Ground.guard }], guard := some (20, true) }) (v := undef) rfl (by kernel_rfl) (by kernel_rfl) (by kernel_rfl) (fun c a w h => hQ c _ a.tmps a.defers w h) (Or.inr ⟨wanted_at 20 242 false rfl rfl (by simp only [Array.size_setIfInBounds, hsz]; decide) (by go_simp), rfl⟩) hHeld ?_
    simp only [Act.put]
    refine wpAnyH_take (i := 32) (oi := { dst := some 254, op := Go.Op.convert 3 32 (Go.Operand.tmp 253), type := 32, pos := "quireref8.go:58", after := #[{ on := 31, ground := Go.Ground.data }, { on := 20, ground := Go.Ground.guard }], guard := some (20, true) }) (v := undef) rfl (by kernel_rfl) (by kernel_rfl) (by kernel_rfl) (fun c a w h => hQ c _ a.tmps a.defers w h) (Or.inr ⟨wanted_at 20 242 false rfl rfl (by simp only [Array.size_setIfInBounds, hsz]; decide) (by go_simp), rfl⟩) hHeld ?_
    simp only [Act.put]
    refine wpAnyH_take (i := 33) (oi := { dst := some 255, op := Go.Op.binOp Go.BinOp.lss 32 (Go.Operand.tmp 251) (Go.Operand.tmp 254) 32, type := 4, pos := "quireref8.go:58", after := #[{ on := 29, ground := Go.Ground.data }, { on := 32, ground := Go.Ground.data }, { on := 20, ground := Go.Ground.guard }], guard := some (20, true) }) (v := undef) rfl (by kernel_rfl) (by kernel_rfl) (by kernel_rfl) (fun c a w h => hQ c _ a.tmps a.defers w h) (Or.inr ⟨wanted_at 20 242 false rfl rfl (by simp only [Array.size_setIfInBounds, hsz]; decide) (by go_simp), rfl⟩) hHeld ?_
    simp only [Act.put]
    refine wpAnyH_take (i := 34) (oi := { dst := some 256, op := Go.Op.pick (Go.Operand.tmp 242) (Go.Operand.tmp 255) (Go.Operand.const (Go.Value.bool false)), type := 4, pos := "quireref8.go:58", after := #[{ on := 20, ground := Go.Ground.data }, { on := 33, ground := Go.Ground.data }], guard := none }) (v := .bool false) rfl (by kernel_rfl) (by kernel_rfl) (by kernel_rfl) (fun c a w h => hQ c _ a.tmps a.defers w h) (Or.inl ⟨by rfl, ?_⟩) hHeld ?_
    · intro w hSw; clear hSw; go_simp
    simp only [Act.put]
    refine wpAnyH_done (by kernel_rfl) ?_ _
    clear hHeld
    refine hk _ _ ?_ ?_ ?_ ?_ ?_ (Touch.refl _ W).drew
    · simp only [Array.size_setIfInBounds, hsz]
    · go_simp
    · go_simp
    · go_simp
    · rw [he]; go_simp
  by_cases hc3 : IntKind.u64.wrap (xk - o.k) < (lenO o : Int)
  · have he : ownB o xc xk = true := by unfold ownB; rw [decide_eq_true hc2, decide_eq_true hc3]; simp [hc1]
    refine wpAnyH_take (i := 0) (oi := { dst := some 222, op := Go.Op.move (Go.Operand.tmp 10), type := 64, pos := "quireref8.go:58", after := #[], guard := none }) (v := .slice (some ⟨NB, 0, none⟩) 5 5) rfl (by kernel_rfl) (by kernel_rfl) (by kernel_rfl) (fun c a w h => hQ c _ a.tmps a.defers w h) (Or.inl ⟨by rfl, ?_⟩) hHeld ?_
    · intro w hSw; clear hSw; go_simp
    simp only [Act.put]
    refine wpAnyH_take (i := 1) (oi := { dst := some 223, op := Go.Op.move (Go.Operand.tmp 11), type := 3, pos := "quireref8.go:58", after := #[], guard := none }) (v := .int .i64 (i : Int)) rfl (by kernel_rfl) (by kernel_rfl) (by kernel_rfl) (fun c a w h => hQ c _ a.tmps a.defers w h) (Or.inl ⟨by rfl, ?_⟩) hHeld ?_
    · intro w hSw; clear hSw; go_simp
    simp only [Act.put]
    refine wpAnyH_take (i := 2) (oi := { dst := some 224, op := Go.Op.indexAddr 64 (Go.Operand.tmp 222) (Go.Operand.tmp 223), type := 0, pos := "quireref8.go:58", after := #[{ on := 0, ground := Go.Ground.data }, { on := 1, ground := Go.Ground.data }], guard := none }) (v := .pointer (some ⟨NB, i * 2, none⟩)) rfl (by kernel_rfl) (by kernel_rfl) (by kernel_rfl) (fun c a w h => hQ c _ a.tmps a.defers w h) (Or.inl ⟨by rfl, ?_⟩) hHeld ?_
    · intro w hSw; clear hSw; go_simp
    simp only [Act.put]
    refine wpAnyH_take (i := 3) (oi := { dst := some 225, op := Go.Op.fieldAddr 34 (Go.Operand.tmp 224) 0, type := 0, pos := "quireref8.go:58", after := #[{ on := 2, ground := Go.Ground.data }], guard := none }) (v := .pointer (some ⟨NB, i * 2, none⟩)) rfl (by kernel_rfl) (by kernel_rfl) (by kernel_rfl) (fun c a w h => hQ c _ a.tmps a.defers w h) (Or.inl ⟨by rfl, ?_⟩) hHeld ?_
    · intro w hSw; clear hSw; go_simp
    simp only [Act.put]
    refine wpAnyH_take (i := 4) (oi := { dst := some 226, op := Go.Op.load 32 (Go.Operand.tmp 225), type := 32, pos := "quireref8.go:58", after := #[{ on := 3, ground := Go.Ground.data }], guard := none }) (v := .int .u64 xc) rfl (by kernel_rfl) (by kernel_rfl) (by kernel_rfl) (fun c a w h => hQ c _ a.tmps a.defers w h) (Or.inl ⟨by rfl, ?_⟩) hHeld ?_
    · intro w hSw; have hq := hSw.2.1; clear hSw; go_simp
    simp only [Act.put]
    refine wpAnyH_take (i := 5) (oi := { dst := some 227, op := Go.Op.fieldAddr 41 (Go.Operand.tmp 1) 0, type := 0, pos := "quireref8.go:58", after := #[], guard := none }) (v := .pointer (some ⟨B, 0, none⟩)) rfl (by kernel_rfl) (by kernel_rfl) (by kernel_rfl) (fun c a w h => hQ c _ a.tmps a.defers w h) (Or.inl ⟨by rfl, ?_⟩) hHeld ?_
    · intro w hSw; clear hSw; go_simp
    simp only [Act.put]
    refine wpAnyH_take (i := 6) (oi := { dst := some 228, op := Go.Op.fieldAddr 34 (Go.Operand.tmp 227) 0, type := 0, pos := "quireref8.go:58", after := #[{ on := 5, ground := Go.Ground.data }], guard := none }) (v := .pointer (some ⟨B, 0, none⟩)) rfl (by kernel_rfl) (by kernel_rfl) (by kernel_rfl) (fun c a w h => hQ c _ a.tmps a.defers w h) (Or.inl ⟨by rfl, ?_⟩) hHeld ?_
    · intro w hSw; clear hSw; go_simp
    simp only [Act.put]
    refine wpAnyH_take (i := 7) (oi := { dst := some 229, op := Go.Op.load 32 (Go.Operand.tmp 228), type := 32, pos := "quireref8.go:58", after := #[{ on := 6, ground := Go.Ground.data }], guard := none }) (v := .int .u64 o.c) rfl (by kernel_rfl) (by kernel_rfl) (by kernel_rfl) (fun c a w h => hQ c _ a.tmps a.defers w h) (Or.inl ⟨by rfl, ?_⟩) hHeld ?_
    · intro w hSw; have hq := hSw.1.q0; clear hSw; go_simp
    simp only [Act.put]
    refine wpAnyH_take (i := 8) (oi := { dst := some 230, op := Go.Op.binOp Go.BinOp.eql 32 (Go.Operand.tmp 226) (Go.Operand.tmp 229) 32, type := 4, pos := "quireref8.go:58", after := #[{ on := 4, ground := Go.Ground.data }, { on := 7, ground := Go.Ground.data }], guard := none }) (v := .bool true) rfl (by kernel_rfl) (by kernel_rfl) (by kernel_rfl) (fun c a w h => hQ c _ a.tmps a.defers w h) (Or.inl ⟨by rfl, ?_⟩) hHeld ?_
    · intro w hSw; clear hSw; go_simp
    simp only [Act.put]
    refine wpAnyH_take (i := 9) (oi := { dst := some 231, op := Go.Op.move (Go.Operand.tmp 230), type := 4, pos := "quireref8.go:58", after := #[{ on := 8, ground := Go.Ground.data }], guard := none }) (v := .bool true) rfl (by kernel_rfl) (by kernel_rfl) (by kernel_rfl) (fun c a w h => hQ c _ a.tmps a.defers w h) (Or.inl ⟨by rfl, ?_⟩) hHeld ?_
    · intro w hSw; clear hSw; go_simp
    simp only [Act.put]
    refine wpAnyH_take (i := 10) (oi := { dst := some 232, op := Go.Op.move (Go.Operand.tmp 10), type := 64, pos := "quireref8.go:58", after := #[{ on := 9, ground := Go.Ground.guard }], guard := some (9, true) }) (v := .slice (some ⟨NB, 0, none⟩) 5 5) rfl (by kernel_rfl) (by kernel_rfl) (by kernel_rfl) (fun c a w h => hQ c _ a.tmps a.defers w h) (Or.inl ⟨wanted_at 9 231 true rfl rfl (by simp only [Array.size_setIfInBounds, hsz]; decide) (by go_simp), ?_⟩) hHeld ?_
    · intro w hSw; clear hSw; go_simp
    simp only [Act.put]
    refine wpAnyH_take (i := 11) (oi := { dst := some 233, op := Go.Op.move (Go.Operand.tmp 11), type := 3, pos := "quireref8.go:58", after := #[{ on := 9, ground := Go.Ground.guard }], guard := some (9, true) }) (v := .int .i64 (i : Int)) rfl (by kernel_rfl) (by kernel_rfl) (by kernel_rfl) (fun c a w h => hQ c _ a.tmps a.defers w h) (Or.inl ⟨wanted_at 9 231 true rfl rfl (by simp only [Array.size_setIfInBounds, hsz]; decide) (by go_simp), ?_⟩) hHeld ?_
    · intro w hSw; clear hSw; go_simp
    simp only [Act.put]
    refine wpAnyH_take (i := 12) (oi := { dst := some 234, op := Go.Op.indexAddr 64 (Go.Operand.tmp 232) (Go.Operand.tmp 233), type := 0, pos := "quireref8.go:58", after := #[{ on := 10, ground := Go.Ground.data }, { on := 11, ground := Go.Ground.data }, { on := 9, ground := Go.Ground.guard }], guard := some (9, true) }) (v := .pointer (some ⟨NB, i * 2, none⟩)) rfl (by kernel_rfl) (by kernel_rfl) (by kernel_rfl) (fun c a w h => hQ c _ a.tmps a.defers w h) (Or.inl ⟨wanted_at 9 231 true rfl rfl (by simp only [Array.size_setIfInBounds, hsz]; decide) (by go_simp), ?_⟩) hHeld ?_
    · intro w hSw; clear hSw; go_simp
    simp only [Act.put]
    refine wpAnyH_take (i := 13) (oi := { dst := some 235, op := Go.Op.fieldAddr 34 (Go.Operand.tmp 234) 1, type := 0, pos := "quireref8.go:58", after := #[{ on := 12, ground := Go.Ground.data }, { on := 9, ground := Go.Ground.guard }], guard := some (9, true) }) (v := .pointer (some ⟨NB, i * 2 + 1, none⟩)) rfl (by kernel_rfl) (by kernel_rfl) (by kernel_rfl) (fun c a w h => hQ c _ a.tmps a.defers w h) (Or.inl ⟨wanted_at 9 231 true rfl rfl (by simp only [Array.size_setIfInBounds, hsz]; decide) (by go_simp), ?_⟩) hHeld ?_
    · intro w hSw; clear hSw; go_simp
    simp only [Act.put]
    refine wpAnyH_take (i := 14) (oi := { dst := some 236, op := Go.Op.load 32 (Go.Operand.tmp 235), type := 32, pos := "quireref8.go:58", after := #[{ on := 13, ground := Go.Ground.data }, { on := 9, ground := Go.Ground.guard }], guard := some (9, true) }) (v := .int .u64 xk) rfl (by kernel_rfl) (by kernel_rfl) (by kernel_rfl) (fun c a w h => hQ c _ a.tmps a.defers w h) (Or.inl ⟨wanted_at 9 231 true rfl rfl (by simp only [Array.size_setIfInBounds, hsz]; decide) (by go_simp), ?_⟩) hHeld ?_
    · intro w hSw; have hq := hSw.2.2; clear hSw; go_simp
    simp only [Act.put]
    refine wpAnyH_take (i := 15) (oi := { dst := some 237, op := Go.Op.fieldAddr 41 (Go.Operand.tmp 1) 0, type := 0, pos := "quireref8.go:58", after := #[{ on := 9, ground := Go.Ground.guard }], guard := some (9, true) }) (v := .pointer (some ⟨B, 0, none⟩)) rfl (by kernel_rfl) (by kernel_rfl) (by kernel_rfl) (fun c a w h => hQ c _ a.tmps a.defers w h) (Or.inl ⟨wanted_at 9 231 true rfl rfl (by simp only [Array.size_setIfInBounds, hsz]; decide) (by go_simp), ?_⟩) hHeld ?_
    · intro w hSw; clear hSw; go_simp
    simp only [Act.put]
    refine wpAnyH_take (i := 16) (oi := { dst := some 238, op := Go.Op.fieldAddr 34 (Go.Operand.tmp 237) 1, type := 0, pos := "quireref8.go:58", after := #[{ on := 15, ground := Go.Ground.data }, { on := 9, ground := Go.Ground.guard }], guard := some (9, true) }) (v := .pointer (some ⟨B, 1, none⟩)) rfl (by kernel_rfl) (by kernel_rfl) (by kernel_rfl) (fun c a w h => hQ c _ a.tmps a.defers w h) (Or.inl ⟨wanted_at 9 231 true rfl rfl (by simp only [Array.size_setIfInBounds, hsz]; decide) (by go_simp), ?_⟩) hHeld ?_
    · intro w hSw; clear hSw; go_simp
    simp only [Act.put]
    refine wpAnyH_take (i := 17) (oi := { dst := some 239, op := Go.Op.load 32 (Go.Operand.tmp 238), type := 32, pos := "quireref8.go:58", after := #[{ on := 16, ground := Go.Ground.data }, { on := 9, ground := Go.Ground.guard }], guard := some (9, true) }) (v := .int .u64 o.k) rfl (by kernel_rfl) (by kernel_rfl) (by kernel_rfl) (fun c a w h => hQ c _ a.tmps a.defers w h) (Or.inl ⟨wanted_at 9 231 true rfl rfl (by simp only [Array.size_setIfInBounds, hsz]; decide) (by go_simp), ?_⟩) hHeld ?_
    · intro w hSw; have hq := hSw.1.q1; clear hSw; go_simp
    simp only [Act.put]
    refine wpAnyH_take (i := 18) (oi := { dst := some 240, op := Go.Op.binOp Go.BinOp.geq 32 (Go.Operand.tmp 236) (Go.Operand.tmp 239) 32, type := 4, pos := "quireref8.go:58", after := #[{ on := 14, ground := Go.Ground.data }, { on := 17, ground := Go.Ground.data }, { on := 9, ground := Go.Ground.guard }], guard := some (9, true) }) (v := .bool true) rfl (by kernel_rfl) (by kernel_rfl) (by kernel_rfl) (fun c a w h => hQ c _ a.tmps a.defers w h) (Or.inl ⟨wanted_at 9 231 true rfl rfl (by simp only [Array.size_setIfInBounds, hsz]; decide) (by go_simp), ?_⟩) hHeld ?_
    · intro w hSw; clear hSw; go_simp
    simp only [Act.put]
    refine wpAnyH_take (i := 19) (oi := { dst := some 241, op := Go.Op.pick (Go.Operand.tmp 231) (Go.Operand.tmp 240) (Go.Operand.const (Go.Value.bool false)), type := 4, pos := "quireref8.go:58", after := #[{ on := 9, ground := Go.Ground.data }, { on := 18, ground := Go.Ground.data }], guard := none }) (v := .bool true) rfl (by kernel_rfl) (by kernel_rfl) (by kernel_rfl) (fun c a w h => hQ c _ a.tmps a.defers w h) (Or.inl ⟨by rfl, ?_⟩) hHeld ?_
    · intro w hSw; clear hSw; go_simp
    simp only [Act.put]
    refine wpAnyH_take (i := 20) (oi := { dst := some 242, op := Go.Op.move (Go.Operand.tmp 241), type := 4, pos := "quireref8.go:58", after := #[{ on := 19, ground := Go.Ground.data }, { on := 9, ground := Go.Ground.chain }], guard := none }) (v := .bool true) rfl (by kernel_rfl) (by kernel_rfl) (by kernel_rfl) (fun c a w h => hQ c _ a.tmps a.defers w h) (Or.inl ⟨by rfl, ?_⟩) hHeld ?_
    · intro w hSw; clear hSw; go_simp
    simp only [Act.put]
    refine wpAnyH_take (i := 21) (oi := { dst := some 243, op := Go.Op.move (Go.Operand.tmp 10), type := 64, pos := "quireref8.go:58", after := #[{ on := 20, ground := Go.Ground.guard }], guard := some (20, true) }) (v := .slice (some ⟨NB, 0, none⟩) 5 5) rfl (by kernel_rfl) (by kernel_rfl) (by kernel_rfl) (fun c a w h => hQ c _ a.tmps a.defers w h) (Or.inl ⟨wanted_at 20 242 true rfl rfl (by simp only [Array.size_setIfInBounds, hsz]; decide) (by go_simp), ?_⟩) hHeld ?_
    · intro w hSw; clear hSw; go_simp
    simp only [Act.put]
    refine wpAnyH_take (i := 22) (oi := { dst := some 244, op := Go.Op.move (Go.Operand.tmp 11), type := 3, pos := "quireref8.go:58", after := #[{ on := 20, ground := Go.Ground.guard }], guard := some (20, true) }) (v := .int .i64 (i : Int)) rfl (by kernel_rfl) (by kernel_rfl) (by kernel_rfl) (fun c a w h => hQ c _ a.tmps a.defers w h) (Or.inl ⟨wanted_at 20 242 true rfl rfl (by simp only [Array.size_setIfInBounds, hsz]; decide) (by go_simp), ?_⟩) hHeld ?_
    · intro w hSw; clear hSw; go_simp
    simp only [Act.put]
    refine wpAnyH_take (i := 23) (oi := { dst := some 245, op := Go.Op.indexAddr 64 (Go.Operand.tmp 243) (Go.Operand.tmp 244), type := 0, pos := "quireref8.go:58", after := #[{ on := 21, ground := Go.Ground.data }, { on := 22, ground := Go.Ground.data }, { on := 20, ground := Go.Ground.guard }], guard := some (20, true) }) (v := .pointer (some ⟨NB, i * 2, none⟩)) rfl (by kernel_rfl) (by kernel_rfl) (by kernel_rfl) (fun c a w h => hQ c _ a.tmps a.defers w h) (Or.inl ⟨wanted_at 20 242 true rfl rfl (by simp only [Array.size_setIfInBounds, hsz]; decide) (by go_simp), ?_⟩) hHeld ?_
    · intro w hSw; clear hSw; go_simp
    simp only [Act.put]
    refine wpAnyH_take (i := 24) (oi := { dst := some 246, op := Go.Op.fieldAddr 34 (Go.Operand.tmp 245) 1, type := 0, pos := "quireref8.go:58", after := #[{ on := 23, ground := Go.Ground.data }, { on := 20, ground := Go.Ground.guard }], guard := some (20, true) }) (v := .pointer (some ⟨NB, i * 2 + 1, none⟩)) rfl (by kernel_rfl) (by kernel_rfl) (by kernel_rfl) (fun c a w h => hQ c _ a.tmps a.defers w h) (Or.inl ⟨wanted_at 20 242 true rfl rfl (by simp only [Array.size_setIfInBounds, hsz]; decide) (by go_simp), ?_⟩) hHeld ?_
    · intro w hSw; clear hSw; go_simp
    simp only [Act.put]
    refine wpAnyH_take (i := 25) (oi := { dst := some 247, op := Go.Op.load 32 (Go.Operand.tmp 246), type := 32, pos := "quireref8.go:58", after := #[{ on := 24, ground := Go.Ground.data }, { on := 20, ground := Go.Ground.guard }], guard := some (20, true) }) (v := .int .u64 xk) rfl (by kernel_rfl) (by kernel_rfl) (by kernel_rfl) (fun c a w h => hQ c _ a.tmps a.defers w h) (Or.inl ⟨wanted_at 20 242 true rfl rfl (by simp only [Array.size_setIfInBounds, hsz]; decide) (by go_simp), ?_⟩) hHeld ?_
    · intro w hSw; have hq := hSw.2.2; clear hSw; go_simp
    simp only [Act.put]
    refine wpAnyH_take (i := 26) (oi := { dst := some 248, op := Go.Op.fieldAddr 41 (Go.Operand.tmp 1) 0, type := 0, pos := "quireref8.go:58", after := #[{ on := 20, ground := Go.Ground.guard }], guard := some (20, true) }) (v := .pointer (some ⟨B, 0, none⟩)) rfl (by kernel_rfl) (by kernel_rfl) (by kernel_rfl) (fun c a w h => hQ c _ a.tmps a.defers w h) (Or.inl ⟨wanted_at 20 242 true rfl rfl (by simp only [Array.size_setIfInBounds, hsz]; decide) (by go_simp), ?_⟩) hHeld ?_
    · intro w hSw; clear hSw; go_simp
    simp only [Act.put]
    refine wpAnyH_take (i := 27) (oi := { dst := some 249, op := Go.Op.fieldAddr 34 (Go.Operand.tmp 248) 1, type := 0, pos := "quireref8.go:58", after := #[{ on := 26, ground := Go.Ground.data }, { on := 20, ground := Go.Ground.guard }], guard := some (20, true) }) (v := .pointer (some ⟨B, 1, none⟩)) rfl (by kernel_rfl) (by kernel_rfl) (by kernel_rfl) (fun c a w h => hQ c _ a.tmps a.defers w h) (Or.inl ⟨wanted_at 20 242 true rfl rfl (by simp only [Array.size_setIfInBounds, hsz]; decide) (by go_simp), ?_⟩) hHeld ?_
    · intro w hSw; clear hSw; go_simp
    simp only [Act.put]
    refine wpAnyH_take (i := 28) (oi := { dst := some 250, op := Go.Op.load 32 (Go.Operand.tmp 249), type := 32, pos := "quireref8.go:58", after := #[{ on := 27, ground := Go.Ground.data }, { on := 20, ground := Go.Ground.guard }], guard := some (20, true) }) (v := .int .u64 o.k) rfl (by kernel_rfl) (by kernel_rfl) (by kernel_rfl) (fun c a w h => hQ c _ a.tmps a.defers w h) (Or.inl ⟨wanted_at 20 242 true rfl rfl (by simp only [Array.size_setIfInBounds, hsz]; decide) (by go_simp), ?_⟩) hHeld ?_
    · intro w hSw; have hq := hSw.1.q1; clear hSw; go_simp
    simp only [Act.put]
    refine wpAnyH_take (i := 29) (oi := { dst := some 251, op := Go.Op.binOp Go.BinOp.sub 32 (Go.Operand.tmp 247) (Go.Operand.tmp 250) 32, type := 32, pos := "quireref8.go:58", after := #[{ on := 25, ground := Go.Ground.data }, { on := 28, ground := Go.Ground.data }, { on := 20, ground := Go.Ground.guard }], guard := some (20, true) }) (v := .int .u64 (IntKind.u64.wrap (xk - o.k))) rfl (by kernel_rfl) (by kernel_rfl) (by kernel_rfl) (fun c a w h => hQ c _ a.tmps a.defers w h) (Or.inl ⟨wanted_at 20 242 true rfl rfl (by simp only [Array.size_setIfInBounds, hsz]; decide) (by go_simp), ?_⟩) hHeld ?_
    · intro w hSw; clear hSw; go_simp
    simp only [Act.put]
    refine wpAnyH_take (i := 30) (oi := { dst := some 252, op := Go.Op.load 41 (Go.Operand.tmp 1), type := 41, pos := "quireref8.go:58", after := #[{ on := 20, ground := Go.Ground.guard }], guard := some (20, true) }) (v := o.val) rfl (by kernel_rfl) (by kernel_rfl) (by kernel_rfl) (fun c a w h => hQ c _ a.tmps a.defers w h) (yieldsIf_load_mid (wanted_at 20 242 true rfl rfl (by simp only [Array.size_setIfInBounds, hsz]; decide) (by go_simp)) 41 (.tmp 1) rfl B 0 (by go_simp) o.vals.toList _ (fun w hw => rangeAt_of hw.1) Try.underlying41 rfl (by kernel_rfl)) hHeld ?_
    simp only [Act.put]
    refine wpAnyH_ready (rs := [31]) (by kernel_rfl) (by simp) ?_
    refine AllReadyH.cons (o := { dst := some 253, op := Go.Op.call { callee := Go.Callee.value (Go.Operand.func 36), args := #[Go.Operand.tmp 252], argTypes := #[41] }, type := 3, pos := "quireref8.go:58", after := #[{ on := 30, ground := Go.Ground.data }, { on := 20, ground := Go.Ground.chain }, { on := 20, ground := Go.Ground.guard }], guard := some (20, true) }) rfl (fun K hK => ?_) AllReadyH.nil
    rw [if_pos (wanted_at 20 242 true rfl rfl (by simp only [Array.size_setIfInBounds, hsz]; decide) (by go_simp))]
    go_simp
    refine (HL.out _ (Touch.refl _ W).drew).mono ?_
    rintro e W2 ⟨rfl, t⟩
    have HT2 : Hid (Touch (fun _ => False) W W2) := Touch.drew_leftC t
    have hS2 := hSk.out W2 HT2.out
    clear t
    refine hK.out _ _ hS2 (fun hHeld => ?_)
    clear hK K hS2
    refine wpAnyH_take (i := 32) (oi := { dst := some 254, op := Go.Op.convert 3 32 (Go.Operand.tmp 253), type := 32, pos := "quireref8.go:58", after := #[{ on := 31, ground := Go.Ground.data }, { on := 20, ground := Go.Ground.guard }], guard := some (20, true) }) (v := .int .u64 (lenO o : Int)) rfl (by kernel_rfl) (by kernel_rfl) (by kernel_rfl) (fun c a w h => hQ c _ a.tmps a.defers w h) (Or.inl ⟨wanted_at 20 242 true rfl rfl (by simp only [Array.size_setIfInBounds, hsz]; decide) (by go_simp), ?_⟩) hHeld ?_
    · intro w hSw; clear hSw; go_simp
    simp only [Act.put]
    refine wpAnyH_take (i := 33) (oi := { dst := some 255, op := Go.Op.binOp Go.BinOp.lss 32 (Go.Operand.tmp 251) (Go.Operand.tmp 254) 32, type := 4, pos := "quireref8.go:58", after := #[{ on := 29, ground := Go.Ground.data }, { on := 32, ground := Go.Ground.data }, { on := 20, ground := Go.Ground.guard }], guard := some (20, true) }) (v := .bool true) rfl (by kernel_rfl) (by kernel_rfl) (by kernel_rfl) (fun c a w h => hQ c _ a.tmps a.defers w h) (Or.inl ⟨wanted_at 20 242 true rfl rfl (by simp only [Array.size_setIfInBounds, hsz]; decide) (by go_simp), ?_⟩) hHeld ?_
    · intro w hSw; clear hSw; go_simp
    simp only [Act.put]
    refine wpAnyH_take (i := 34) (oi := { dst := some 256, op := Go.Op.pick (Go.Operand.tmp 242) (Go.Operand.tmp 255) (Go.Operand.const (Go.Value.bool false)), type := 4, pos := "quireref8.go:58", after := #[{ on := 20, ground := Go.Ground.data }, { on := 33, ground := Go.Ground.data }], guard := none }) (v := .bool true) rfl (by kernel_rfl) (by kernel_rfl) (by kernel_rfl) (fun c a w h => hQ c _ a.tmps a.defers w h) (Or.inl ⟨by rfl, ?_⟩) hHeld ?_
    · intro w hSw; clear hSw; go_simp
    simp only [Act.put]
    refine wpAnyH_done (by kernel_rfl) ?_ _
    clear hHeld
    refine hk _ _ ?_ ?_ ?_ ?_ ?_ HT2.out
    · simp only [Array.size_setIfInBounds, hsz]
    · go_simp
    · go_simp
    · go_simp
    · rw [he]; go_simp
  · have he : ownB o xc xk = false := by unfold ownB; rw [decide_eq_false hc3]; simp
    have hc4 : (lenO o : Int) ≤ IntKind.u64.wrap (xk - o.k) := by omega
    refine wpAnyH_take (i := 0) (oi := { dst := some 222, op := Go.Op.move (Go.Operand.tmp 10), type := 64, pos := "quireref8.go:58", after := #[], guard := none }) (v := .slice (some ⟨NB, 0, none⟩) 5 5) rfl (by kernel_rfl) (by kernel_rfl) (by kernel_rfl) (fun c a w h => hQ c _ a.tmps a.defers w h) (Or.inl ⟨by rfl, ?_⟩) hHeld ?_
    · intro w hSw; clear hSw; go_simp
    simp only [Act.put]
    refine wpAnyH_take (i := 1) (oi := { dst := some 223, op := Go.Op.move (Go.Operand.tmp 11), type := 3, pos := "quireref8.go:58", after := #[], guard := none }) (v := .int .i64 (i : Int)) rfl (by kernel_rfl) (by kernel_rfl) (by kernel_rfl) (fun c a w h => hQ c _ a.tmps a.defers w h) (Or.inl ⟨by rfl, ?_⟩) hHeld ?_
    · intro w hSw; clear hSw; go_simp
    simp only [Act.put]
    refine wpAnyH_take (i := 2) (oi := { dst := some 224, op := Go.Op.indexAddr 64 (Go.Operand.tmp 222) (Go.Operand.tmp 223), type := 0, pos := "quireref8.go:58", after := #[{ on := 0, ground := Go.Ground.data }, { on := 1, ground := Go.Ground.data }], guard := none }) (v := .pointer (some ⟨NB, i * 2, none⟩)) rfl (by kernel_rfl) (by kernel_rfl) (by kernel_rfl) (fun c a w h => hQ c _ a.tmps a.defers w h) (Or.inl ⟨by rfl, ?_⟩) hHeld ?_
    · intro w hSw; clear hSw; go_simp
    simp only [Act.put]
    refine wpAnyH_take (i := 3) (oi := { dst := some 225, op := Go.Op.fieldAddr 34 (Go.Operand.tmp 224) 0, type := 0, pos := "quireref8.go:58", after := #[{ on := 2, ground := Go.Ground.data }], guard := none }) (v := .pointer (some ⟨NB, i * 2, none⟩)) rfl (by kernel_rfl) (by kernel_rfl) (by kernel_rfl) (fun c a w h => hQ c _ a.tmps a.defers w h) (Or.inl ⟨by rfl, ?_⟩) hHeld ?_
    · intro w hSw; clear hSw; go_simp
    simp only [Act.put]
    refine wpAnyH_take (i := 4) (oi := { dst := some 226, op := Go.Op.load 32 (Go.Operand.tmp 225), type := 32, pos := "quireref8.go:58", after := #[{ on := 3, ground := Go.Ground.data }], guard := none }) (v := .int .u64 xc) rfl (by kernel_rfl) (by kernel_rfl) (by kernel_rfl) (fun c a w h => hQ c _ a.tmps a.defers w h) (Or.inl ⟨by rfl, ?_⟩) hHeld ?_
    · intro w hSw; have hq := hSw.2.1; clear hSw; go_simp
    simp only [Act.put]
    refine wpAnyH_take (i := 5) (oi := { dst := some 227, op := Go.Op.fieldAddr 41 (Go.Operand.tmp 1) 0, type := 0, pos := "quireref8.go:58", after := #[], guard := none }) (v := .pointer (some ⟨B, 0, none⟩)) rfl (by kernel_rfl) (by kernel_rfl) (by kernel_rfl) (fun c a w h => hQ c _ a.tmps a.defers w h) (Or.inl ⟨by rfl, ?_⟩) hHeld ?_
    · intro w hSw; clear hSw; go_simp
    simp only [Act.put]
    refine wpAnyH_take (i := 6) (oi := { dst := some 228, op := Go.Op.fieldAddr 34 (Go.Operand.tmp 227) 0, type := 0, pos := "quireref8.go:58", after := #[{ on := 5, ground := Go.Ground.data }], guard := none }) (v := .pointer (some ⟨B, 0, none⟩)) rfl (by kernel_rfl) (by kernel_rfl) (by kernel_rfl) (fun c a w h => hQ c _ a.tmps a.defers w h) (Or.inl ⟨by rfl, ?_⟩) hHeld ?_
    · intro w hSw; clear hSw; go_simp
    simp only [Act.put]
    refine wpAnyH_take (i := 7) (oi := { dst := some 229, op := Go.Op.load 32 (Go.Operand.tmp 228), type := 32, pos := "quireref8.go:58", after := #[{ on := 6, ground := Go.Ground.data }], guard := none }) (v := .int .u64 o.c) rfl (by kernel_rfl) (by kernel_rfl) (by kernel_rfl) (fun c a w h => hQ c _ a.tmps a.defers w h) (Or.inl ⟨by rfl, ?_⟩) hHeld ?_
    · intro w hSw; have hq := hSw.1.q0; clear hSw; go_simp
    simp only [Act.put]
    refine wpAnyH_take (i := 8) (oi := { dst := some 230, op := Go.Op.binOp Go.BinOp.eql 32 (Go.Operand.tmp 226) (Go.Operand.tmp 229) 32, type := 4, pos := "quireref8.go:58", after := #[{ on := 4, ground := Go.Ground.data }, { on := 7, ground := Go.Ground.data }], guard := none }) (v := .bool true) rfl (by kernel_rfl) (by kernel_rfl) (by kernel_rfl) (fun c a w h => hQ c _ a.tmps a.defers w h) (Or.inl ⟨by rfl, ?_⟩) hHeld ?_
    · intro w hSw; clear hSw; go_simp
    simp only [Act.put]
    refine wpAnyH_take (i := 9) (oi := { dst := some 231, op := Go.Op.move (Go.Operand.tmp 230), type := 4, pos := "quireref8.go:58", after := #[{ on := 8, ground := Go.Ground.data }], guard := none }) (v := .bool true) rfl (by kernel_rfl) (by kernel_rfl) (by kernel_rfl) (fun c a w h => hQ c _ a.tmps a.defers w h) (Or.inl ⟨by rfl, ?_⟩) hHeld ?_
    · intro w hSw; clear hSw; go_simp
    simp only [Act.put]
    refine wpAnyH_take (i := 10) (oi := { dst := some 232, op := Go.Op.move (Go.Operand.tmp 10), type := 64, pos := "quireref8.go:58", after := #[{ on := 9, ground := Go.Ground.guard }], guard := some (9, true) }) (v := .slice (some ⟨NB, 0, none⟩) 5 5) rfl (by kernel_rfl) (by kernel_rfl) (by kernel_rfl) (fun c a w h => hQ c _ a.tmps a.defers w h) (Or.inl ⟨wanted_at 9 231 true rfl rfl (by simp only [Array.size_setIfInBounds, hsz]; decide) (by go_simp), ?_⟩) hHeld ?_
    · intro w hSw; clear hSw; go_simp
    simp only [Act.put]
    refine wpAnyH_take (i := 11) (oi := { dst := some 233, op := Go.Op.move (Go.Operand.tmp 11), type := 3, pos := "quireref8.go:58", after := #[{ on := 9, ground := Go.Ground.guard }], guard := some (9, true) }) (v := .int .i64 (i : Int)) rfl (by kernel_rfl) (by kernel_rfl) (by kernel_rfl) (fun c a w h => hQ c _ a.tmps a.defers w h) (Or.inl ⟨wanted_at 9 231 true rfl rfl (by simp only [Array.size_setIfInBounds, hsz]; decide) (by go_simp), ?_⟩) hHeld ?_
    · intro w hSw; clear hSw; go_simp
    simp only [Act.put]
    refine wpAnyH_take (i := 12) (oi := { dst := some 234, op := Go.Op.indexAddr 64 (Go.Operand.tmp 232) (Go.Operand.tmp 233), type := 0, pos := "quireref8.go:58", after := #[{ on := 10, ground := Go.Ground.data }, { on := 11, ground := Go.Ground.data }, { on := 9, ground := Go.Ground.guard }], guard := some (9, true) }) (v := .pointer (some ⟨NB, i * 2, none⟩)) rfl (by kernel_rfl) (by kernel_rfl) (by kernel_rfl) (fun c a w h => hQ c _ a.tmps a.defers w h) (Or.inl ⟨wanted_at 9 231 true rfl rfl (by simp only [Array.size_setIfInBounds, hsz]; decide) (by go_simp), ?_⟩) hHeld ?_
    · intro w hSw; clear hSw; go_simp
    simp only [Act.put]
    refine wpAnyH_take (i := 13) (oi := { dst := some 235, op := Go.Op.fieldAddr 34 (Go.Operand.tmp 234) 1, type := 0, pos := "quireref8.go:58", after := #[{ on := 12, ground := Go.Ground.data }, { on := 9, ground := Go.Ground.guard }], guard := some (9, true) }) (v := .pointer (some ⟨NB, i * 2 + 1, none⟩)) rfl (by kernel_rfl) (by kernel_rfl) (by kernel_rfl) (fun c a w h => hQ c _ a.tmps a.defers w h) (Or.inl ⟨wanted_at 9 231 true rfl rfl (by simp only [Array.size_setIfInBounds, hsz]; decide) (by go_simp), ?_⟩) hHeld ?_
    · intro w hSw; clear hSw; go_simp
    simp only [Act.put]
    refine wpAnyH_take (i := 14) (oi := { dst := some 236, op := Go.Op.load 32 (Go.Operand.tmp 235), type := 32, pos := "quireref8.go:58", after := #[{ on := 13, ground := Go.Ground.data }, { on := 9, ground := Go.Ground.guard }], guard := some (9, true) }) (v := .int .u64 xk) rfl (by kernel_rfl) (by kernel_rfl) (by kernel_rfl) (fun c a w h => hQ c _ a.tmps a.defers w h) (Or.inl ⟨wanted_at 9 231 true rfl rfl (by simp only [Array.size_setIfInBounds, hsz]; decide) (by go_simp), ?_⟩) hHeld ?_
    · intro w hSw; have hq := hSw.2.2; clear hSw; go_simp
    simp only [Act.put]
    refine wpAnyH_take (i := 15) (oi := { dst := some 237, op := Go.Op.fieldAddr 41 (Go.Operand.tmp 1) 0, type := 0, pos := "quireref8.go:58", after := #[{ on := 9, ground := Go.Ground.guard }], guard := some (9, true) }) (v := .pointer (some ⟨B, 0, none⟩)) rfl (by kernel_rfl) (by kernel_rfl) (by kernel_rfl) (fun c a w h => hQ c _ a.tmps a.defers w h) (Or.inl ⟨wanted_at 9 231 true rfl rfl (by simp only [Array.size_setIfInBounds, hsz]; decide) (by go_simp), ?_⟩) hHeld ?_
    · intro w hSw; clear hSw; go_simp
    simp only [Act.put]
    refine wpAnyH_take (i := 16) (oi := { dst := some 238, op := Go.Op.fieldAddr 34 (Go.Operand.tmp 237) 1, type := 0, pos := "quireref8.go:58", after := #[{ on := 15, ground := Go.Ground.data }, { on := 9, ground := Go.Ground.guard }], guard := some (9, true) }) (v := .pointer (some ⟨B, 1, none⟩)) rfl (by kernel_rfl) (by kernel_rfl) (by kernel_rfl) (fun c a w h => hQ c _ a.tmps a.defers w h) (Or.inl ⟨wanted_at 9 231 true rfl rfl (by simp only [Array.size_setIfInBounds, hsz]; decide) (by go_simp), ?_⟩) hHeld ?_
    · intro w hSw; clear hSw; go_simp
    simp only [Act.put]
    refine wpAnyH_take (i := 17) (oi := { dst := some 239, op := Go.Op.load 32 (Go.Operand.tmp 238), type := 32, pos := "quireref8.go:58", after := #[{ on := 16, ground := Go.Ground.data }, { on := 9, ground := Go.Ground.guard }], guard := some (9, true) }) (v := .int .u64 o.k) rfl (by kernel_rfl) (by kernel_rfl) (by kernel_rfl) (fun c a w h => hQ c _ a.tmps a.defers w h) (Or.inl ⟨wanted_at 9 231 true rfl rfl (by simp only [Array.size_setIfInBounds, hsz]; decide) (by go_simp), ?_⟩) hHeld ?_
    · intro w hSw; have hq := hSw.1.q1; clear hSw; go_simp
    simp only [Act.put]
    refine wpAnyH_take (i := 18) (oi := { dst := some 240, op := Go.Op.binOp Go.BinOp.geq 32 (Go.Operand.tmp 236) (Go.Operand.tmp 239) 32, type := 4, pos := "quireref8.go:58", after := #[{ on := 14, ground := Go.Ground.data }, { on := 17, ground := Go.Ground.data }, { on := 9, ground := Go.Ground.guard }], guard := some (9, true) }) (v := .bool true) rfl (by kernel_rfl) (by kernel_rfl) (by kernel_rfl) (fun c a w h => hQ c _ a.tmps a.defers w h) (Or.inl ⟨wanted_at 9 231 true rfl rfl (by simp only [Array.size_setIfInBounds, hsz]; decide) (by go_simp), ?_⟩) hHeld ?_
    · intro w hSw; clear hSw; go_simp
    simp only [Act.put]
    refine wpAnyH_take (i := 19) (oi := { dst := some 241, op := Go.Op.pick (Go.Operand.tmp 231) (Go.Operand.tmp 240) (Go.Operand.const (Go.Value.bool false)), type := 4, pos := "quireref8.go:58", after := #[{ on := 9, ground := Go.Ground.data }, { on := 18, ground := Go.Ground.data }], guard := none }) (v := .bool true) rfl (by kernel_rfl) (by kernel_rfl) (by kernel_rfl) (fun c a w h => hQ c _ a.tmps a.defers w h) (Or.inl ⟨by rfl, ?_⟩) hHeld ?_
    · intro w hSw; clear hSw; go_simp
    simp only [Act.put]
    refine wpAnyH_take (i := 20) (oi := { dst := some 242, op := Go.Op.move (Go.Operand.tmp 241), type := 4, pos := "quireref8.go:58", after := #[{ on := 19, ground := Go.Ground.data }, { on := 9, ground := Go.Ground.chain }], guard := none }) (v := .bool true) rfl (by kernel_rfl) (by kernel_rfl) (by kernel_rfl) (fun c a w h => hQ c _ a.tmps a.defers w h) (Or.inl ⟨by rfl, ?_⟩) hHeld ?_
    · intro w hSw; clear hSw; go_simp
    simp only [Act.put]
    refine wpAnyH_take (i := 21) (oi := { dst := some 243, op := Go.Op.move (Go.Operand.tmp 10), type := 64, pos := "quireref8.go:58", after := #[{ on := 20, ground := Go.Ground.guard }], guard := some (20, true) }) (v := .slice (some ⟨NB, 0, none⟩) 5 5) rfl (by kernel_rfl) (by kernel_rfl) (by kernel_rfl) (fun c a w h => hQ c _ a.tmps a.defers w h) (Or.inl ⟨wanted_at 20 242 true rfl rfl (by simp only [Array.size_setIfInBounds, hsz]; decide) (by go_simp), ?_⟩) hHeld ?_
    · intro w hSw; clear hSw; go_simp
    simp only [Act.put]
    refine wpAnyH_take (i := 22) (oi := { dst := some 244, op := Go.Op.move (Go.Operand.tmp 11), type := 3, pos := "quireref8.go:58", after := #[{ on := 20, ground := Go.Ground.guard }], guard := some (20, true) }) (v := .int .i64 (i : Int)) rfl (by kernel_rfl) (by kernel_rfl) (by kernel_rfl) (fun c a w h => hQ c _ a.tmps a.defers w h) (Or.inl ⟨wanted_at 20 242 true rfl rfl (by simp only [Array.size_setIfInBounds, hsz]; decide) (by go_simp), ?_⟩) hHeld ?_
    · intro w hSw; clear hSw; go_simp
    simp only [Act.put]
    refine wpAnyH_take (i := 23) (oi := { dst := some 245, op := Go.Op.indexAddr 64 (Go.Operand.tmp 243) (Go.Operand.tmp 244), type := 0, pos := "quireref8.go:58", after := #[{ on := 21, ground := Go.Ground.data }, { on := 22, ground := Go.Ground.data }, { on := 20, ground := Go.Ground.guard }], guard := some (20, true) }) (v := .pointer (some ⟨NB, i * 2, none⟩)) rfl (by kernel_rfl) (by kernel_rfl) (by kernel_rfl) (fun c a w h => hQ c _ a.tmps a.defers w h) (Or.inl ⟨wanted_at 20 242 true rfl rfl (by simp only [Array.size_setIfInBounds, hsz]; decide) (by go_simp), ?_⟩) hHeld ?_
    · intro w hSw; clear hSw; go_simp
    simp only [Act.put]
    refine wpAnyH_take (i := 24) (oi := { dst := some 246, op := Go.Op.fieldAddr 34 (Go.Operand.tmp 245) 1, type := 0, pos := "quireref8.go:58", after := #[{ on := 23, ground := Go.Ground.data }, { on := 20, ground := Go.Ground.guard }], guard := some (20, true) }) (v := .pointer (some ⟨NB, i * 2 + 1, none⟩)) rfl (by kernel_rfl) (by kernel_rfl) (by kernel_rfl) (fun c a w h => hQ c _ a.tmps a.defers w h) (Or.inl ⟨wanted_at 20 242 true rfl rfl (by simp only [Array.size_setIfInBounds, hsz]; decide) (by go_simp), ?_⟩) hHeld ?_
    · intro w hSw; clear hSw; go_simp
    simp only [Act.put]
    refine wpAnyH_take (i := 25) (oi := { dst := some 247, op := Go.Op.load 32 (Go.Operand.tmp 246), type := 32, pos := "quireref8.go:58", after := #[{ on := 24, ground := Go.Ground.data }, { on := 20, ground := Go.Ground.guard }], guard := some (20, true) }) (v := .int .u64 xk) rfl (by kernel_rfl) (by kernel_rfl) (by kernel_rfl) (fun c a w h => hQ c _ a.tmps a.defers w h) (Or.inl ⟨wanted_at 20 242 true rfl rfl (by simp only [Array.size_setIfInBounds, hsz]; decide) (by go_simp), ?_⟩) hHeld ?_
    · intro w hSw; have hq := hSw.2.2; clear hSw; go_simp
    simp only [Act.put]
    refine wpAnyH_take (i := 26) (oi := { dst := some 248, op := Go.Op.fieldAddr 41 (Go.Operand.tmp 1) 0, type := 0, pos := "quireref8.go:58", after := #[{ on := 20, ground := Go.Ground.guard }], guard := some (20, true) }) (v := .pointer (some ⟨B, 0, none⟩)) rfl (by kernel_rfl) (by kernel_rfl) (by kernel_rfl) (fun c a w h => hQ c _ a.tmps a.defers w h) (Or.inl ⟨wanted_at 20 242 true rfl rfl (by simp only [Array.size_setIfInBounds, hsz]; decide) (by go_simp), ?_⟩) hHeld ?_
    · intro w hSw; clear hSw; go_simp
    simp only [Act.put]
    refine wpAnyH_take (i := 27) (oi := { dst := some 249, op := Go.Op.fieldAddr 34 (Go.Operand.tmp 248) 1, type := 0, pos := "quireref8.go:58", after := #[{ on := 26, ground := Go.Ground.data }, { on := 20, ground := Go.Ground.guard }], guard := some (20, true) }) (v := .pointer (some ⟨B, 1, none⟩)) rfl (by kernel_rfl) (by kernel_rfl) (by kernel_rfl) (fun c a w h => hQ c _ a.tmps a.defers w h) (Or.inl ⟨wanted_at 20 242 true rfl rfl (by simp only [Array.size_setIfInBounds, hsz]; decide) (by go_simp), ?_⟩) hHeld ?_
    · intro w hSw; clear hSw; go_simp
    simp only [Act.put]
    refine wpAnyH_take (i := 28) (oi := { dst := some 250, op := Go.Op.load 32 (Go.Operand.tmp 249), type := 32, pos := "quireref8.go:58", after := #[{ on := 27, ground := Go.Ground.data }, { on := 20, ground := Go.Ground.guard }], guard := some (20, true) }) (v := .int .u64 o.k) rfl (by kernel_rfl) (by kernel_rfl) (by kernel_rfl) (fun c a w h => hQ c _ a.tmps a.defers w h) (Or.inl ⟨wanted_at 20 242 true rfl rfl (by simp only [Array.size_setIfInBounds, hsz]; decide) (by go_simp), ?_⟩) hHeld ?_
    · intro w hSw; have hq := hSw.1.q1; clear hSw; go_simp
    simp only [Act.put]
    refine wpAnyH_take (i := 29) (oi := { dst := some 251, op := Go.Op.binOp Go.BinOp.sub 32 (Go.Operand.tmp 247) (Go.Operand.tmp 250) 32, type := 32, pos := "quireref8.go:58", after := #[{ on := 25, ground := Go.Ground.data }, { on := 28, ground := Go.Ground.data }, { on := 20, ground := Go.Ground.guard }], guard := some (20, true) }) (v := .int .u64 (IntKind.u64.wrap (xk - o.k))) rfl (by kernel_rfl) (by kernel_rfl) (by kernel_rfl) (fun c a w h => hQ c _ a.tmps a.defers w h) (Or.inl ⟨wanted_at 20 242 true rfl rfl (by simp only [Array.size_setIfInBounds, hsz]; decide) (by go_simp), ?_⟩) hHeld ?_
    · intro w hSw; clear hSw; go_simp
    simp only [Act.put]
    refine wpAnyH_take (i := 30) (oi := { dst := some 252, op := Go.Op.load 41 (Go.Operand.tmp 1), type := 41, pos := "quireref8.go:58", after := #[{ on := 20, ground := Go.Ground.guard }], guard := some (20, true) }) (v := o.val) rfl (by kernel_rfl) (by kernel_rfl) (by kernel_rfl) (fun c a w h => hQ c _ a.tmps a.defers w h) (yieldsIf_load_mid (wanted_at 20 242 true rfl rfl (by simp only [Array.size_setIfInBounds, hsz]; decide) (by go_simp)) 41 (.tmp 1) rfl B 0 (by go_simp) o.vals.toList _ (fun w hw => rangeAt_of hw.1) Try.underlying41 rfl (by kernel_rfl)) hHeld ?_
    simp only [Act.put]
    refine wpAnyH_ready (rs := [31]) (by kernel_rfl) (by simp) ?_
    refine AllReadyH.cons (o := { dst := some 253, op := Go.Op.call { callee := Go.Callee.value (Go.Operand.func 36), args := #[Go.Operand.tmp 252], argTypes := #[41] }, type := 3, pos := "quireref8.go:58", after := #[{ on := 30, ground := Go.Ground.data }, { on := 20, ground := Go.Ground.chain }, { on := 20, ground := Go.Ground.guard }], guard := some (20, true) }) rfl (fun K hK => ?_) AllReadyH.nil
    rw [if_pos (wanted_at 20 242 true rfl rfl (by simp only [Array.size_setIfInBounds, hsz]; decide) (by go_simp))]
    go_simp
    refine (HL.out _ (Touch.refl _ W).drew).mono ?_
    rintro e W2 ⟨rfl, t⟩
    have HT2 : Hid (Touch (fun _ => False) W W2) := Touch.drew_leftC t
    have hS2 := hSk.out W2 HT2.out
    clear t
    refine hK.out _ _ hS2 (fun hHeld => ?_)
    clear hK K hS2
    refine wpAnyH_take (i := 32) (oi := { dst := some 254, op := Go.Op.convert 3 32 (Go.Operand.tmp 253), type := 32, pos := "quireref8.go:58", after := #[{ on := 31, ground := Go.Ground.data }, { on := 20, ground := Go.Ground.guard }], guard := some (20, true) }) (v := .int .u64 (lenO o : Int)) rfl (by kernel_rfl) (by kernel_rfl) (by kernel_rfl) (fun c a w h => hQ c _ a.tmps a.defers w h) (Or.inl ⟨wanted_at 20 242 true rfl rfl (by simp only [Array.size_setIfInBounds, hsz]; decide) (by go_simp), ?_⟩) hHeld ?_
    · intro w hSw; clear hSw; go_simp
    simp only [Act.put]
    refine wpAnyH_take (i := 33) (oi := { dst := some 255, op := Go.Op.binOp Go.BinOp.lss 32 (Go.Operand.tmp 251) (Go.Operand.tmp 254) 32, type := 4, pos := "quireref8.go:58", after := #[{ on := 29, ground := Go.Ground.data }, { on := 32, ground := Go.Ground.data }, { on := 20, ground := Go.Ground.guard }], guard := some (20, true) }) (v := .bool false) rfl (by kernel_rfl) (by kernel_rfl) (by kernel_rfl) (fun c a w h => hQ c _ a.tmps a.defers w h) (Or.inl ⟨wanted_at 20 242 true rfl rfl (by simp only [Array.size_setIfInBounds, hsz]; decide) (by go_simp), ?_⟩) hHeld ?_
    · intro w hSw; clear hSw; go_simp
    simp only [Act.put]
    refine wpAnyH_take (i := 34) (oi := { dst := some 256, op := Go.Op.pick (Go.Operand.tmp 242) (Go.Operand.tmp 255) (Go.Operand.const (Go.Value.bool false)), type := 4, pos := "quireref8.go:58", after := #[{ on := 20, ground := Go.Ground.data }, { on := 33, ground := Go.Ground.data }], guard := none }) (v := .bool false) rfl (by kernel_rfl) (by kernel_rfl) (by kernel_rfl) (fun c a w h => hQ c _ a.tmps a.defers w h) (Or.inl ⟨by rfl, ?_⟩) hHeld ?_
    · intro w hSw; clear hSw; go_simp
    simp only [Act.put]
    refine wpAnyH_done (by kernel_rfl) ?_ _
    clear hHeld
    refine hk _ _ ?_ ?_ ?_ ?_ ?_ HT2.out
    · simp only [Array.size_setIfInBounds, hsz]
    · go_simp
    · go_simp
    · go_simp
    · rw [he]; go_simp
end Go.Proofs.Ytegldlfbmaapiaa
