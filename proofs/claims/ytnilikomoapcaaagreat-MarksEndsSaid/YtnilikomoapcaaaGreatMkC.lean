/- Package marks: won of one span. -/
import Derived.Test.YtnilikomoapcaaaGreatPart29
import Derived.Test.YtnilikomoapcaaaGreatPart24
import Derived.Deep.RegionHeld3
namespace Go.Proofs.YtnilikomoapcaaaGreat
open Go.RowKit
set_option linter.unusedVariables false
set_option linter.unusedSimpArgs false
set_option maxRecDepth 100000

theorem WaysAt.keep {W W' : World} {g n : Nat} {f : Nat → Nat} (h : WaysAt W g n f) (t : Touch (fun _ => False) W W') : WaysAt W' g n f := by
  obtain ⟨c, ty, h1, h2, h3⟩ := h
  exact ⟨c, ty, heap_keep t h1, h2, h3⟩
theorem make_two (W : World) : (Instr.makeSlice 127 (.int .i64 2) (.int .i64 2)).run Tryz.prog W = .ok (.slice (some ⟨W.heap.size, 0, none⟩) 2 2) (W.alloc (.cells #[.int .i64 0, .int .i64 0] 3)) := by kernel_rfl
set_option maxHeartbeats 8000000 in
theorem wonOne_any {w : World} {g q cap : Nat} {x : Spn} (hx : w.rangeAt g q x.vals.toList) (hft : x.f < x.t) :
    Calls Tryz.prog 32 #[.slice (some ⟨g, q, none⟩) 1 cap] w fun e w' => ∃ v, e = .returned v ∧ NewX w w' v [x] := by
  have HX : Hid (w.rangeAt g q x.vals.toList) := hx
  have HF : Hid (x.f < x.t) := hft
  have HS : Hid (Calls Tryz.prog 63 #[.slice (some ⟨g, q, none⟩) 1 cap, .func (.func 64) #[] #[]] w fun e w' => e = .returned (.tuple #[]) ∧ w' = w) := sortOne_any _ _ _ w
  have HB : Hid (Calls Tryz.prog 65 #[.slice (some ⟨g, q, none⟩) 1 cap] w fun e w' => ∃ v, e = .returned v ∧ NewJ w w' v [x.f, x.t]) := boundsOne_any hx hft
  clear hx hft
  go_enter Tryz.func32, Tryz.ntmps32
  go_wp2_with fail
  refine HS.out.mono ?_
  rintro e w1 ⟨rfl, hw1⟩
  rw [hw1]; clear hw1 HS
  go_wp2_with fail
  refine HB.out.mono ?_
  rintro e W1 ⟨v, rfl, hN⟩
  have HT1 : Hid (Touch (fun _ => False) w W1) := hN.touch
  obtain ⟨ao, ac, rfl, hg, -, -⟩ := hN.shape
  obtain ⟨gb, rfl⟩ := hg (by simp)
  have HN1 : Hid (NewJ w W1 (.slice (some ⟨gb, 0, none⟩) 2 ac) [x.f, x.t]) := hN
  have HC : Hid (∀ W, Touch (fun _ => False) W1 W → W.cell? ⟨gb, 0, none⟩ = some (.int .i64 x.f) ∧ W.cell? ⟨gb, 1, none⟩ = some (.int .i64 x.t)) := fun W T => by
    obtain ⟨b', o', cap', e', -, -, -, hc⟩ := (NewJ.sl (hN.on T)).row (by simp)
    simp only [Value.slice.injEq, Option.some.injEq, Addr.mk.injEq] at e'
    obtain ⟨⟨rfl, rfl, -⟩, -⟩ := e'
    exact ⟨by simpa using hc 0 (by simp), by simpa using hc 1 (by simp)⟩
  clear hN HB
  simp only [List.length_cons, List.length_nil, Nat.zero_add, Nat.reduceAdd]
  have hmk := make_two
  go_wp2_with fail
  clear hmk
  obtain ⟨gl, hgl⟩ : ∃ gl, Hid (gl = W1.heap.size) := ⟨_, Eq.refl _⟩
  have HW0 : Hid (WaysAt (W1.alloc (.cells #[.int .i64 0, .int .i64 0] 3)) gl 2 (fun _ => 0) ∧ Touch (fun k => k = gl) W1 (W1.alloc (.cells #[.int .i64 0, .int .i64 0] 3))) := by
    rw [hgl.out]
    refine ⟨⟨_, _, heap_alloc_new W1 _, rfl, fun i hi => ?_⟩, (Touch.refl _ _).alloc _⟩
    have : i = 0 ∨ i = 1 := by omega
    rcases this with rfl | rfl <;> rfl
  have HGl : Hid (W1.heap.size ≤ gl) := by rw [Hid, hgl.out]; exact Nat.le_refl _
  rw [← hgl.out]
  clear hgl
  go_loopw [5, 22] (fun a i wr => ∃ (k : Nat) (f : Nat → Nat), i = .int .i64 (k : Int) ∧ k ≤ 2 ∧ WaysAt wr gl 2 f ∧ (∀ j, j < k → f j = j) ∧ Touch (fun k => k = gl) W1 wr) (fun _ i _ => 2 - (intOf i).toNat)
  case atStart => exact ⟨0, fun _ => 0, rfl, by omega, HW0.out.1, fun j hj => absurd hj (Nat.not_lt_zero _), HW0.out.2⟩
  case round =>
    obtain ⟨k, f, rfl, hk, hW, hf, hT⟩ := hrel
    by_cases hlt : k < 2
    · obtain ⟨c0, z0⟩ := hW.cell hlt
      have HU : Hid (∃ (k' : Nat) (f : Nat → Nat), (.int .i64 ((k : Int) + 1) : Value) = .int .i64 (k' : Int) ∧ k' ≤ 2 ∧ WaysAt (wr.setCell ⟨gl, k, none⟩ (.int .i64 (k : Int))) gl 2 f ∧ (∀ j, j < k' → f j = j) ∧ Touch (fun k => k = gl) W1 (wr.setCell ⟨gl, k, none⟩ (.int .i64 (k : Int)))) :=
        ⟨k + 1, _, by go_num, by omega, hW.put hlt k, fun j hj => by
          by_cases e : j = k
          · simp [e]
          · simp only [e, if_false]; exact hf j (by omega), hT.setCell _ _ fun _ => rfl⟩
      have hi1 : (0 : Int) ≤ (k : Int) := by omega
      have hi2 : (k : Int) < 2 := by omega
      have hjm : (k : Int) + 1 < 9223372036854775808 := by omega
      have hm0 : Hid (2 - (k + 1) < 2 - k) := by rw [Hid]; omega
      clear hW hf hT hk hlt
      go_wp2_with fail
      go_roundw
      case rel => exact HU.out
      case measure => simp only [intOf]; have := hm0.out; omega
    · have hi2 : ¬ (k : Int) < 2 := by omega
      have hk2 : k = 2 := by omega
      subst hk2
      have HW : Hid (WaysAt wr gl 2 f ∧ LeftW (fun _ => false) 2 f) := ⟨hW, ⟨fun i hi => by rw [hf i hi]; omega, fun i hi => by rw [hf i hi]; simp, fun i j hi h1 h2 => by rw [hf i hi] at h2; omega, by simp⟩⟩
      have HT : Hid (Touch (fun k => k = gl) W1 wr) := hT
      have HCr : Hid (∀ W, Touch (fun k => k = gl ∨ wr.heap.size ≤ k) wr W → W.cell? ⟨gb, 0, none⟩ = some (.int .i64 x.f) ∧ W.cell? ⟨gb, 1, none⟩ = some (.int .i64 x.t)) := fun W T => by
        obtain ⟨e0, e1⟩ := HC.out W1 (Touch.refl _ _)
        have hl := World.block_lt_of_cell? _ _ e0
        have h1 := hT.block gb hl (by have := HGl.out; simp only at hl; omega)
        have h2 := T.block gb (Nat.lt_of_lt_of_le hl hT.size) (by have := HGl.out; have := hT.size; simp only at hl; omega)
        have h3 := h2.trans h1
        exact ⟨by rw [World.cell?_of_block h3]; exact e0, by rw [World.cell?_of_block h3]; exact e1⟩
      have HXr : Hid (wr.rangeAt g q x.vals.toList) := by
        refine World.rangeAt_keep (World.rangeAt_keep HX.out HT1.out id) hT fun e => ?_
        have hl := World.block_lt_of_cell? _ _ (HX.out 0 _ rfl)
        have := HT1.out.size
        have := HGl.out
        simp only at hl
        omega
      have HTw : Hid (Touch (fun _ => False) w wr) := HT1.out.then hT fun k hk e => by have := HT1.out.size; have := HGl.out; omega
      clear hW hf hT hk hlt HW0 HC HX HN1
      rename World => V
      go_wp2_with fail
      go_loopw [6, 32] (fun v i W => (i = .int .i64 0 ∧ v = .slice none 0 0 ∧ W = V) ∨ (i = .int .i64 1 ∧ NewX w W v [x])) (fun _ i _ => 2 - (intOf i).toNat)
      case atStart => exact .inl ⟨rfl, rfl, rfl⟩
      case round =>
        rcases hrel with ⟨rfl, rfl, hw⟩ | ⟨rfl, hN⟩
        · rw [hw]
          clear hw
          obtain ⟨W3, hW3⟩ : ∃ W3, Hid (W3 = (V.alloc zeroSpn).setCells V.heap.size 0 x.vals.toList) := ⟨_, Eq.refl _⟩
          have HW3 : Hid (Touch (fun _ => False) V W3 ∧ W3.heap[V.heap.size]? = some (spnO x)) := by rw [hW3.out]; exact newSpn V x
          go_upto_region 12 with fail
          refine wp_region_lit ?_
          refine wpList_plain rfl fun K hK => ?_
          go_simp
          refine hK _ _ ?_
          clear hK K
          refine wpList_load_mid rfl 88 (.tmp 34) rfl g q rfl x.vals.toList _ HXr.out Tryz.underlying88 rfl (by kernel_rfl) ?_
          simp only [Act.put, List.setIfInBounds_toArray, List.set_cons_succ, List.set_cons_zero]
          refine wpList_plain rfl fun K hK => ?_
          go_simp
          refine hK _ _ ?_
          clear hK K
          refine wpList_store_mid rfl 88 (.tmp 8) (.tmp 35) rfl V.heap.size 0 x.vals rfl rfl (there_ofS (heap_alloc_new V zeroSpn) 0 24 (by decide)) (by kernel_rfl) (by kernel_rfl) ?_
          simp only [Act.put]
          rw [← hW3.out]
          clear hW3
          generalize Value.agg #[.int .i64 x.f, .int .i64 x.t, .int .u64 x.o.c, .int .u64 x.o.k, .int .i64 x.o.kind, .int .u64 x.o.st, .int .u64 x.o.lc, .int .u64 x.o.lk, .int .u64 x.o.rc, .int .u64 x.o.rk, .string x.o.tx, .int .i64 x.o.vk, .int .i64 x.o.vn, .float .f64 x.o.vf, .string x.o.vs, .string x.o.ky, .int .u64 x.o.pc, .int .u64 x.o.pk, .int .u64 x.o.fc, .int .u64 x.o.fk, .bool x.o.fa, .int .u64 x.o.tc, .int .u64 x.o.tk, .bool x.o.ta] = v35
          obtain ⟨c0, c1⟩ := spnO_ends HW3.out.2
          obtain ⟨d0, d1⟩ := HCr.out W3 (HW3.out.1.mono fun _ _ q => q.elim)
          have HB1 : Hid (Calls Tryz.prog 66 #[.slice (some ⟨gb, 0, none⟩) 2 ac, .int .i64 x.f] W3 fun e w' => e = .returned (.tuple #[.int .i64 0, .bool true]) ∧ w' = W3) := searchLow_any d0 d1 HF.out
          have HB2 : Hid (Calls Tryz.prog 66 #[.slice (some ⟨gb, 0, none⟩) 2 ac, .int .i64 x.t] W3 fun e w' => e = .returned (.tuple #[.int .i64 1, .bool true]) ∧ w' = W3) := searchHigh_any d0 d1 HF.out
          clear d0 d1
          go_wp2_with fail
          refine HB1.out.mono ?_
          rintro e w1 ⟨rfl, hw1⟩
          rw [hw1]; clear hw1 HB1
          go_wp2_with fail
          refine HB2.out.mono ?_
          rintro e w1 ⟨rfl, hw1⟩
          rw [hw1]; clear hw1 HB2
          go_wp2_with fail
          have HL1 : Hid (Calls Tryz.prog 67 #[.slice (some ⟨gl, 0, none⟩) 2 2, .int .i64 0] W3 fun e w' => e = .returned (.int .i64 0) ∧ Touch (fun k => k = gl) W3 w' ∧ ∃ f', WaysAt w' gl 2 f' ∧ LeftW (fun _ => false) 2 f') := by
            have := firstLeft_any (cap := 2) (HW.out.1.keep HW3.out.1) HW.out.2 (i0 := 0) (by omega) (by omega)
            rw [show LeftW.first (fun _ => false) 2 0 = 0 from by decide] at this
            exact this
          refine HL1.out.mono ?_
          rintro e W4 ⟨rfl, t4, f4, hW4, hL4⟩
          obtain ⟨X, hX⟩ : ∃ X, Hid (X = V.heap.size) := ⟨_, Eq.refl _⟩
          rw [← hX.out] at HW3 ⊢
          have hglV : gl < V.heap.size := by obtain ⟨c, ty, h, -, -⟩ := HW.out.1; exact lt_of_heap h
          have HX4 : Hid (W4.heap[X]? = some (spnO x) ∧ gl < X) := ⟨(t4.block X (lt_of_heap HW3.out.2) (by have := hX.out; omega)).trans HW3.out.2, by have := hX.out; omega⟩
          have HC4 : Hid (W4.cell? ⟨gb, 0, none⟩ = some (.int .i64 x.f) ∧ W4.cell? ⟨gb, 1, none⟩ = some (.int .i64 x.t)) := HCr.out W4 ((HW3.out.1.mono fun _ _ q => q.elim).trans (t4.mono fun k _ e => .inl e))
          have HW4 : Hid (WaysAt W4 gl 2 f4 ∧ LeftW (fun _ => false) 2 f4) := ⟨hW4, hL4⟩
          have HT4 : Hid (Touch (fun _ => False) w W4) := (HTw.out.trans HW3.out.1).then t4 fun k hk e => by have := HT1.out.size; have := HGl.out; omega
          clear t4 hW4 hL4 HL1 hX hglV HW3 c0 c1 HXr HCr HW
          go_wp2_with fail
          go_loopw [6, 9] (fun v i W => (i = .int .i64 0 ∧ v = .slice none 0 0 ∧ W = W4) ∨ (i = .int .i64 1 ∧ NewX w W v [x])) (fun _ i _ => 2 - (intOf i).toNat)
          case atStart => exact .inl ⟨rfl, rfl, rfl⟩
          case round =>
            rcases hrel with ⟨rfl, rfl, hw⟩ | ⟨rfl, hN⟩
            · rw [hw]
              clear hw
              go_upto_region 18 with fail
              obtain ⟨W5, hW5⟩ : ∃ W, Hid (W = W4.drew) := ⟨_, Eq.refl _⟩
              have HK : Hid (∀ W, Touch (fun _ => False) W5 W → (W.cell? ⟨gb, 0, none⟩ = some (.int .i64 x.f) ∧ W.cell? ⟨gb, 1, none⟩ = some (.int .i64 x.t)) ∧ W.heap[X]? = some (spnO x)) := fun W T => by
                have T2 : Touch (fun _ => False) W4 W := by rw [hW5.out] at T; exact (Touch.refl _ _).drew.trans T
                obtain ⟨e0, e1⟩ := HC4.out
                have h1 := T2.block gb (World.block_lt_of_cell? _ _ e0) id
                exact ⟨⟨by rw [World.cell?_of_block h1]; exact e0, by rw [World.cell?_of_block h1]; exact e1⟩, heap_keep T2 HX4.out.1⟩
              have hS0 : (W5.cell? ⟨gb, 0, none⟩ = some (.int .i64 x.f) ∧ W5.cell? ⟨gb, 1, none⟩ = some (.int .i64 x.t)) ∧ W5.heap[X]? = some (spnO x) := HK.out _ (Touch.refl _ _)
              obtain ⟨v', w', hrun, hnew, hgr⟩ := (NewX.nil W5 W5 (Touch.refl _ _)).app1 x (by simp)
              rw [List.nil_append] at hnew
              have HN' : Hid (NewX W5 w' v' [x]) := hnew
              have HT45 : Hid (Touch (fun _ => False) w W5 ∧ W5.heap.size = W4.heap.size ∧ WaysAt W5 gl 2 f4) := by rw [hW5.out]; exact ⟨HT4.out.drew, rfl, HW4.out.1.keep (Touch.refl _ _).drew⟩
              have HT5 : Hid (Touch (fun _ => False) W5 w') := ((Touch.refl _ _).alloc _).grown hgr fun i e _ => by simp [Value.ownBlock] at e
              have HK2 := HK.out w' HT5.out
              have HK2 : Hid _ := HK2
              obtain ⟨ao', ac', rfl, -, -, -⟩ := hnew.shape
              simp only [List.length_singleton] at hrun HN'
              clear hnew hgr
              refine wp_region_held_drew (S := fun W' => (W'.cell? ⟨gb, 0, none⟩ = some (.int .i64 x.f) ∧ W'.cell? ⟨gb, 1, none⟩ = some (.int .i64 x.t)) ∧ W'.heap[X]? = some (spnO x)) (by kernel_rfl) (by rw [← hW5.out]; exact hS0) (fun hHeld => ?_)
              rw [← hW5.out] at hHeld ⊢
              clear hS0 hW5
              refine wpAnyH_take (i := 0) (oi := { dst := some 59, op := Go.Op.move (Go.Operand.tmp 6), type := 89, pos := "span.go:44", after := #[], guard := none }) (v := .slice none 0 0) rfl (by kernel_rfl) (by kernel_rfl) (by kernel_rfl) (fun _ _ _ h => h) (Or.inl ⟨by kernel_rfl, ?_⟩) hHeld ?_
              · intro w hSw; clear hSw; go_simp
              simp only [Act.put, List.setIfInBounds_toArray]
              refine wpAnyH_take (i := 1) (oi := { dst := some 60, op := Go.Op.move (Go.Operand.tmp 3), type := 127, pos := "span.go:44", after := #[], guard := none }) (v := .slice (some ⟨gb, 0, none⟩) 2 ac) rfl (by kernel_rfl) (by kernel_rfl) (by kernel_rfl) (fun _ _ _ h => h) (Or.inl ⟨by kernel_rfl, ?_⟩) hHeld ?_
              · intro w hSw; clear hSw; go_simp
              simp only [Act.put, List.setIfInBounds_toArray]
              refine wpAnyH_take (i := 2) (oi := { dst := some 61, op := Go.Op.move (Go.Operand.tmp 9), type := 3, pos := "span.go:44", after := #[], guard := none }) (v := .int .i64 0) rfl (by kernel_rfl) (by kernel_rfl) (by kernel_rfl) (fun _ _ _ h => h) (Or.inl ⟨by kernel_rfl, ?_⟩) hHeld ?_
              · intro w hSw; clear hSw; go_simp
              simp only [Act.put, List.setIfInBounds_toArray]
              refine wpAnyH_take (i := 5) (oi := { dst := some 64, op := Go.Op.move (Go.Operand.tmp 3), type := 127, pos := "span.go:44", after := #[], guard := none }) (v := .slice (some ⟨gb, 0, none⟩) 2 ac) rfl (by kernel_rfl) (by kernel_rfl) (by kernel_rfl) (fun _ _ _ h => h) (Or.inl ⟨by kernel_rfl, ?_⟩) hHeld ?_
              · intro w hSw; clear hSw; go_simp
              simp only [Act.put, List.setIfInBounds_toArray]
              refine wpAnyH_take (i := 6) (oi := { dst := some 65, op := Go.Op.move (Go.Operand.tmp 9), type := 3, pos := "span.go:44", after := #[], guard := none }) (v := .int .i64 0) rfl (by kernel_rfl) (by kernel_rfl) (by kernel_rfl) (fun _ _ _ h => h) (Or.inl ⟨by kernel_rfl, ?_⟩) hHeld ?_
              · intro w hSw; clear hSw; go_simp
              simp only [Act.put, List.setIfInBounds_toArray]
              refine wpAnyH_take (i := 10) (oi := { dst := some 69, op := Go.Op.fieldAddr 88 (Go.Operand.tmp 8) 2, type := 0, pos := "span.go:44", after := #[], guard := none }) (v := .pointer (some ⟨X, 2, none⟩)) rfl (by kernel_rfl) (by kernel_rfl) (by kernel_rfl) (fun _ _ _ h => h) (Or.inl ⟨by kernel_rfl, ?_⟩) hHeld ?_
              · intro w hSw; clear hSw; go_simp
              simp only [Act.put, List.setIfInBounds_toArray]
              refine wpAnyH_take (i := 3) (oi := { dst := some 62, op := Go.Op.indexAddr 127 (Go.Operand.tmp 60) (Go.Operand.tmp 61), type := 0, pos := "span.go:44", after := #[{ on := 1, ground := Go.Ground.data }, { on := 2, ground := Go.Ground.data }], guard := none }) (v := .pointer (some ⟨gb, 0, none⟩)) rfl (by kernel_rfl) (by kernel_rfl) (by kernel_rfl) (fun _ _ _ h => h) (Or.inl ⟨by kernel_rfl, ?_⟩) hHeld ?_
              · intro w hSw; clear hSw; go_simp
              simp only [Act.put, List.setIfInBounds_toArray]
              refine wpAnyH_take (i := 7) (oi := { dst := some 66, op := Go.Op.binOp Go.BinOp.add 3 (Go.Operand.tmp 65) (Go.Operand.const (Go.Value.int Go.IntKind.i64 1)) 3, type := 3, pos := "span.go:44", after := #[{ on := 6, ground := Go.Ground.data }], guard := none }) (v := .int .i64 1) rfl (by kernel_rfl) (by kernel_rfl) (by kernel_rfl) (fun _ _ _ h => h) (Or.inl ⟨by kernel_rfl, ?_⟩) hHeld ?_
              · intro w hSw; clear hSw; have hw1 : IntKind.i64.wrap 1 = 1 := (by kernel_rfl); go_simp
              simp only [Act.put, List.setIfInBounds_toArray]
              refine wpAnyH_take (i := 8) (oi := { dst := some 67, op := Go.Op.indexAddr 127 (Go.Operand.tmp 64) (Go.Operand.tmp 66), type := 0, pos := "span.go:44", after := #[{ on := 5, ground := Go.Ground.data }, { on := 7, ground := Go.Ground.data }], guard := none }) (v := .pointer (some ⟨gb, 1, none⟩)) rfl (by kernel_rfl) (by kernel_rfl) (by kernel_rfl) (fun _ _ _ h => h) (Or.inl ⟨by kernel_rfl, ?_⟩) hHeld ?_
              · intro w hSw; clear hSw; go_simp
              simp only [Act.put, List.setIfInBounds_toArray]
              refine wpAnyH_take (i := 4) (oi := { dst := some 63, op := Go.Op.load 3 (Go.Operand.tmp 62), type := 3, pos := "span.go:44", after := #[{ on := 3, ground := Go.Ground.data }], guard := none }) (v := .int .i64 x.f) rfl (by kernel_rfl) (by kernel_rfl) (by kernel_rfl) (fun _ _ _ h => h) (Or.inl ⟨by kernel_rfl, ?_⟩) hHeld ?_
              · intro w hSw; have q := hSw.1.1; clear hSw; go_simp
              simp only [Act.put, List.setIfInBounds_toArray]
              refine wpAnyH_take (i := 9) (oi := { dst := some 68, op := Go.Op.load 3 (Go.Operand.tmp 67), type := 3, pos := "span.go:44", after := #[{ on := 8, ground := Go.Ground.data }], guard := none }) (v := .int .i64 x.t) rfl (by kernel_rfl) (by kernel_rfl) (by kernel_rfl) (fun _ _ _ h => h) (Or.inl ⟨by kernel_rfl, ?_⟩) hHeld ?_
              · intro w hSw; have q := hSw.1.2; clear hSw; go_simp
              simp only [Act.put, List.setIfInBounds_toArray]
              refine wpAnyH_take (i := 11) (oi := { dst := some 70, op := Go.Op.load 39 (Go.Operand.tmp 69), type := 39, pos := "span.go:44", after := #[{ on := 10, ground := Go.Ground.data }], guard := none }) (v := x.o.val) rfl (by kernel_rfl) (by kernel_rfl) (by kernel_rfl) (fun _ _ _ h => h) (yieldsIf_load_mid (by kernel_rfl) 39 (.tmp 69) rfl X 2 rfl x.o.vals.toList _ (fun w hw => rangeAt_spn hw.2) Tryz.underlying39 rfl (by kernel_rfl)) hHeld ?_
              simp only [Act.put, List.setIfInBounds_toArray]
              refine wpAnyH_take (i := 12) (oi := { dst := some 71, op := Go.Op.build 88 #[(0, Go.Operand.tmp 63), (1, Go.Operand.tmp 68), (2, Go.Operand.tmp 70)], type := 88, pos := "span.go:44", after := #[{ on := 4, ground := Go.Ground.data }, { on := 9, ground := Go.Ground.data }, { on := 11, ground := Go.Ground.data }], guard := none }) (v := .agg #[.int .i64 x.f, .int .i64 x.t, .int .u64 x.o.c, .int .u64 x.o.k, .int .i64 x.o.kind, .int .u64 x.o.st, .int .u64 x.o.lc, .int .u64 x.o.lk, .int .u64 x.o.rc, .int .u64 x.o.rk, .string x.o.tx, .int .i64 x.o.vk, .int .i64 x.o.vn, .float .f64 x.o.vf, .string x.o.vs, .string x.o.ky, .int .u64 x.o.pc, .int .u64 x.o.pk, .int .u64 x.o.fc, .int .u64 x.o.fk, .bool x.o.fa, .int .u64 x.o.tc, .int .u64 x.o.tk, .bool x.o.ta]) rfl (by kernel_rfl) (by kernel_rfl) (by kernel_rfl) (fun _ _ _ h => h) (Or.inl ⟨by kernel_rfl, ?_⟩) hHeld ?_
              · intro w hSw; clear hSw; go_simp
              simp only [Act.put, List.setIfInBounds_toArray]
              refine wpAnyH_ready (rs := [13]) (by kernel_rfl) (by simp) ?_
              refine AllReadyH.cons (o := { dst := some 72, op := Go.Op.buildSlice 89 1 #[(0, Go.Operand.tmp 71)], type := 89, pos := "span.go:44", after := #[{ on := 12, ground := Go.Ground.data }], guard := none }) rfl (fun K hK => ?_) AllReadyH.nil
              go_simp
              have hS2 : ((W5.alloc (spnO x)).cell? ⟨gb, 0, none⟩ = some (.int .i64 x.f) ∧ (W5.alloc (spnO x)).cell? ⟨gb, 1, none⟩ = some (.int .i64 x.t)) ∧ (W5.alloc (spnO x)).heap[X]? = some (spnO x) := HK.out _ ((Touch.refl _ _).alloc _)
              refine hK.out _ _ hS2 (fun hHeld => ?_)
              clear hK K hS2
              refine wpAnyH_ready (rs := [14]) (by kernel_rfl) (by simp) ?_
              refine AllReadyH.cons (o := { dst := some 73, op := Go.Op.call { callee := Go.Callee.builtin Go.Builtin.append, args := #[Go.Operand.tmp 59, Go.Operand.tmp 72], argTypes := #[89, 89] }, type := 89, pos := "span.go:44", after := #[{ on := 0, ground := Go.Ground.data }, { on := 13, ground := Go.Ground.data }], guard := none }) rfl (fun K hK => ?_) AllReadyH.nil
              unfold Oper.wp
              simp [execOp, resolve, invoke, builtin, hrun, Result.andThen, Act.eval]
              have hS2 : (w'.cell? ⟨gb, 0, none⟩ = some (.int .i64 x.f) ∧ w'.cell? ⟨gb, 1, none⟩ = some (.int .i64 x.t)) ∧ w'.heap[X]? = some (spnO x) := HK2.out
              refine hK.out _ _ hS2 (fun hHeld => ?_)
              clear hK K hS2
              refine wpAnyH_take (i := 15) (oi := { dst := some 6, op := Go.Op.assign (Go.Operand.tmp 73), type := 89, pos := "span.go:44", after := #[{ on := 14, ground := Go.Ground.data }, { on := 14, ground := Go.Ground.chain }, { on := 0, ground := Go.Ground.phase }, { on := 1, ground := Go.Ground.phase }, { on := 2, ground := Go.Ground.phase }, { on := 3, ground := Go.Ground.phase }, { on := 4, ground := Go.Ground.phase }, { on := 5, ground := Go.Ground.phase }, { on := 6, ground := Go.Ground.phase }, { on := 7, ground := Go.Ground.phase }, { on := 8, ground := Go.Ground.phase }, { on := 9, ground := Go.Ground.phase }, { on := 10, ground := Go.Ground.phase }, { on := 11, ground := Go.Ground.phase }, { on := 12, ground := Go.Ground.phase }, { on := 13, ground := Go.Ground.phase }, { on := 14, ground := Go.Ground.phase }], guard := none }) (v := .slice ao' 1 ac') rfl (by kernel_rfl) (by kernel_rfl) (by kernel_rfl) (fun _ _ _ h => h) (Or.inl ⟨by kernel_rfl, ?_⟩) hHeld ?_
              · intro w hSw; clear hSw; go_simp
              simp only [Act.put, List.setIfInBounds_toArray]
              refine wpAnyH_done (by kernel_rfl) ?_ _
              try simp only [List.getElem_toArray, List.getElem_cons_succ, List.getElem_cons_zero, List.setIfInBounds_toArray, List.set_cons_succ, List.set_cons_zero]
              clear hHeld
              have HWy : Hid (WaysAt w' gl 2 f4) := HT45.out.2.2.keep HT5.out
              obtain ⟨y0, z0⟩ := HWy.out.cell (i := 0) (by omega)
              have hglW : gl < W5.heap.size := by obtain ⟨c, ty, h, -, -⟩ := HT45.out.2.2; exact lt_of_heap h
              have HL2 : Hid (Calls Tryz.prog 67 #[.slice (some ⟨gl, 0, none⟩) 2 2, .int .i64 0] (w'.setCell ⟨gl, 0, none⟩ (.int .i64 1)) fun e W => e = .returned (.int .i64 1) ∧ Touch (fun k => k = gl) w' W) := by
                have := firstLeft_any (cap := 2) (HWy.out.put (i := 0) (by omega) 1) (HW4.out.2.take (i := 0) (by omega) rfl) (i0 := 0) (by omega) (by omega)
                rw [show LeftW.first (fun k => false || k == 0) 2 0 = 1 from by decide] at this
                refine this.mono ?_
                rintro e W ⟨rfl, t, -⟩
                exact ⟨rfl, ((Touch.refl (fun k => k = gl) w').setCell ⟨gl, 0, none⟩ (.int .i64 1) fun _ => rfl).trans t⟩
              have HFin : Hid (∀ W, Touch (fun k => k = gl) w' W → NewX w W (.slice ao' 1 ac') [x]) := fun W T => by
                refine ⟨ownX_touch HN'.out.owns T fun k hk e => ?_, (HT45.out.1.trans HN'.out.touch).then T fun k hk e => ?_, fun k hk => Nat.le_trans HT45.out.1.size (HN'.out.fresh k hk)⟩
                · have := HN'.out.fresh k hk
                  omega
                · have := HT1.out.size
                  have := HGl.out
                  omega
              clear hrun HK HK2 HT5 HN' HT45 hglW HWy
              generalize x.o.val = v70
              go_wp2_with fail
              refine HL2.out.mono ?_
              rintro e W7 ⟨rfl, t7⟩
              have HN7 : Hid (NewX w W7 (.slice ao' 1 ac') [x]) := HFin.out W7 t7
              clear t7 HFin HL2
              go_wp2_with fail
              exact ⟨.inr ⟨rfl, HN7.out⟩, by decide⟩
            · have HN8 : Hid (NewX w wr u6 [x]) := hN
              obtain ⟨ao', ac', rfl, -, -, -⟩ := hN.shape
              clear hN
              go_wp2_with fail
              exact ⟨.inr ⟨rfl, HN8.out⟩, by decide⟩
        · have HN9 : Hid (NewX w wr u6 [x]) := hN
          obtain ⟨ao', ac', rfl, -, -, -⟩ := hN.shape
          clear hN
          go_wp2_with fail
          go_ret
          exact ⟨_, rfl, HN9.out⟩
end Go.Proofs.YtnilikomoapcaaaGreat
