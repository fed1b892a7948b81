/- The contract of vector.Has. -/
import Derived.Test.YtdblfabbmpdoiaaGreatVAt
import Derived.Deep.RegionHeld3
namespace Go.Proofs.YtdblfabbmpdoiaaGreat
open Go.RowKit Go.Maps
set_option linter.unusedVariables false
set_option linter.unusedSimpArgs false
set_option maxRecDepth 100000

def hasC (l : List Ck) (c k : Int) : Bool := (numOk c && numOk k) && decide (k ≤ atC l c)
set_option maxHeartbeats 4000000 in
theorem vhas_any (l : List Ck) (v : Value) (c k : Int) (w : World) (hs : SlC w v l) (hll : l.length ≤ 1073741824) :
    Calls Tryz.prog 24 #[v, idV c k] w fun e w' => e = .returned (.bool (hasC l c k)) ∧ Touch (fun _ => False) w w' := by
  have HR := fun W => right_any c k W
  have HA : Hid (∀ W, Touch (fun _ => False) w W → Calls Tryz.prog 22 #[v, u64 c] W fun e w' => e = .returned (u64 (atC l c)) ∧ Touch (fun _ => False) W w') := fun W t => vat_any l v c W (hs.touch t) hll
  have HB := heap_alloc_new w (idO c k)
  have S0 : ((w.alloc (idO c k)).cell? ⟨w.heap.size, 0, none⟩ = some (u64 c) ∧ (w.alloc (idO c k)).cell? ⟨w.heap.size, 1, none⟩ = some (u64 k)) ∧ Hid (Touch (fun _ => False) w (w.alloc (idO c k))) := ⟨⟨by rw [cell_of_block HB]; rfl, by rw [cell_of_block HB]; rfl⟩, (Touch.refl _ w).alloc _⟩
  have HT : Hid (∀ {W W' : World}, (W.cell? ⟨w.heap.size, 0, none⟩ = some (u64 c) ∧ W.cell? ⟨w.heap.size, 1, none⟩ = some (u64 k)) ∧ Hid (Touch (fun _ => False) w W) → Touch (fun _ => False) W W' → (W'.cell? ⟨w.heap.size, 0, none⟩ = some (u64 c) ∧ W'.cell? ⟨w.heap.size, 1, none⟩ = some (u64 k)) ∧ Hid (Touch (fun _ => False) w W')) := fun {W W'} h t => by
    have go : ∀ (b o : Nat) (v : Value), W.cell? ⟨b, o, none⟩ = some v → W'.cell? ⟨b, o, none⟩ = some v := fun b o v hv => (t.cell (World.block_lt_of_cell? _ _ hv) id o).trans hv
    exact ⟨⟨go _ _ _ h.1.1, go _ _ _ h.1.2⟩, h.2.out.trans t⟩
  have HK : Hid (∀ {W W' : World}, (W.cell? ⟨w.heap.size, 0, none⟩ = some (u64 c) ∧ W.cell? ⟨w.heap.size, 1, none⟩ = some (u64 k)) ∧ Hid (Touch (fun _ => False) w W) → W' = W.alloc (idO c k) → (W'.cell? ⟨w.heap.size, 0, none⟩ = some (u64 c) ∧ W'.cell? ⟨w.heap.size, 1, none⟩ = some (u64 k)) ∧ Hid (Touch (fun _ => False) w W')) := fun {W W'} h e => by subst e; exact HT.out h ((Touch.refl _ W).alloc _)
  have S1 := HT.out S0 (Touch.refl _ _).drew
  unfold hasC
  generalize (numOk c && numOk k) = b at *
  generalize atC l c = n at *
  obtain ⟨ao, cap, rfl, _⟩ := hs
  clear HB
  cases b with
  | true =>
    rw [Bool.true_and]
    go_enter Tryz.func24, Tryz.ntmps24
    go_wp2_with fail
    go_region_held3 (fun W => (W.cell? ⟨w.heap.size, 0, none⟩ = some (u64 c) ∧ W.cell? ⟨w.heap.size, 1, none⟩ = some (u64 k)) ∧ Hid (Touch (fun _ => False) w W)) (first | assumption)
      (first | (go_at_call 41; (with_reducible refine (HR _).mono ?_); rintro e w1 ⟨rfl, hw1⟩; have S2 := HK.out (by assumption) hw1; clear hw1) | (go_at_call 22; (with_reducible refine (HA.out _ (by first | exact S2.2.out | exact S3.2.out)).mono ?_); rintro e w2 ⟨rfl, hT⟩; have S3 := HT.out (by assumption) hT; clear hT))
    all_goals (try go_wp2_with fail)
    all_goals go_ret
    all_goals exact ⟨rfl, S3.2.out⟩
  | false =>
    rw [Bool.false_and]
    go_enter Tryz.func24, Tryz.ntmps24
    go_wp2_with fail
    refine wp_region_noPanic ?_
    refine wp_region_held_drew (S := fun W : World => (W.cell? ⟨w.heap.size, 0, none⟩ = some (u64 c) ∧ W.cell? ⟨w.heap.size, 1, none⟩ = some (u64 k)) ∧ Hid (Touch (fun _ => False) w W)) (by kernel_rfl) S1 (fun hHeld => ?_)
    refine wpAnyH_take (i := 0) (oi := { dst := some 5, op := Op.load 58 (Operand.tmp 3), type := 58, pos := "vector.go:42", after := #[], guard := none }) (v := (.agg #[.int .u64 c, .int .u64 k])) rfl (by kernel_rfl) (by kernel_rfl) (by kernel_rfl) (fun _ _ _ h => h) (Or.inl ⟨by rfl, ?_⟩) hHeld ?_
    · intro w' hSw; (try dsimp only at hSw); go_simp
    simp only [Act.put, List.setIfInBounds_toArray, List.set_cons_zero, List.set_cons_succ]
    refine wpAnyH_ready (rs := [1]) (by kernel_rfl) (by simp) ?_
    refine AllReadyH.cons (o := { dst := some 6, op := Op.call { callee := Callee.value (Operand.func 41), args := #[Operand.tmp 5], argTypes := #[58] }, type := 4, pos := "vector.go:42", after := #[{ on := 0, ground := Ground.data }], guard := none }) rfl (fun K hK => ?_) AllReadyH.nil
    go_simp
    refine (HR _).mono ?_
    rintro e w' ⟨rfl, hw'⟩
    refine hK.out _ _ (HK.out hHeld hw') (fun hHeld => ?_)
    clear hK K hw'
    try dsimp only
    refine wpAnyH_take (i := 2) (oi := { dst := some 7, op := Op.move (Operand.tmp 6), type := 4, pos := "vector.go:42", after := #[{ on := 1, ground := Ground.data }, { on := 1, ground := Ground.chain }], guard := none }) (v := (.bool false)) rfl (by kernel_rfl) (by kernel_rfl) (by kernel_rfl) (fun _ _ _ h => h) (Or.inl ⟨by rfl, ?_⟩) hHeld ?_
    · intro w' hSw; (try dsimp only at hSw); go_simp
    simp only [Act.put, List.setIfInBounds_toArray, List.set_cons_zero, List.set_cons_succ]
    refine wpAnyH_take (i := 3) (oi := { dst := some 8, op := Op.fieldAddr 58 (Operand.tmp 3) 1, type := 0, pos := "vector.go:42", after := #[{ on := 2, ground := Ground.guard }], guard := some (2, true) }) (v := undef) rfl (by kernel_rfl) (by kernel_rfl) (by kernel_rfl) (fun _ _ _ h => h) (Or.inr ⟨by rfl, rfl⟩) hHeld ?_
    simp only [Act.put, List.setIfInBounds_toArray, List.set_cons_zero, List.set_cons_succ]
    refine wpAnyH_take (i := 4) (oi := { dst := some 9, op := Op.load 48 (Operand.tmp 8), type := 48, pos := "vector.go:42", after := #[{ on := 3, ground := Ground.data }, { on := 2, ground := Ground.guard }], guard := some (2, true) }) (v := undef) rfl (by kernel_rfl) (by kernel_rfl) (by kernel_rfl) (fun _ _ _ h => h) (Or.inr ⟨by rfl, rfl⟩) hHeld ?_
    simp only [Act.put, List.setIfInBounds_toArray, List.set_cons_zero, List.set_cons_succ]
    refine wpAnyH_take (i := 5) (oi := { dst := some 10, op := Op.move (Operand.tmp 0), type := 22, pos := "vector.go:42", after := #[{ on := 2, ground := Ground.guard }], guard := some (2, true) }) (v := undef) rfl (by kernel_rfl) (by kernel_rfl) (by kernel_rfl) (fun _ _ _ h => h) (Or.inr ⟨by rfl, rfl⟩) hHeld ?_
    simp only [Act.put, List.setIfInBounds_toArray, List.set_cons_zero, List.set_cons_succ]
    refine wpAnyH_take (i := 6) (oi := { dst := some 11, op := Op.fieldAddr 58 (Operand.tmp 3) 0, type := 0, pos := "vector.go:42", after := #[{ on := 2, ground := Ground.guard }], guard := some (2, true) }) (v := undef) rfl (by kernel_rfl) (by kernel_rfl) (by kernel_rfl) (fun _ _ _ h => h) (Or.inr ⟨by rfl, rfl⟩) hHeld ?_
    simp only [Act.put, List.setIfInBounds_toArray, List.set_cons_zero, List.set_cons_succ]
    refine wpAnyH_take (i := 7) (oi := { dst := some 12, op := Op.load 48 (Operand.tmp 11), type := 48, pos := "vector.go:42", after := #[{ on := 6, ground := Ground.data }, { on := 2, ground := Ground.guard }], guard := some (2, true) }) (v := undef) rfl (by kernel_rfl) (by kernel_rfl) (by kernel_rfl) (fun _ _ _ h => h) (Or.inr ⟨by rfl, rfl⟩) hHeld ?_
    simp only [Act.put, List.setIfInBounds_toArray, List.set_cons_zero, List.set_cons_succ]
    refine wpAnyH_take (i := 8) (oi := { dst := some 13, op := Op.call { callee := Callee.value (Operand.func 22), args := #[Operand.tmp 10, Operand.tmp 12], argTypes := #[22, 48] }, type := 48, pos := "vector.go:42", after := #[{ on := 5, ground := Ground.data }, { on := 7, ground := Ground.data }, { on := 2, ground := Ground.chain }, { on := 2, ground := Ground.guard }], guard := some (2, true) }) (v := undef) rfl (by kernel_rfl) (by kernel_rfl) (by kernel_rfl) (fun _ _ _ h => h) (Or.inr ⟨by rfl, rfl⟩) hHeld ?_
    simp only [Act.put, List.setIfInBounds_toArray, List.set_cons_zero, List.set_cons_succ]
    refine wpAnyH_take (i := 9) (oi := { dst := some 14, op := Op.binOp BinOp.leq 48 (Operand.tmp 9) (Operand.tmp 13) 48, type := 4, pos := "vector.go:42", after := #[{ on := 4, ground := Ground.data }, { on := 8, ground := Ground.data }, { on := 2, ground := Ground.guard }], guard := some (2, true) }) (v := undef) rfl (by kernel_rfl) (by kernel_rfl) (by kernel_rfl) (fun _ _ _ h => h) (Or.inr ⟨by rfl, rfl⟩) hHeld ?_
    simp only [Act.put, List.setIfInBounds_toArray, List.set_cons_zero, List.set_cons_succ]
    refine wpAnyH_take (i := 10) (oi := { dst := some 15, op := Op.pick (Operand.tmp 7) (Operand.tmp 14) (Operand.const (Value.bool false)), type := 4, pos := "vector.go:42", after := #[{ on := 2, ground := Ground.data }, { on := 9, ground := Ground.data }], guard := none }) (v := (.bool false)) rfl (by kernel_rfl) (by kernel_rfl) (by kernel_rfl) (fun _ _ _ h => h) (Or.inl ⟨by rfl, ?_⟩) hHeld ?_
    · intro w' hSw; (try dsimp only at hSw); go_simp
    simp only [Act.put, List.setIfInBounds_toArray, List.set_cons_zero, List.set_cons_succ]
    refine wpAnyH_take (i := 11) (oi := { dst := some 4, op := Op.assign (Operand.tmp 15), type := 4, pos := "vector.go:42", after := #[{ on := 10, ground := Ground.data }, { on := 8, ground := Ground.chain }, { on := 0, ground := Ground.phase }, { on := 1, ground := Ground.phase }, { on := 2, ground := Ground.phase }, { on := 3, ground := Ground.phase }, { on := 4, ground := Ground.phase }, { on := 5, ground := Ground.phase }, { on := 6, ground := Ground.phase }, { on := 7, ground := Ground.phase }, { on := 8, ground := Ground.phase }, { on := 9, ground := Ground.phase }, { on := 10, ground := Ground.phase }], guard := none }) (v := (.bool false)) rfl (by kernel_rfl) (by kernel_rfl) (by kernel_rfl) (fun _ _ _ h => h) (Or.inl ⟨by rfl, ?_⟩) hHeld ?_
    · intro w' hSw; (try dsimp only at hSw); go_simp
    simp only [Act.put, List.setIfInBounds_toArray, List.set_cons_zero, List.set_cons_succ]
    refine wpAnyH_done (by kernel_rfl) ?_ _
    have HT5 := hHeld.2
    clear hHeld
    first | refine NoPanic.normal ?_ | skip
    go_wp2_with fail
    refine bodyPost_ret (v := .bool false) (by simp [results, Tryz.results24, go_sem]) rfl ?_
    exact ⟨rfl, HT5.out⟩
end Go.Proofs.YtdblfabbmpdoiaaGreat
