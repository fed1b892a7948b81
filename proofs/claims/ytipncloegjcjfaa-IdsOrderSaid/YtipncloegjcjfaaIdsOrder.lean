/- quirelaw6.IdsOrder. -/
import Derived.Test.YtipncloegjcjfaaKnown6
namespace Go.Proofs.Ytipncloegjcjfaa
open Go.RowKit Go.Maps
set_option linter.unusedVariables false
set_option linter.unusedSimpArgs false
set_option maxRecDepth 100000

set_option maxHeartbeats 800000 in
theorem rless_any (a b c d : Int) (w : World) : Calls Try.prog 29 #[idV a b, idV c d] w fun e w' => e = .returned (.bool (lessI a b c d)) ∧ w' = (w.alloc (idO a b)).alloc (idO c d) := by
  unfold lessI
  by_cases h1 : a = c
  · subst h1
    rw [if_pos rfl]
    go_enter Try.func29, Try.ntmps29
    go_wp2_with fail
    go_ret
    exact ⟨by simp, rfl⟩
  · rw [if_neg h1]
    by_cases h2 : a < c
    · go_enter Try.func29, Try.ntmps29
      go_wp2_with fail
      go_ret
      exact ⟨by simp [h2], rfl⟩
    · go_enter Try.func29, Try.ntmps29
      go_wp2_with fail
      go_ret
      exact ⟨by simp; omega, rfl⟩

def SIds (n : Nat) (a1 a2 b1 b2 c1 c2 : Int) (W : World) : Prop := W.cell? ⟨n, 0, none⟩ = some (u64 a1) ∧ W.cell? ⟨n, 1, none⟩ = some (u64 a2) ∧ W.cell? ⟨n + 1, 0, none⟩ = some (u64 b1) ∧ W.cell? ⟨n + 1, 1, none⟩ = some (u64 b2) ∧ W.cell? ⟨n + 2, 0, none⟩ = some (u64 c1) ∧ W.cell? ⟨n + 2, 1, none⟩ = some (u64 c2)
theorem lessI_irr (a b : Int) : lessI a b a b = false := by unfold lessI; simp
theorem lessI_one {a b c d : Int} (h : ¬ (a = c ∧ b = d)) : lessI a b c d = !lessI c d a b := by
  have h1 := lessI_iff (a := a) (b := b) (c := c) (d := d)
  have h2 := lessI_iff (a := c) (b := d) (c := a) (d := b)
  cases e1 : lessI a b c d <;> cases e2 : lessI c d a b <;> simp [e1, e2] at * <;> omega
set_option maxHeartbeats 4000000 in
theorem idsOrder_any (w : World) (a1 a2 b1 b2 c1 c2 : Int) : Calls Try.prog 7 #[idV a1 a2, idV b1 b2, idV c1 c2] w fun e w' => e = .returned (.bool true) ∧ Touch (fun _ => False) w w' := by
  obtain ⟨W0, hW0⟩ : ∃ W0, ((w.alloc (idO a1 a2)).alloc (idO b1 b2)).alloc (idO c1 c2) = W0 := ⟨_, rfl⟩
  have HK0 : Hid (Touch (fun _ => False) w W0 ∧ ∀ W, Touch (fun _ => False) W0 W → SIds w.heap.size a1 a2 b1 b2 c1 c2 W) := by
    subst hW0
    refine ⟨(((Touch.refl _ w).alloc _).alloc _).alloc _, fun W t => ?_⟩
    have e0 : (((w.alloc (idO a1 a2)).alloc (idO b1 b2)).alloc (idO c1 c2)).heap[w.heap.size]? = some (idO a1 a2) := (Below.heap_alloc _ _ _ (by simp; omega)).trans ((Below.heap_alloc _ _ _ (by simp)).trans (heap_alloc_new w _))
    have e1 : (((w.alloc (idO a1 a2)).alloc (idO b1 b2)).alloc (idO c1 c2)).heap[w.heap.size + 1]? = some (idO b1 b2) := by
      have := heap_alloc_new (w.alloc (idO a1 a2)) (idO b1 b2)
      rw [World.size_alloc] at this
      exact (Below.heap_alloc _ _ _ (by simp)).trans this
    have e2 : (((w.alloc (idO a1 a2)).alloc (idO b1 b2)).alloc (idO c1 c2)).heap[w.heap.size + 2]? = some (idO c1 c2) := by
      have := heap_alloc_new ((w.alloc (idO a1 a2)).alloc (idO b1 b2)) (idO c1 c2)
      rw [World.size_alloc, World.size_alloc] at this
      exact this
    have d0 := (t.block _ (lt_of_heap e0) id).trans e0
    have d1 := (t.block _ (lt_of_heap e1) id).trans e1
    have d2 := (t.block _ (lt_of_heap e2) id).trans e2
    exact ⟨by rw [cell_of_block d0]; rfl, by rw [cell_of_block d0]; rfl, by rw [cell_of_block d1]; rfl, by rw [cell_of_block d1]; rfl, by rw [cell_of_block d2]; rfl, by rw [cell_of_block d2]; rfl⟩
  have KN := known_any W0
  go_enter Try.func7, Try.ntmps7
  go_wp2_with fail
  try rw [hW0]
  refine KN.mono ?_
  rintro e w1 ⟨rfl, t1⟩
  have HT : Hid (Touch (fun _ => False) w w1) := HK0.out.1.trans t1
  have HK : Hid (∀ W, Touch (fun _ => False) w1 W → SIds w.heap.size a1 a2 b1 b2 c1 c2 W) := fun W t => HK0.out.2 W (t1.trans t)
  clear t1 KN hW0 HK0
  have HL : Hid (∀ x y u v W, Touch (fun _ => False) w1 W → Calls Try.prog 28 #[idV x y, idV u v] W fun e w' => e = .returned (.bool (lessI x y u v)) ∧ Touch (fun _ => False) w1 w') := fun x y u v W t => (less_any x y u v W).mono fun e w' q => ⟨q.1, by rw [q.2]; exact (t.alloc _).alloc _⟩
  have HR : Hid (∀ W, Touch (fun _ => False) w1 W → Calls Try.prog 29 #[idV a1 a2, idV b1 b2] W fun e w' => e = .returned (.bool (lessI a1 a2 b1 b2)) ∧ Touch (fun _ => False) w1 w') := fun W t => (rless_any _ _ _ _ W).mono fun e w' q => ⟨q.1, by rw [q.2]; exact (t.alloc _).alloc _⟩
  have T0 : Hid (Touch (fun _ => False) w1 w1) := Touch.refl _ _
  have S0 := HK.out w1 (Touch.refl _ _)
  have S1 := HK.out w1.drew (Touch.refl _ _).drew
  unfold SIds at S0 S1
  have LAA : Hid (∀ W, Touch (fun _ => False) w1 W → Calls Try.prog 28 #[idV a1 a2, idV a1 a2] W fun e w' => e = .returned (.bool false) ∧ Touch (fun _ => False) w1 w') := by
    have := HL.out a1 a2 a1 a2; rw [lessI_irr] at this; exact this
  have LAB : Hid (∀ W, Touch (fun _ => False) w1 W → Calls Try.prog 28 #[idV a1 a2, idV b1 b2] W fun e w' => e = .returned (.bool (lessI a1 a2 b1 b2)) ∧ Touch (fun _ => False) w1 w') := HL.out a1 a2 b1 b2
  go_upto_region 3 with fail
  go_cut [34] (fun t wx => t = .bool false ∧ Hid (Touch (fun _ => False) w1 wx))
  case first =>
    by_cases hab : a1 = b1 ∧ a2 = b2
    · obtain ⟨rfl, rfl⟩ := hab
      clear LAB
      rw [lessI_irr] at HR
      go_wp2_with fail
      refine wp_region_noPanic ?_
      refine wp_region_held_drew (S := fun w' : World => SIds w.heap.size a1 a2 a1 a2 c1 c2 w' ∧ Hid (Touch (fun _ => False) w1 w')) (by kernel_rfl) ⟨HK.out _ (Touch.refl _ _).drew, (Touch.refl _ _).drew⟩ (fun hHeld => ?_)
      refine wpAnyH_take (i := 0) (oi := { dst := some 9, op := Op.load 25 (Operand.tmp 3), type := 25, pos := "law.go:101", after := #[], guard := none }) (v := (.agg #[u64 a1, u64 a2])) rfl (by kernel_rfl) (by kernel_rfl) (by kernel_rfl) (fun _ _ _ h => h) (Or.inl ⟨by rfl, ?_⟩) hHeld ?_
      · intro w' hSw; (try unfold SIds at hSw); (try dsimp only at hSw); go_simp
      simp only [Act.put, List.setIfInBounds_toArray, List.set_cons_zero, List.set_cons_succ]
      refine wpAnyH_take (i := 1) (oi := { dst := some 10, op := Op.load 25 (Operand.tmp 4), type := 25, pos := "law.go:101", after := #[], guard := none }) (v := (.agg #[u64 a1, u64 a2])) rfl (by kernel_rfl) (by kernel_rfl) (by kernel_rfl) (fun _ _ _ h => h) (Or.inl ⟨by rfl, ?_⟩) hHeld ?_
      · intro w' hSw; (try unfold SIds at hSw); (try dsimp only at hSw); go_simp
      simp only [Act.put, List.setIfInBounds_toArray, List.set_cons_zero, List.set_cons_succ]
      refine wpAnyH_take (i := 3) (oi := { dst := some 12, op := Op.load 25 (Operand.tmp 3), type := 25, pos := "law.go:101", after := #[], guard := none }) (v := (.agg #[u64 a1, u64 a2])) rfl (by kernel_rfl) (by kernel_rfl) (by kernel_rfl) (fun _ _ _ h => h) (Or.inl ⟨by rfl, ?_⟩) hHeld ?_
      · intro w' hSw; (try unfold SIds at hSw); (try dsimp only at hSw); go_simp
      simp only [Act.put, List.setIfInBounds_toArray, List.set_cons_zero, List.set_cons_succ]
      refine wpAnyH_take (i := 4) (oi := { dst := some 13, op := Op.load 25 (Operand.tmp 4), type := 25, pos := "law.go:101", after := #[], guard := none }) (v := (.agg #[u64 a1, u64 a2])) rfl (by kernel_rfl) (by kernel_rfl) (by kernel_rfl) (fun _ _ _ h => h) (Or.inl ⟨by rfl, ?_⟩) hHeld ?_
      · intro w' hSw; (try unfold SIds at hSw); (try dsimp only at hSw); go_simp
      simp only [Act.put, List.setIfInBounds_toArray, List.set_cons_zero, List.set_cons_succ]
      refine wpAnyH_ready (rs := [2]) (by kernel_rfl) (by simp) ?_
      refine AllReadyH.cons (o := { dst := some 11, op := Op.call { callee := Callee.value (Operand.func 28), args := #[Operand.tmp 9, Operand.tmp 10], argTypes := #[25, 25] }, type := 4, pos := "law.go:101", after := #[{ on := 0, ground := Ground.data }, { on := 1, ground := Ground.data }], guard := none }) rfl (fun K hK => ?_) AllReadyH.nil
      go_simp
      refine (LAA.out _ hHeld.2.out).mono ?_
      rintro e w' ⟨rfl, hT⟩
      refine hK.out _ _ ⟨HK.out _ hT, hT⟩ (fun hHeld => ?_)
      clear hK K hT
      try dsimp only
      refine wpAnyH_ready (rs := [5]) (by kernel_rfl) (by simp) ?_
      refine AllReadyH.cons (o := { dst := some 14, op := Op.call { callee := Callee.value (Operand.func 29), args := #[Operand.tmp 12, Operand.tmp 13], argTypes := #[25, 25] }, type := 4, pos := "law.go:101", after := #[{ on := 3, ground := Ground.data }, { on := 4, ground := Ground.data }, { on := 2, ground := Ground.chain }], guard := none }) rfl (fun K hK => ?_) AllReadyH.nil
      go_simp
      refine (HR.out _ hHeld.2.out).mono ?_
      rintro e w' ⟨rfl, hT⟩
      refine hK.out _ _ ⟨HK.out _ hT, hT⟩ (fun hHeld => ?_)
      clear hK K hT
      try dsimp only
      refine wpAnyH_take (i := 6) (oi := { dst := some 15, op := Op.binOp BinOp.neq 4 (Operand.tmp 11) (Operand.tmp 14) 4, type := 4, pos := "law.go:101", after := #[{ on := 2, ground := Ground.data }, { on := 5, ground := Ground.data }], guard := none }) (v := (.bool false)) rfl (by kernel_rfl) (by kernel_rfl) (by kernel_rfl) (fun _ _ _ h => h) (Or.inl ⟨by rfl, ?_⟩) hHeld ?_
      · intro w' hSw; (try unfold SIds at hSw); (try dsimp only at hSw); go_simp
      simp only [Act.put, List.setIfInBounds_toArray, List.set_cons_zero, List.set_cons_succ]
      refine wpAnyH_take (i := 7) (oi := { dst := some 16, op := Op.move (Operand.tmp 15), type := 4, pos := "law.go:101", after := #[{ on := 6, ground := Ground.data }, { on := 5, ground := Ground.chain }], guard := none }) (v := (.bool false)) rfl (by kernel_rfl) (by kernel_rfl) (by kernel_rfl) (fun _ _ _ h => h) (Or.inl ⟨by rfl, ?_⟩) hHeld ?_
      · intro w' hSw; (try unfold SIds at hSw); (try dsimp only at hSw); go_simp
      simp only [Act.put, List.setIfInBounds_toArray, List.set_cons_zero, List.set_cons_succ]
      refine wpAnyH_take (i := 8) (oi := { dst := some 17, op := Op.load 25 (Operand.tmp 3), type := 25, pos := "law.go:101", after := #[{ on := 7, ground := Ground.guard }], guard := some (7, false) }) (v := (.agg #[u64 a1, u64 a2])) rfl (by kernel_rfl) (by kernel_rfl) (by kernel_rfl) (fun _ _ _ h => h) (Or.inl ⟨by rfl, ?_⟩) hHeld ?_
      · intro w' hSw; (try unfold SIds at hSw); (try dsimp only at hSw); go_simp
      simp only [Act.put, List.setIfInBounds_toArray, List.set_cons_zero, List.set_cons_succ]
      refine wpAnyH_take (i := 9) (oi := { dst := some 18, op := Op.load 25 (Operand.tmp 3), type := 25, pos := "law.go:101", after := #[{ on := 7, ground := Ground.guard }], guard := some (7, false) }) (v := (.agg #[u64 a1, u64 a2])) rfl (by kernel_rfl) (by kernel_rfl) (by kernel_rfl) (fun _ _ _ h => h) (Or.inl ⟨by rfl, ?_⟩) hHeld ?_
      · intro w' hSw; (try unfold SIds at hSw); (try dsimp only at hSw); go_simp
      simp only [Act.put, List.setIfInBounds_toArray, List.set_cons_zero, List.set_cons_succ]
      refine wpAnyH_ready (rs := [10]) (by kernel_rfl) (by simp) ?_
      refine AllReadyH.cons (o := { dst := some 19, op := Op.call { callee := Callee.value (Operand.func 28), args := #[Operand.tmp 17, Operand.tmp 18], argTypes := #[25, 25] }, type := 4, pos := "law.go:101", after := #[{ on := 8, ground := Ground.data }, { on := 9, ground := Ground.data }, { on := 7, ground := Ground.chain }, { on := 7, ground := Ground.guard }], guard := some (7, false) }) rfl (fun K hK => ?_) AllReadyH.nil
      go_simp
      refine (LAA.out _ hHeld.2.out).mono ?_
      rintro e w' ⟨rfl, hT⟩
      refine hK.out _ _ ⟨HK.out _ hT, hT⟩ (fun hHeld => ?_)
      clear hK K hT
      try dsimp only
      refine wpAnyH_take (i := 11) (oi := { dst := some 20, op := Op.pick (Operand.tmp 16) (Operand.const (Value.bool true)) (Operand.tmp 19), type := 4, pos := "law.go:101", after := #[{ on := 7, ground := Ground.data }, { on := 10, ground := Ground.data }], guard := none }) (v := (.bool false)) rfl (by kernel_rfl) (by kernel_rfl) (by kernel_rfl) (fun _ _ _ h => h) (Or.inl ⟨by rfl, ?_⟩) hHeld ?_
      · intro w' hSw; (try unfold SIds at hSw); (try dsimp only at hSw); go_simp
      simp only [Act.put, List.setIfInBounds_toArray, List.set_cons_zero, List.set_cons_succ]
      refine wpAnyH_take (i := 12) (oi := { dst := some 21, op := Op.move (Operand.tmp 20), type := 4, pos := "law.go:101", after := #[{ on := 11, ground := Ground.data }, { on := 10, ground := Ground.chain }], guard := none }) (v := (.bool false)) rfl (by kernel_rfl) (by kernel_rfl) (by kernel_rfl) (fun _ _ _ h => h) (Or.inl ⟨by rfl, ?_⟩) hHeld ?_
      · intro w' hSw; (try unfold SIds at hSw); (try dsimp only at hSw); go_simp
      simp only [Act.put, List.setIfInBounds_toArray, List.set_cons_zero, List.set_cons_succ]
      refine wpAnyH_take (i := 13) (oi := { dst := some 22, op := Op.load 25 (Operand.tmp 3), type := 25, pos := "law.go:101", after := #[{ on := 12, ground := Ground.guard }], guard := some (12, false) }) (v := (.agg #[u64 a1, u64 a2])) rfl (by kernel_rfl) (by kernel_rfl) (by kernel_rfl) (fun _ _ _ h => h) (Or.inl ⟨by rfl, ?_⟩) hHeld ?_
      · intro w' hSw; (try unfold SIds at hSw); (try dsimp only at hSw); go_simp
      simp only [Act.put, List.setIfInBounds_toArray, List.set_cons_zero, List.set_cons_succ]
      refine wpAnyH_take (i := 14) (oi := { dst := some 23, op := Op.load 25 (Operand.tmp 4), type := 25, pos := "law.go:101", after := #[{ on := 12, ground := Ground.guard }], guard := some (12, false) }) (v := (.agg #[u64 a1, u64 a2])) rfl (by kernel_rfl) (by kernel_rfl) (by kernel_rfl) (fun _ _ _ h => h) (Or.inl ⟨by rfl, ?_⟩) hHeld ?_
      · intro w' hSw; (try unfold SIds at hSw); (try dsimp only at hSw); go_simp
      simp only [Act.put, List.setIfInBounds_toArray, List.set_cons_zero, List.set_cons_succ]
      refine wpAnyH_take (i := 15) (oi := { dst := some 24, op := Op.binOp BinOp.neq 25 (Operand.tmp 22) (Operand.tmp 23) 25, type := 4, pos := "law.go:101", after := #[{ on := 13, ground := Ground.data }, { on := 14, ground := Ground.data }, { on := 12, ground := Ground.guard }], guard := some (12, false) }) (v := (.bool false)) rfl (by kernel_rfl) (by kernel_rfl) (by kernel_rfl) (fun _ _ _ h => h) (Or.inl ⟨by rfl, ?_⟩) hHeld ?_
      · intro w' hSw; (try unfold SIds at hSw); (try dsimp only at hSw); go_simp
      simp only [Act.put, List.setIfInBounds_toArray, List.set_cons_zero, List.set_cons_succ]
      refine wpAnyH_take (i := 16) (oi := { dst := some 25, op := Op.move (Operand.tmp 24), type := 4, pos := "law.go:101", after := #[{ on := 15, ground := Ground.data }, { on := 12, ground := Ground.chain }, { on := 12, ground := Ground.guard }], guard := some (12, false) }) (v := (.bool false)) rfl (by kernel_rfl) (by kernel_rfl) (by kernel_rfl) (fun _ _ _ h => h) (Or.inl ⟨by rfl, ?_⟩) hHeld ?_
      · intro w' hSw; (try unfold SIds at hSw); (try dsimp only at hSw); go_simp
      simp only [Act.put, List.setIfInBounds_toArray, List.set_cons_zero, List.set_cons_succ]
      refine wpAnyH_take (i := 17) (oi := { dst := some 26, op := Op.load 25 (Operand.tmp 3), type := 25, pos := "law.go:101", after := #[{ on := 16, ground := Ground.guard }], guard := some (16, true) }) (v := undef) rfl (by kernel_rfl) (by kernel_rfl) (by kernel_rfl) (fun _ _ _ h => h) (Or.inr ⟨by rfl, rfl⟩) hHeld ?_
      simp only [Act.put, List.setIfInBounds_toArray, List.set_cons_zero, List.set_cons_succ]
      refine wpAnyH_take (i := 18) (oi := { dst := some 27, op := Op.load 25 (Operand.tmp 4), type := 25, pos := "law.go:101", after := #[{ on := 16, ground := Ground.guard }], guard := some (16, true) }) (v := undef) rfl (by kernel_rfl) (by kernel_rfl) (by kernel_rfl) (fun _ _ _ h => h) (Or.inr ⟨by rfl, rfl⟩) hHeld ?_
      simp only [Act.put, List.setIfInBounds_toArray, List.set_cons_zero, List.set_cons_succ]
      refine wpAnyH_take (i := 19) (oi := { dst := some 28, op := Op.call { callee := Callee.value (Operand.func 28), args := #[Operand.tmp 26, Operand.tmp 27], argTypes := #[25, 25] }, type := 4, pos := "law.go:101", after := #[{ on := 17, ground := Ground.data }, { on := 18, ground := Ground.data }, { on := 16, ground := Ground.chain }, { on := 16, ground := Ground.guard }], guard := some (16, true) }) (v := undef) rfl (by kernel_rfl) (by kernel_rfl) (by kernel_rfl) (fun _ _ _ h => h) (Or.inr ⟨by rfl, rfl⟩) hHeld ?_
      simp only [Act.put, List.setIfInBounds_toArray, List.set_cons_zero, List.set_cons_succ]
      refine wpAnyH_take (i := 20) (oi := { dst := some 29, op := Op.load 25 (Operand.tmp 4), type := 25, pos := "law.go:101", after := #[{ on := 16, ground := Ground.guard }], guard := some (16, true) }) (v := undef) rfl (by kernel_rfl) (by kernel_rfl) (by kernel_rfl) (fun _ _ _ h => h) (Or.inr ⟨by rfl, rfl⟩) hHeld ?_
      simp only [Act.put, List.setIfInBounds_toArray, List.set_cons_zero, List.set_cons_succ]
      refine wpAnyH_take (i := 21) (oi := { dst := some 30, op := Op.load 25 (Operand.tmp 3), type := 25, pos := "law.go:101", after := #[{ on := 16, ground := Ground.guard }], guard := some (16, true) }) (v := undef) rfl (by kernel_rfl) (by kernel_rfl) (by kernel_rfl) (fun _ _ _ h => h) (Or.inr ⟨by rfl, rfl⟩) hHeld ?_
      simp only [Act.put, List.setIfInBounds_toArray, List.set_cons_zero, List.set_cons_succ]
      refine wpAnyH_take (i := 22) (oi := { dst := some 31, op := Op.call { callee := Callee.value (Operand.func 28), args := #[Operand.tmp 29, Operand.tmp 30], argTypes := #[25, 25] }, type := 4, pos := "law.go:101", after := #[{ on := 20, ground := Ground.data }, { on := 21, ground := Ground.data }, { on := 19, ground := Ground.chain }, { on := 16, ground := Ground.guard }], guard := some (16, true) }) (v := undef) rfl (by kernel_rfl) (by kernel_rfl) (by kernel_rfl) (fun _ _ _ h => h) (Or.inr ⟨by rfl, rfl⟩) hHeld ?_
      simp only [Act.put, List.setIfInBounds_toArray, List.set_cons_zero, List.set_cons_succ]
      refine wpAnyH_take (i := 23) (oi := { dst := some 32, op := Op.binOp BinOp.eql 4 (Operand.tmp 28) (Operand.tmp 31) 4, type := 4, pos := "law.go:101", after := #[{ on := 19, ground := Ground.data }, { on := 22, ground := Ground.data }, { on := 16, ground := Ground.guard }], guard := some (16, true) }) (v := undef) rfl (by kernel_rfl) (by kernel_rfl) (by kernel_rfl) (fun _ _ _ h => h) (Or.inr ⟨by rfl, rfl⟩) hHeld ?_
      simp only [Act.put, List.setIfInBounds_toArray, List.set_cons_zero, List.set_cons_succ]
      refine wpAnyH_take (i := 24) (oi := { dst := some 33, op := Op.pick (Operand.tmp 25) (Operand.tmp 32) (Operand.const (Value.bool false)), type := 4, pos := "law.go:101", after := #[{ on := 16, ground := Ground.data }, { on := 23, ground := Ground.data }, { on := 12, ground := Ground.guard }], guard := some (12, false) }) (v := (.bool false)) rfl (by kernel_rfl) (by kernel_rfl) (by kernel_rfl) (fun _ _ _ h => h) (Or.inl ⟨by rfl, ?_⟩) hHeld ?_
      · intro w' hSw; (try unfold SIds at hSw); (try dsimp only at hSw); go_simp
      simp only [Act.put, List.setIfInBounds_toArray, List.set_cons_zero, List.set_cons_succ]
      refine wpAnyH_take (i := 25) (oi := { dst := some 34, op := Op.pick (Operand.tmp 21) (Operand.const (Value.bool true)) (Operand.tmp 33), type := 4, pos := "law.go:101", after := #[{ on := 12, ground := Ground.data }, { on := 24, ground := Ground.data }], guard := none }) (v := (.bool false)) rfl (by kernel_rfl) (by kernel_rfl) (by kernel_rfl) (fun _ _ _ h => h) (Or.inl ⟨by rfl, ?_⟩) hHeld ?_
      · intro w' hSw; (try unfold SIds at hSw); (try dsimp only at hSw); go_simp
      simp only [Act.put, List.setIfInBounds_toArray, List.set_cons_zero, List.set_cons_succ]
      refine wpAnyH_done (by kernel_rfl) ?_ _
      have HT5 := hHeld.2
      clear hHeld
      first | refine NoPanic.normal ?_ | skip
      go_wp2_with fail
      go_meet
      case rel => exact ⟨rfl, HT5.out⟩
    · have LBA : Hid (∀ W, Touch (fun _ => False) w1 W → Calls Try.prog 28 #[idV b1 b2, idV a1 a2] W fun e w' => e = .returned (.bool (!lessI a1 a2 b1 b2)) ∧ Touch (fun _ => False) w1 w') := by
        have := HL.out b1 b2 a1 a2; rw [lessI_one (fun e => hab ⟨e.1.symm, e.2.symm⟩)] at this; exact this
      generalize lessI a1 a2 b1 b2 = lb at *
      by_cases h1 : a1 = b1
      · subst h1
        have h2 : ¬ a2 = b2 := fun e => hab ⟨rfl, e⟩
        clear hab
        go_wp2_with fail
        go_region_held3 (fun W => W.cell? ⟨w.heap.size, 0, none⟩ = some (u64 a1) ∧ W.cell? ⟨w.heap.size, 1, none⟩ = some (u64 a2) ∧ W.cell? ⟨w.heap.size + 1, 0, none⟩ = some (u64 a1) ∧ W.cell? ⟨w.heap.size + 1, 1, none⟩ = some (u64 b2) ∧ W.cell? ⟨w.heap.size + 2, 0, none⟩ = some (u64 c1) ∧ W.cell? ⟨w.heap.size + 2, 1, none⟩ = some (u64 c2)) (first | assumption)
          (first | (go_at_call 29; first | ((with_reducible refine (HR.out _ T0.out).mono ?_); rintro e w3 ⟨rfl, t3⟩; have S3 := HK.out w3 t3; (unfold SIds at S3); clear T0; have T0 : Hid (Touch (fun _ => False) w1 w3) := t3; clear t3) | ((with_reducible refine (HR.out _ T0.out.drew).mono ?_); rintro e w3 ⟨rfl, t3⟩; have S3 := HK.out w3 t3; (unfold SIds at S3); clear T0; have T0 : Hid (Touch (fun _ => False) w1 w3) := t3; clear t3)) | (go_at_call 28; first | ((with_reducible refine (LAA.out _ T0.out).mono ?_); rintro e w3 ⟨rfl, t3⟩; have S3 := HK.out w3 t3; (unfold SIds at S3); clear T0; have T0 : Hid (Touch (fun _ => False) w1 w3) := t3; clear t3) | ((with_reducible refine (LAA.out _ T0.out.drew).mono ?_); rintro e w3 ⟨rfl, t3⟩; have S3 := HK.out w3 t3; (unfold SIds at S3); clear T0; have T0 : Hid (Touch (fun _ => False) w1 w3) := t3; clear t3) | ((with_reducible refine (LAB.out _ T0.out).mono ?_); rintro e w3 ⟨rfl, t3⟩; have S3 := HK.out w3 t3; (unfold SIds at S3); clear T0; have T0 : Hid (Touch (fun _ => False) w1 w3) := t3; clear t3) | ((with_reducible refine (LAB.out _ T0.out.drew).mono ?_); rintro e w3 ⟨rfl, t3⟩; have S3 := HK.out w3 t3; (unfold SIds at S3); clear T0; have T0 : Hid (Touch (fun _ => False) w1 w3) := t3; clear t3) | ((with_reducible refine (LBA.out _ T0.out).mono ?_); rintro e w3 ⟨rfl, t3⟩; have S3 := HK.out w3 t3; (unfold SIds at S3); clear T0; have T0 : Hid (Touch (fun _ => False) w1 w3) := t3; clear t3) | ((with_reducible refine (LBA.out _ T0.out.drew).mono ?_); rintro e w3 ⟨rfl, t3⟩; have S3 := HK.out w3 t3; (unfold SIds at S3); clear T0; have T0 : Hid (Touch (fun _ => False) w1 w3) := t3; clear t3)))
        all_goals (try go_wp2_with fail)
        all_goals go_meet
        all_goals (case rel => exact ⟨rfl, T0.out⟩)
      · clear hab
        go_wp2_with fail
        go_region_held3 (fun W => W.cell? ⟨w.heap.size, 0, none⟩ = some (u64 a1) ∧ W.cell? ⟨w.heap.size, 1, none⟩ = some (u64 a2) ∧ W.cell? ⟨w.heap.size + 1, 0, none⟩ = some (u64 b1) ∧ W.cell? ⟨w.heap.size + 1, 1, none⟩ = some (u64 b2) ∧ W.cell? ⟨w.heap.size + 2, 0, none⟩ = some (u64 c1) ∧ W.cell? ⟨w.heap.size + 2, 1, none⟩ = some (u64 c2)) (first | assumption)
          (first | (go_at_call 29; first | ((with_reducible refine (HR.out _ T0.out).mono ?_); rintro e w3 ⟨rfl, t3⟩; have S3 := HK.out w3 t3; (unfold SIds at S3); clear T0; have T0 : Hid (Touch (fun _ => False) w1 w3) := t3; clear t3) | ((with_reducible refine (HR.out _ T0.out.drew).mono ?_); rintro e w3 ⟨rfl, t3⟩; have S3 := HK.out w3 t3; (unfold SIds at S3); clear T0; have T0 : Hid (Touch (fun _ => False) w1 w3) := t3; clear t3)) | (go_at_call 28; first | ((with_reducible refine (LAA.out _ T0.out).mono ?_); rintro e w3 ⟨rfl, t3⟩; have S3 := HK.out w3 t3; (unfold SIds at S3); clear T0; have T0 : Hid (Touch (fun _ => False) w1 w3) := t3; clear t3) | ((with_reducible refine (LAA.out _ T0.out.drew).mono ?_); rintro e w3 ⟨rfl, t3⟩; have S3 := HK.out w3 t3; (unfold SIds at S3); clear T0; have T0 : Hid (Touch (fun _ => False) w1 w3) := t3; clear t3) | ((with_reducible refine (LAB.out _ T0.out).mono ?_); rintro e w3 ⟨rfl, t3⟩; have S3 := HK.out w3 t3; (unfold SIds at S3); clear T0; have T0 : Hid (Touch (fun _ => False) w1 w3) := t3; clear t3) | ((with_reducible refine (LAB.out _ T0.out.drew).mono ?_); rintro e w3 ⟨rfl, t3⟩; have S3 := HK.out w3 t3; (unfold SIds at S3); clear T0; have T0 : Hid (Touch (fun _ => False) w1 w3) := t3; clear t3) | ((with_reducible refine (LBA.out _ T0.out).mono ?_); rintro e w3 ⟨rfl, t3⟩; have S3 := HK.out w3 t3; (unfold SIds at S3); clear T0; have T0 : Hid (Touch (fun _ => False) w1 w3) := t3; clear t3) | ((with_reducible refine (LBA.out _ T0.out.drew).mono ?_); rintro e w3 ⟨rfl, t3⟩; have S3 := HK.out w3 t3; (unfold SIds at S3); clear T0; have T0 : Hid (Touch (fun _ => False) w1 w3) := t3; clear t3)))
        all_goals (try go_wp2_with fail)
        all_goals go_meet
        all_goals (case rel => exact ⟨rfl, T0.out⟩)
  case rest =>
    obtain ⟨rfl, hcT⟩ := hcut
    obtain ⟨w2, hw2⟩ : ∃ w2, w2 = wc := ⟨_, rfl⟩
    subst hw2
    have S2 := HK.out w2 hcT.out
    unfold SIds at S2
    obtain ⟨s0, s1, s2, s3, s4, s5⟩ := S2
    clear S0 S1 T0 LAA HR
    have LBC : Hid (∀ W, Touch (fun _ => False) w1 W → Calls Try.prog 28 #[idV b1 b2, idV c1 c2] W fun e w' => e = .returned (.bool (lessI b1 b2 c1 c2)) ∧ Touch (fun _ => False) w1 w') := HL.out b1 b2 c1 c2
    have LAC : Hid (∀ W, Touch (fun _ => False) w1 W → Calls Try.prog 28 #[idV a1 a2, idV c1 c2] W fun e w' => e = .returned (.bool (lessI a1 a2 c1 c2)) ∧ Touch (fun _ => False) w1 w') := HL.out a1 a2 c1 c2
    have HTr : Hid (lessI a1 a2 b1 b2 = true → lessI b1 b2 c1 c2 = true → lessI a1 a2 c1 c2 = true) := fun h1 h2 => by
      rw [lessI_iff] at *; omega
    clear HL
    generalize lessI a1 a2 b1 b2 = x at *
    generalize lessI b1 b2 c1 c2 = y at *
    generalize lessI a1 a2 c1 c2 = z at *
    have C1 := LAB.out w2 hcT.out
    cases x with
    | false =>
      go_wp2_with fail
      refine C1.mono ?_
      rintro e w3 ⟨rfl, t3⟩
      have T3 : Hid (Touch (fun _ => False) w w3) := HT.out.trans t3
      clear t3
      go_wp2_with fail
      go_ret
      exact ⟨rfl, T3.out⟩
    | true =>
      go_wp2_with fail
      refine C1.mono ?_
      rintro e w3 ⟨rfl, t3⟩
      have S3 := HK.out w3 t3
      unfold SIds at S3
      obtain ⟨q0, q1, q2, q3, q4, q5⟩ := S3
      have C2 := LBC.out w3 t3
      clear t3
      cases y with
      | false =>
        go_wp2_with fail
        refine C2.mono ?_
        rintro e w4 ⟨rfl, t4⟩
        have T4 : Hid (Touch (fun _ => False) w w4) := HT.out.trans t4
        clear t4
        go_wp2_with fail
        go_ret
        exact ⟨rfl, T4.out⟩
      | true =>
        have hz := HTr.out (by trivial) (by trivial)
        subst hz
        go_wp2_with fail
        refine C2.mono ?_
        rintro e w4 ⟨rfl, t4⟩
        have S4 := HK.out w4 t4
        unfold SIds at S4
        obtain ⟨p0, p1, p2, p3, p4, p5⟩ := S4
        have C3 := LAC.out w4 t4
        clear t4
        go_wp2_with fail
        refine C3.mono ?_
        rintro e w5 ⟨rfl, t5⟩
        have T5 : Hid (Touch (fun _ => False) w w5) := HT.out.trans t5
        clear t5
        go_wp2_with fail
        go_ret
        exact ⟨rfl, T5.out⟩
end Go.Proofs.Ytipncloegjcjfaa
