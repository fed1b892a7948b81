/- quirelaw6.IdsTurns. -/
import Derived.Test.YtccgiabihagjoaaRtB
import Derived.Test.YtccgiabihagjoaaArgT
namespace Go.Proofs.Ytccgiabihagjoaa
open Go.RowKit Go.Maps
set_option linter.unusedVariables false
set_option linter.unusedSimpArgs false
set_option maxRecDepth 100000

set_option maxHeartbeats 16000000 in
theorem idsTurns_any (w : World) (va : Value) (l : List Tn) (sa : SlT w va l) (ga : ∀ r ∈ l, fitsT r) (c k : Int) :
    Calls Try.prog 3 #[va, idV c k] w fun e w' => e = .returned (.bool true) ∧ Touch (fun _ => False) w w' := by
  have S00 : Hid (SlT w va l) := sa
  obtain ⟨ao, cap, rfl, hno, _, _, _⟩ := sa
  have HNo : Hid (ao = none → cap = 0) := hno
  clear ga hno
  have KN := turned_any (w.alloc (idO c k))
  have L0 := fun W => few_any l.length ao cap W
  have HB0 : Hid ((w.alloc (idO c k)).heap[w.heap.size]? = some (idO c k)) := heap_alloc_new w _
  have HT0 : Hid (Touch (fun _ => False) w (w.alloc (idO c k))) := (Touch.refl _ w).alloc _
  go_enter Try.func3, Try.ntmps3
  go_wp2_with fail
  refine KN.mono ?_
  rintro e w0 ⟨rfl, t0⟩
  have HT : Hid (Touch (fun _ => False) w w0) := HT0.out.trans t0
  have HBx : Hid (w0.heap[w.heap.size]? = some (idO c k)) := (t0.block _ (lt_of_heap HB0.out) id).trans HB0.out
  clear t0 KN HB0 HT0
  cases hd0 : decide (l.length ≤ 60) with
  | false =>
    rw [hd0] at L0
    go_wp2_with fail
    refine (L0 _).mono ?_
    rintro e w2 ⟨rfl, rfl⟩
    go_wp2_with fail
    go_ret
    exact ⟨rfl, HT.out⟩
  | true =>
  rw [hd0] at L0
  go_wp2_with fail
  refine (L0 _).mono ?_
  rintro e w2 ⟨rfl, hw⟩
  rw [hw]
  clear hw w2 L0
  have hl60 : l.length ≤ 60 := by simpa using hd0
  obtain ⟨v1, w1, hrun, hN1, _⟩ := (NewT.nil w0 w0 (Touch.refl _ _)).app ao l.length cap l rfl HNo.out (S00.out.touch HT.out).lies.2 (by simp; omega)
  rw [List.nil_append] at hN1
  have C1 := turns_any l v1 w1 hN1.sl (.inl (by omega)) (by omega)
  have HN1 : Hid (NewT w0 w1 v1 l) := hN1
  obtain ⟨aoi, capi, rfl, _⟩ := hN1.shape
  clear hN1
  go_wp2_with (at_builtin; refine wpList_append_runT rfl _ _ rfl _ _ _ rfl rfl hrun ?_)
  refine C1.mono ?_
  rintro e w3 ⟨v3, oc, rfl, s3, f3, l3, t3⟩
  have hocl : oc.length ≤ 7200 := by
    have : l.length * l.length ≤ 60 * 60 := Nat.mul_le_mul hl60 hl60
    omega
  have hbx3 := ((HN1.out.touch.trans t3).block _ (lt_of_heap HBx.out) id).trans HBx.out
  have b0 : w3.cell? ⟨w.heap.size, 0, none⟩ = some (.int .u64 c) := by rw [cell_of_block hbx3]; rfl
  have b1 : w3.cell? ⟨w.heap.size, 1, none⟩ = some (.int .u64 k) := by rw [cell_of_block hbx3]; rfl
  have HBy : Hid (w3.heap[w.heap.size]? = some (idO c k)) := hbx3
  have HT3 : Hid (Touch (fun _ => False) w w3) := HT.out.trans (HN1.out.touch.trans t3)
  have C2 := turnOfI_any l _ c k w3 (S00.out.touch HT3.out) (by omega)
  have HS3 : Hid (SlT w3 v3 oc ∧ SlT w3 (.slice aoi l.length capi) l) := ⟨s3, HN1.out.sl.touch t3⟩
  have HF : Hid (Form oc (turnOf l)) := f3
  obtain ⟨aoc, capc, rfl, _⟩ := s3
  clear f3 l3 t3 C1 hrun HN1 HBx hbx3
  go_wp2_with fail
  refine C2.mono ?_
  rintro e w4 ⟨rfl, t4⟩
  have hbx4 := (t4.block _ (lt_of_heap HBy.out) id).trans HBy.out
  have HT1 : Hid (Touch (fun _ => False) w w4) := HT3.out.trans t4
  have SL : Hid (∀ W, Touch (fun _ => False) w4 W → SlT W (.slice ao l.length cap) l) := fun W t => S00.out.touch (HT1.out.trans t)
  have SC : Hid (∀ W, Touch (fun _ => False) w4 W → SlT W (.slice aoc oc.length capc) oc) := fun W t => HS3.out.1.touch (t4.trans t)
  have SI : Hid (∀ W, Touch (fun _ => False) w4 W → SlT W (.slice aoi l.length capi) l) := fun W t => HS3.out.2.touch (t4.trans t)
  have A1 : Hid (∀ W, Touch (fun _ => False) w4 W → Calls Try.prog 11 #[.slice ao l.length cap, .agg #[.int .u64 c, .int .u64 k]] W fun e w' => e = .returned (.int .u64 (turnOf l c k)) ∧ Touch (fun _ => False) W w') := fun W t => rturnOf_any l _ c k W (SL.out W t) (by omega)
  have A2 : Hid (∀ W, Touch (fun _ => False) w4 W → Calls Try.prog 8 #[.slice aoc oc.length capc, .agg #[.int .u64 c, .int .u64 k]] W fun e w' => e = .returned (.int .u64 (turnOf l c k)) ∧ Touch (fun _ => False) W w') := fun W t => by
    have := turnOfI_any oc _ c k W (SC.out W t) (by omega)
    rw [HF.out.1.turnOf, HF.out.2] at this
    exact this
  have HK : Hid (∀ {W W' : World}, (W.cell? ⟨w.heap.size, 0, none⟩ = some (.int .u64 c) ∧ W.cell? ⟨w.heap.size, 1, none⟩ = some (.int .u64 k)) ∧ Hid (Touch (fun _ => False) w4 W) → Touch (fun _ => False) W W' → (W'.cell? ⟨w.heap.size, 0, none⟩ = some (.int .u64 c) ∧ W'.cell? ⟨w.heap.size, 1, none⟩ = some (.int .u64 k)) ∧ Hid (Touch (fun _ => False) w4 W')) := fun {W W'} h t => by
    have go : ∀ (b o : Nat) (v : Value), W.cell? ⟨b, o, none⟩ = some v → W'.cell? ⟨b, o, none⟩ = some v := fun b o v hv => (t.cell (World.block_lt_of_cell? _ _ hv) id o).trans hv
    exact ⟨⟨go _ _ _ h.1.1, go _ _ _ h.1.2⟩, h.2.out.trans t⟩
  have S0 : (w4.cell? ⟨w.heap.size, 0, none⟩ = some (.int .u64 c) ∧ w4.cell? ⟨w.heap.size, 1, none⟩ = some (.int .u64 k)) ∧ Hid (Touch (fun _ => False) w4 w4) := ⟨⟨by rw [cell_of_block hbx4]; rfl, by rw [cell_of_block hbx4]; rfl⟩, Touch.refl _ _⟩
  have S1 := HK.out S0 (Touch.refl _ _).drew
  have hnp := (turnOf_pos l c k).1
  have HMod : Hid ((turnOf l c k).tmod 2 = turnOf l c k % 2) := Int.tmod_eq_emod_of_nonneg hnp
  clear t4 S0 hbx4 HBy HT3 HS3 C2 b0 b1 HT S00 HNo
  obtain ⟨n, hn⟩ : ∃ n, Hid (turnOf l c k = n) := ⟨_, rfl⟩
  rw [hn.out] at A1 A2 HMod hnp ⊢
  by_cases hod : n.tmod 2 = 1
  · have HO : Hid (decide (turnOf l c k % 2 = 1) = true) := by rw [Hid, hn.out, ← HMod.out]; simpa using hod
    go_wp2_with fail
    refine wp_region_noPanic ?_
    refine wp_region_held_drew (S := fun W : World => (W.cell? ⟨w.heap.size, 0, none⟩ = some (.int .u64 c) ∧ W.cell? ⟨w.heap.size, 1, none⟩ = some (.int .u64 k)) ∧ Hid (Touch (fun _ => False) w4 W)) (by kernel_rfl) S1 (fun hHeld => ?_)
    refine wpAnyH_take (i := 0) (oi := { dst := some 20, op := Op.move (Operand.tmp 6), type := 22, pos := "turns.go:30", after := #[], guard := none }) (v := (.slice aoc oc.length capc)) rfl (by kernel_rfl) (by kernel_rfl) (by kernel_rfl) (fun _ _ _ h => h) (Or.inl ⟨by rfl, ?_⟩) hHeld ?_
    · intro w' hSw; (try dsimp only at hSw); go_simp
    simp only [Act.put, List.setIfInBounds_toArray, List.set_cons_zero, List.set_cons_succ]
    refine wpAnyH_take (i := 1) (oi := { dst := some 21, op := Op.move (Operand.tmp 0), type := 22, pos := "turns.go:30", after := #[], guard := none }) (v := (.slice ao l.length cap)) rfl (by kernel_rfl) (by kernel_rfl) (by kernel_rfl) (fun _ _ _ h => h) (Or.inl ⟨by rfl, ?_⟩) hHeld ?_
    · intro w' hSw; (try dsimp only at hSw); go_simp
    simp only [Act.put, List.setIfInBounds_toArray, List.set_cons_zero, List.set_cons_succ]
    refine wpAnyH_ready (rs := [2]) (by kernel_rfl) (by simp) ?_
    refine AllReadyH.cons (o := { dst := some 22, op := Op.call { callee := Callee.value (Operand.func 10), args := #[Operand.tmp 21], argTypes := #[22] }, type := 22, pos := "turns.go:30", after := #[{ on := 1, ground := Ground.data }], guard := none }) rfl (fun K hK => ?_) AllReadyH.nil
    go_simp
    refine (rturns_any l _ _ (SL.out _ hHeld.2.out) (by omega)).mono ?_
    rintro e x2 ⟨v2, o2, rfl, n2, f2, _⟩
    obtain rfl : oc = o2 := HF.out.eq f2 (fun _ _ => rfl)
    obtain ⟨ao2, cap2, rfl, _⟩ := n2.shape
    have Y2 : Hid (SlT x2 (.slice ao2 oc.length cap2) oc) := n2.sl
    have t2 := n2.touch
    clear f2 n2
    refine hK.out _ _ (HK.out hHeld t2) (fun hHeld => ?_)
    clear hK K
    try dsimp only
    refine wpAnyH_ready (rs := [3]) (by kernel_rfl) (by simp) ?_
    refine AllReadyH.cons (o := { dst := some 23, op := Op.call { callee := Callee.value (Operand.func 9), args := #[Operand.tmp 20, Operand.tmp 22], argTypes := #[22, 22] }, type := 4, pos := "turns.go:30", after := #[{ on := 0, ground := Ground.data }, { on := 2, ground := Ground.data }, { on := 2, ground := Ground.chain }], guard := none }) rfl (fun K hK => ?_) AllReadyH.nil
    go_simp
    refine (turnsEq_any oc _ _ _ (SC.out _ hHeld.2.out) Y2.out (by omega)).mono ?_
    rintro e x3 ⟨rfl, t3⟩
    refine hK.out _ _ (HK.out hHeld t3) (fun hHeld => ?_)
    clear hK K
    try dsimp only
    refine wpAnyH_take (i := 4) (oi := { dst := some 24, op := Op.move (Operand.tmp 23), type := 4, pos := "turns.go:30", after := #[{ on := 3, ground := Ground.data }, { on := 3, ground := Ground.chain }], guard := none }) (v := (.bool true)) rfl (by kernel_rfl) (by kernel_rfl) (by kernel_rfl) (fun _ _ _ h => h) (Or.inl ⟨by rfl, ?_⟩) hHeld ?_
    · intro w' hSw; (try dsimp only at hSw); go_simp
    simp only [Act.put, List.setIfInBounds_toArray, List.set_cons_zero, List.set_cons_succ]
    refine wpAnyH_take (i := 5) (oi := { dst := some 25, op := Op.move (Operand.tmp 6), type := 22, pos := "turns.go:30", after := #[{ on := 4, ground := Ground.guard }], guard := some (4, true) }) (v := (.slice aoc oc.length capc)) rfl (by kernel_rfl) (by kernel_rfl) (by kernel_rfl) (fun _ _ _ h => h) (Or.inl ⟨by rfl, ?_⟩) hHeld ?_
    · intro w' hSw; (try dsimp only at hSw); go_simp
    simp only [Act.put, List.setIfInBounds_toArray, List.set_cons_zero, List.set_cons_succ]
    refine wpAnyH_take (i := 7) (oi := { dst := some 27, op := Op.move (Operand.tmp 6), type := 22, pos := "turns.go:30", after := #[{ on := 4, ground := Ground.guard }], guard := some (4, true) }) (v := (.slice aoc oc.length capc)) rfl (by kernel_rfl) (by kernel_rfl) (by kernel_rfl) (fun _ _ _ h => h) (Or.inl ⟨by rfl, ?_⟩) hHeld ?_
    · intro w' hSw; (try dsimp only at hSw); go_simp
    simp only [Act.put, List.setIfInBounds_toArray, List.set_cons_zero, List.set_cons_succ]
    refine wpAnyH_ready (rs := [6]) (by kernel_rfl) (by simp) ?_
    refine AllReadyH.cons (o := { dst := some 26, op := Op.call { callee := Callee.value (Operand.func 7), args := #[Operand.tmp 25], argTypes := #[22] }, type := 22, pos := "turns.go:30", after := #[{ on := 5, ground := Ground.data }, { on := 4, ground := Ground.chain }, { on := 4, ground := Ground.guard }], guard := some (4, true) }) rfl (fun K hK => ?_) AllReadyH.nil
    go_simp
    refine (turns_any oc _ _ (SC.out _ hHeld.2.out) (.inr HF.out.1) (by omega)).mono ?_
    rintro e x6 ⟨v6, o6, rfl, s6, f6, _, t6⟩
    obtain rfl : oc = o6 := HF.out.eq f6 (fun c k => by rw [HF.out.1.turnOf, HF.out.2])
    obtain ⟨ao6, cap6, rfl, _⟩ := s6.shape
    have Y6 : Hid (SlT x6 (.slice ao6 oc.length cap6) oc) := s6
    clear f6 s6
    refine hK.out _ _ (HK.out hHeld t6) (fun hHeld => ?_)
    clear hK K
    try dsimp only
    refine wpAnyH_ready (rs := [8]) (by kernel_rfl) (by simp) ?_
    refine AllReadyH.cons (o := { dst := some 28, op := Op.call { callee := Callee.value (Operand.func 9), args := #[Operand.tmp 26, Operand.tmp 27], argTypes := #[22, 22] }, type := 4, pos := "turns.go:30", after := #[{ on := 6, ground := Ground.data }, { on := 7, ground := Ground.data }, { on := 6, ground := Ground.chain }, { on := 4, ground := Ground.guard }], guard := some (4, true) }) rfl (fun K hK => ?_) AllReadyH.nil
    go_simp
    refine (turnsEq_any oc _ _ _ Y6.out (SC.out _ hHeld.2.out) (by omega)).mono ?_
    rintro e x8 ⟨rfl, t8⟩
    refine hK.out _ _ (HK.out hHeld t8) (fun hHeld => ?_)
    clear hK K
    try dsimp only
    refine wpAnyH_take (i := 9) (oi := { dst := some 29, op := Op.pick (Operand.tmp 24) (Operand.tmp 28) (Operand.const (Value.bool false)), type := 4, pos := "turns.go:30", after := #[{ on := 4, ground := Ground.data }, { on := 8, ground := Ground.data }], guard := none }) (v := (.bool true)) rfl (by kernel_rfl) (by kernel_rfl) (by kernel_rfl) (fun _ _ _ h => h) (Or.inl ⟨by rfl, ?_⟩) hHeld ?_
    · intro w' hSw; (try dsimp only at hSw); go_simp
    simp only [Act.put, List.setIfInBounds_toArray, List.set_cons_zero, List.set_cons_succ]
    refine wpAnyH_take (i := 10) (oi := { dst := some 30, op := Op.move (Operand.tmp 29), type := 4, pos := "turns.go:30", after := #[{ on := 9, ground := Ground.data }, { on := 8, ground := Ground.chain }], guard := none }) (v := (.bool true)) rfl (by kernel_rfl) (by kernel_rfl) (by kernel_rfl) (fun _ _ _ h => h) (Or.inl ⟨by rfl, ?_⟩) hHeld ?_
    · intro w' hSw; (try dsimp only at hSw); go_simp
    simp only [Act.put, List.setIfInBounds_toArray, List.set_cons_zero, List.set_cons_succ]
    refine wpAnyH_take (i := 11) (oi := { dst := some 31, op := Op.move (Operand.tmp 5), type := 22, pos := "turns.go:30", after := #[{ on := 10, ground := Ground.guard }], guard := some (10, true) }) (v := (.slice aoi l.length capi)) rfl (by kernel_rfl) (by kernel_rfl) (by kernel_rfl) (fun _ _ _ h => h) (Or.inl ⟨by rfl, ?_⟩) hHeld ?_
    · intro w' hSw; (try dsimp only at hSw); go_simp
    simp only [Act.put, List.setIfInBounds_toArray, List.set_cons_zero, List.set_cons_succ]
    refine wpAnyH_take (i := 12) (oi := { dst := some 32, op := Op.move (Operand.tmp 0), type := 22, pos := "turns.go:30", after := #[{ on := 10, ground := Ground.guard }], guard := some (10, true) }) (v := (.slice ao l.length cap)) rfl (by kernel_rfl) (by kernel_rfl) (by kernel_rfl) (fun _ _ _ h => h) (Or.inl ⟨by rfl, ?_⟩) hHeld ?_
    · intro w' hSw; (try dsimp only at hSw); go_simp
    simp only [Act.put, List.setIfInBounds_toArray, List.set_cons_zero, List.set_cons_succ]
    refine wpAnyH_ready (rs := [13]) (by kernel_rfl) (by simp) ?_
    refine AllReadyH.cons (o := { dst := some 33, op := Op.call { callee := Callee.value (Operand.func 9), args := #[Operand.tmp 31, Operand.tmp 32], argTypes := #[22, 22] }, type := 4, pos := "turns.go:30", after := #[{ on := 11, ground := Ground.data }, { on := 12, ground := Ground.data }, { on := 10, ground := Ground.chain }, { on := 10, ground := Ground.guard }], guard := some (10, true) }) rfl (fun K hK => ?_) AllReadyH.nil
    go_simp
    refine (turnsEq_any l _ _ _ (SI.out _ hHeld.2.out) (SL.out _ hHeld.2.out) (by omega)).mono ?_
    rintro e x13 ⟨rfl, t13⟩
    refine hK.out _ _ (HK.out hHeld t13) (fun hHeld => ?_)
    clear hK K
    try dsimp only
    refine wpAnyH_take (i := 14) (oi := { dst := some 34, op := Op.pick (Operand.tmp 30) (Operand.tmp 33) (Operand.const (Value.bool false)), type := 4, pos := "turns.go:30", after := #[{ on := 10, ground := Ground.data }, { on := 13, ground := Ground.data }], guard := none }) (v := (.bool true)) rfl (by kernel_rfl) (by kernel_rfl) (by kernel_rfl) (fun _ _ _ h => h) (Or.inl ⟨by rfl, ?_⟩) hHeld ?_
    · intro w' hSw; (try dsimp only at hSw); go_simp
    simp only [Act.put, List.setIfInBounds_toArray, List.set_cons_zero, List.set_cons_succ]
    refine wpAnyH_take (i := 15) (oi := { dst := some 35, op := Op.move (Operand.tmp 34), type := 4, pos := "turns.go:30", after := #[{ on := 14, ground := Ground.data }, { on := 13, ground := Ground.chain }], guard := none }) (v := (.bool true)) rfl (by kernel_rfl) (by kernel_rfl) (by kernel_rfl) (fun _ _ _ h => h) (Or.inl ⟨by rfl, ?_⟩) hHeld ?_
    · intro w' hSw; (try dsimp only at hSw); go_simp
    simp only [Act.put, List.setIfInBounds_toArray, List.set_cons_zero, List.set_cons_succ]
    refine wpAnyH_take (i := 16) (oi := { dst := some 36, op := Op.move (Operand.tmp 7), type := 23, pos := "turns.go:30", after := #[{ on := 15, ground := Ground.guard }], guard := some (15, true) }) (v := (.int .u64 n)) rfl (by kernel_rfl) (by kernel_rfl) (by kernel_rfl) (fun _ _ _ h => h) (Or.inl ⟨by rfl, ?_⟩) hHeld ?_
    · intro w' hSw; (try dsimp only at hSw); go_simp
    simp only [Act.put, List.setIfInBounds_toArray, List.set_cons_zero, List.set_cons_succ]
    refine wpAnyH_take (i := 17) (oi := { dst := some 37, op := Op.move (Operand.tmp 0), type := 22, pos := "turns.go:30", after := #[{ on := 15, ground := Ground.guard }], guard := some (15, true) }) (v := (.slice ao l.length cap)) rfl (by kernel_rfl) (by kernel_rfl) (by kernel_rfl) (fun _ _ _ h => h) (Or.inl ⟨by rfl, ?_⟩) hHeld ?_
    · intro w' hSw; (try dsimp only at hSw); go_simp
    simp only [Act.put, List.setIfInBounds_toArray, List.set_cons_zero, List.set_cons_succ]
    refine wpAnyH_take (i := 18) (oi := { dst := some 38, op := Op.load 25 (Operand.tmp 3), type := 25, pos := "turns.go:30", after := #[{ on := 15, ground := Ground.guard }], guard := some (15, true) }) (v := (.agg #[.int .u64 c, .int .u64 k])) rfl (by kernel_rfl) (by kernel_rfl) (by kernel_rfl) (fun _ _ _ h => h) (Or.inl ⟨by rfl, ?_⟩) hHeld ?_
    · intro w' hSw; (try dsimp only at hSw); go_simp
    simp only [Act.put, List.setIfInBounds_toArray, List.set_cons_zero, List.set_cons_succ]
    refine wpAnyH_ready (rs := [19]) (by kernel_rfl) (by simp) ?_
    refine AllReadyH.cons (o := { dst := some 39, op := Op.call { callee := Callee.value (Operand.func 11), args := #[Operand.tmp 37, Operand.tmp 38], argTypes := #[22, 25] }, type := 23, pos := "turns.go:30", after := #[{ on := 17, ground := Ground.data }, { on := 18, ground := Ground.data }, { on := 15, ground := Ground.chain }, { on := 15, ground := Ground.guard }], guard := some (15, true) }) rfl (fun K hK => ?_) AllReadyH.nil
    go_simp
    refine (A1.out _ hHeld.2.out).mono ?_
    rintro e x19 ⟨rfl, t19⟩
    refine hK.out _ _ (HK.out hHeld t19) (fun hHeld => ?_)
    clear hK K
    try dsimp only
    refine wpAnyH_take (i := 20) (oi := { dst := some 40, op := Op.binOp BinOp.eql 23 (Operand.tmp 36) (Operand.tmp 39) 23, type := 4, pos := "turns.go:30", after := #[{ on := 16, ground := Ground.data }, { on := 19, ground := Ground.data }, { on := 15, ground := Ground.guard }], guard := some (15, true) }) (v := (.bool true)) rfl (by kernel_rfl) (by kernel_rfl) (by kernel_rfl) (fun _ _ _ h => h) (Or.inl ⟨by rfl, ?_⟩) hHeld ?_
    · intro w' hSw; (try dsimp only at hSw); go_simp
    simp only [Act.put, List.setIfInBounds_toArray, List.set_cons_zero, List.set_cons_succ]
    refine wpAnyH_take (i := 21) (oi := { dst := some 41, op := Op.pick (Operand.tmp 35) (Operand.tmp 40) (Operand.const (Value.bool false)), type := 4, pos := "turns.go:30", after := #[{ on := 15, ground := Ground.data }, { on := 20, ground := Ground.data }], guard := none }) (v := (.bool true)) rfl (by kernel_rfl) (by kernel_rfl) (by kernel_rfl) (fun _ _ _ h => h) (Or.inl ⟨by rfl, ?_⟩) hHeld ?_
    · intro w' hSw; (try dsimp only at hSw); go_simp
    simp only [Act.put, List.setIfInBounds_toArray, List.set_cons_zero, List.set_cons_succ]
    refine wpAnyH_take (i := 22) (oi := { dst := some 42, op := Op.move (Operand.tmp 41), type := 4, pos := "turns.go:30", after := #[{ on := 21, ground := Ground.data }, { on := 19, ground := Ground.chain }], guard := none }) (v := (.bool true)) rfl (by kernel_rfl) (by kernel_rfl) (by kernel_rfl) (fun _ _ _ h => h) (Or.inl ⟨by rfl, ?_⟩) hHeld ?_
    · intro w' hSw; (try dsimp only at hSw); go_simp
    simp only [Act.put, List.setIfInBounds_toArray, List.set_cons_zero, List.set_cons_succ]
    refine wpAnyH_take (i := 23) (oi := { dst := some 43, op := Op.move (Operand.tmp 6), type := 22, pos := "turns.go:30", after := #[{ on := 22, ground := Ground.guard }], guard := some (22, true) }) (v := (.slice aoc oc.length capc)) rfl (by kernel_rfl) (by kernel_rfl) (by kernel_rfl) (fun _ _ _ h => h) (Or.inl ⟨by rfl, ?_⟩) hHeld ?_
    · intro w' hSw; (try dsimp only at hSw); go_simp
    simp only [Act.put, List.setIfInBounds_toArray, List.set_cons_zero, List.set_cons_succ]
    refine wpAnyH_take (i := 24) (oi := { dst := some 44, op := Op.load 25 (Operand.tmp 3), type := 25, pos := "turns.go:30", after := #[{ on := 22, ground := Ground.guard }], guard := some (22, true) }) (v := (.agg #[.int .u64 c, .int .u64 k])) rfl (by kernel_rfl) (by kernel_rfl) (by kernel_rfl) (fun _ _ _ h => h) (Or.inl ⟨by rfl, ?_⟩) hHeld ?_
    · intro w' hSw; (try dsimp only at hSw); go_simp
    simp only [Act.put, List.setIfInBounds_toArray, List.set_cons_zero, List.set_cons_succ]
    refine wpAnyH_take (i := 26) (oi := { dst := some 46, op := Op.move (Operand.tmp 7), type := 23, pos := "turns.go:30", after := #[{ on := 22, ground := Ground.guard }], guard := some (22, true) }) (v := (.int .u64 n)) rfl (by kernel_rfl) (by kernel_rfl) (by kernel_rfl) (fun _ _ _ h => h) (Or.inl ⟨by rfl, ?_⟩) hHeld ?_
    · intro w' hSw; (try dsimp only at hSw); go_simp
    simp only [Act.put, List.setIfInBounds_toArray, List.set_cons_zero, List.set_cons_succ]
    refine wpAnyH_ready (rs := [25]) (by kernel_rfl) (by simp) ?_
    refine AllReadyH.cons (o := { dst := some 45, op := Op.call { callee := Callee.value (Operand.func 8), args := #[Operand.tmp 43, Operand.tmp 44], argTypes := #[22, 25] }, type := 23, pos := "turns.go:30", after := #[{ on := 23, ground := Ground.data }, { on := 24, ground := Ground.data }, { on := 22, ground := Ground.chain }, { on := 22, ground := Ground.guard }], guard := some (22, true) }) rfl (fun K hK => ?_) AllReadyH.nil
    go_simp
    refine (A2.out _ hHeld.2.out).mono ?_
    rintro e x25 ⟨rfl, t25⟩
    refine hK.out _ _ (HK.out hHeld t25) (fun hHeld => ?_)
    clear hK K
    try dsimp only
    refine wpAnyH_take (i := 27) (oi := { dst := some 47, op := Op.binOp BinOp.eql 23 (Operand.tmp 45) (Operand.tmp 46) 23, type := 4, pos := "turns.go:30", after := #[{ on := 25, ground := Ground.data }, { on := 26, ground := Ground.data }, { on := 22, ground := Ground.guard }], guard := some (22, true) }) (v := (.bool true)) rfl (by kernel_rfl) (by kernel_rfl) (by kernel_rfl) (fun _ _ _ h => h) (Or.inl ⟨by rfl, ?_⟩) hHeld ?_
    · intro w' hSw; (try dsimp only at hSw); go_simp
    simp only [Act.put, List.setIfInBounds_toArray, List.set_cons_zero, List.set_cons_succ]
    refine wpAnyH_take (i := 28) (oi := { dst := some 48, op := Op.pick (Operand.tmp 42) (Operand.tmp 47) (Operand.const (Value.bool false)), type := 4, pos := "turns.go:30", after := #[{ on := 22, ground := Ground.data }, { on := 27, ground := Ground.data }], guard := none }) (v := (.bool true)) rfl (by kernel_rfl) (by kernel_rfl) (by kernel_rfl) (fun _ _ _ h => h) (Or.inl ⟨by rfl, ?_⟩) hHeld ?_
    · intro w' hSw; (try dsimp only at hSw); go_simp
    simp only [Act.put, List.setIfInBounds_toArray, List.set_cons_zero, List.set_cons_succ]
    refine wpAnyH_take (i := 29) (oi := { dst := some 49, op := Op.move (Operand.tmp 48), type := 4, pos := "turns.go:30", after := #[{ on := 28, ground := Ground.data }, { on := 25, ground := Ground.chain }], guard := none }) (v := (.bool true)) rfl (by kernel_rfl) (by kernel_rfl) (by kernel_rfl) (fun _ _ _ h => h) (Or.inl ⟨by rfl, ?_⟩) hHeld ?_
    · intro w' hSw; (try dsimp only at hSw); go_simp
    simp only [Act.put, List.setIfInBounds_toArray, List.set_cons_zero, List.set_cons_succ]
    refine wpAnyH_take (i := 30) (oi := { dst := some 50, op := Op.move (Operand.tmp 0), type := 22, pos := "turns.go:30", after := #[{ on := 29, ground := Ground.guard }], guard := some (29, true) }) (v := (.slice ao l.length cap)) rfl (by kernel_rfl) (by kernel_rfl) (by kernel_rfl) (fun _ _ _ h => h) (Or.inl ⟨by rfl, ?_⟩) hHeld ?_
    · intro w' hSw; (try dsimp only at hSw); go_simp
    simp only [Act.put, List.setIfInBounds_toArray, List.set_cons_zero, List.set_cons_succ]
    refine wpAnyH_take (i := 32) (oi := { dst := some 52, op := Op.move (Operand.tmp 0), type := 22, pos := "turns.go:30", after := #[{ on := 29, ground := Ground.guard }], guard := some (29, true) }) (v := (.slice ao l.length cap)) rfl (by kernel_rfl) (by kernel_rfl) (by kernel_rfl) (fun _ _ _ h => h) (Or.inl ⟨by rfl, ?_⟩) hHeld ?_
    · intro w' hSw; (try dsimp only at hSw); go_simp
    simp only [Act.put, List.setIfInBounds_toArray, List.set_cons_zero, List.set_cons_succ]
    refine wpAnyH_ready (rs := [31]) (by kernel_rfl) (by simp) ?_
    refine AllReadyH.cons (o := { dst := some 51, op := Op.call { callee := Callee.value (Operand.func 13), args := #[Operand.tmp 50], argTypes := #[22] }, type := 32, pos := "turns.go:30", after := #[{ on := 30, ground := Ground.data }, { on := 29, ground := Ground.chain }, { on := 29, ground := Ground.guard }], guard := some (29, true) }) rfl (fun K hK => ?_) AllReadyH.nil
    go_simp
    refine (hidden_any l _ _ (SL.out _ hHeld.2.out) (.inl (by omega))).mono ?_
    rintro e x31 ⟨v31, o31, rfl, n31, f31, l31⟩
    have l31' : o31.length ≤ 134217728 := l31
    obtain ⟨ao31, cap31, rfl, _⟩ := n31.shape
    have Y31 : Hid (SlR x31 (.slice ao31 o31.length cap31) o31 ∧ Form (tns o31) (fun c k => turnOf l c k % 2)) := ⟨n31.sl, f31⟩
    have t31 := n31.touch
    clear f31 n31 l31
    refine hK.out _ _ (HK.out hHeld t31) (fun hHeld => ?_)
    clear hK K
    try dsimp only
    refine wpAnyH_ready (rs := [33]) (by kernel_rfl) (by simp) ?_
    refine AllReadyH.cons (o := { dst := some 53, op := Op.call { callee := Callee.value (Operand.func 14), args := #[Operand.tmp 52], argTypes := #[22] }, type := 32, pos := "turns.go:30", after := #[{ on := 32, ground := Ground.data }, { on := 31, ground := Ground.chain }, { on := 29, ground := Ground.guard }], guard := some (29, true) }) rfl (fun K hK => ?_) AllReadyH.nil
    go_simp
    refine (rhidden_any l _ _ (SL.out _ hHeld.2.out) (by omega)).mono ?_
    rintro e x33 ⟨v33, o33, rfl, n33, f33⟩
    obtain rfl : o31 = o33 := tns_inj (Y31.out.2.eq f33 (fun _ _ => rfl))
    obtain ⟨ao33, cap33, rfl, _⟩ := n33.shape
    have Y33 : Hid (SlR x33 (.slice ao33 o31.length cap33) o31) := n33.sl
    have t33 := n33.touch
    replace Y31 : Hid (SlR x33 (.slice ao31 o31.length cap31) o31 ∧ Form (tns o31) (fun c k => turnOf l c k % 2)) := ⟨Y31.out.1.touch t33, Y31.out.2⟩
    clear f33 n33
    refine hK.out _ _ (HK.out hHeld t33) (fun hHeld => ?_)
    clear hK K
    try dsimp only
    refine wpAnyH_ready (rs := [34]) (by kernel_rfl) (by simp) ?_
    refine AllReadyH.cons (o := { dst := some 54, op := Op.call { callee := Callee.value (Operand.func 12), args := #[Operand.tmp 51, Operand.tmp 53], argTypes := #[32, 32] }, type := 4, pos := "turns.go:30", after := #[{ on := 31, ground := Ground.data }, { on := 33, ground := Ground.data }, { on := 33, ground := Ground.chain }, { on := 29, ground := Ground.guard }], guard := some (29, true) }) rfl (fun K hK => ?_) AllReadyH.nil
    go_simp
    refine (rangesEq_any o31 _ _ _ Y31.out.1 Y33.out (by omega)).mono ?_
    rintro e x34 ⟨rfl, t34⟩
    refine hK.out _ _ (HK.out hHeld t34) (fun hHeld => ?_)
    clear hK K
    try dsimp only
    refine wpAnyH_take (i := 35) (oi := { dst := some 55, op := Op.pick (Operand.tmp 49) (Operand.tmp 54) (Operand.const (Value.bool false)), type := 4, pos := "turns.go:30", after := #[{ on := 29, ground := Ground.data }, { on := 34, ground := Ground.data }], guard := none }) (v := (.bool true)) rfl (by kernel_rfl) (by kernel_rfl) (by kernel_rfl) (fun _ _ _ h => h) (Or.inl ⟨by rfl, ?_⟩) hHeld ?_
    · intro w' hSw; (try dsimp only at hSw); go_simp
    simp only [Act.put, List.setIfInBounds_toArray, List.set_cons_zero, List.set_cons_succ]
    refine wpAnyH_take (i := 36) (oi := { dst := some 56, op := Op.move (Operand.tmp 55), type := 4, pos := "turns.go:30", after := #[{ on := 35, ground := Ground.data }, { on := 34, ground := Ground.chain }], guard := none }) (v := (.bool true)) rfl (by kernel_rfl) (by kernel_rfl) (by kernel_rfl) (fun _ _ _ h => h) (Or.inl ⟨by rfl, ?_⟩) hHeld ?_
    · intro w' hSw; (try dsimp only at hSw); go_simp
    simp only [Act.put, List.setIfInBounds_toArray, List.set_cons_zero, List.set_cons_succ]
    refine wpAnyH_take (i := 37) (oi := { dst := some 57, op := Op.move (Operand.tmp 0), type := 22, pos := "turns.go:30", after := #[{ on := 36, ground := Ground.guard }], guard := some (36, true) }) (v := (.slice ao l.length cap)) rfl (by kernel_rfl) (by kernel_rfl) (by kernel_rfl) (fun _ _ _ h => h) (Or.inl ⟨by rfl, ?_⟩) hHeld ?_
    · intro w' hSw; (try dsimp only at hSw); go_simp
    simp only [Act.put, List.setIfInBounds_toArray, List.set_cons_zero, List.set_cons_succ]
    refine wpAnyH_take (i := 39) (oi := { dst := some 59, op := Op.load 25 (Operand.tmp 3), type := 25, pos := "turns.go:30", after := #[{ on := 36, ground := Ground.guard }], guard := some (36, true) }) (v := (.agg #[.int .u64 c, .int .u64 k])) rfl (by kernel_rfl) (by kernel_rfl) (by kernel_rfl) (fun _ _ _ h => h) (Or.inl ⟨by rfl, ?_⟩) hHeld ?_
    · intro w' hSw; (try dsimp only at hSw); go_simp
    simp only [Act.put, List.setIfInBounds_toArray, List.set_cons_zero, List.set_cons_succ]
    refine wpAnyH_take (i := 41) (oi := { dst := some 61, op := Op.move (Operand.tmp 7), type := 23, pos := "turns.go:30", after := #[{ on := 36, ground := Ground.guard }], guard := some (36, true) }) (v := (.int .u64 n)) rfl (by kernel_rfl) (by kernel_rfl) (by kernel_rfl) (fun _ _ _ h => h) (Or.inl ⟨by rfl, ?_⟩) hHeld ?_
    · intro w' hSw; (try dsimp only at hSw); go_simp
    simp only [Act.put, List.setIfInBounds_toArray, List.set_cons_zero, List.set_cons_succ]
    refine wpAnyH_take (i := 42) (oi := { dst := some 62, op := Op.binOp BinOp.rem 23 (Operand.tmp 61) (Operand.const (Value.int IntKind.u64 2)) 23, type := 23, pos := "turns.go:30", after := #[{ on := 41, ground := Ground.data }, { on := 36, ground := Ground.guard }], guard := some (36, true) }) (v := (.int .u64 (n.tmod 2))) rfl (by kernel_rfl) (by kernel_rfl) (by kernel_rfl) (fun _ _ _ h => h) (Or.inl ⟨by rfl, ?_⟩) hHeld ?_
    · intro w' hSw; (try dsimp only at hSw); go_simp
    simp only [Act.put, List.setIfInBounds_toArray, List.set_cons_zero, List.set_cons_succ]
    refine wpAnyH_take (i := 43) (oi := { dst := some 63, op := Op.binOp BinOp.eql 23 (Operand.tmp 62) (Operand.const (Value.int IntKind.u64 1)) 23, type := 4, pos := "turns.go:30", after := #[{ on := 42, ground := Ground.data }, { on := 36, ground := Ground.guard }], guard := some (36, true) }) (v := (.bool true)) rfl (by kernel_rfl) (by kernel_rfl) (by kernel_rfl) (fun _ _ _ h => h) (Or.inl ⟨by rfl, ?_⟩) hHeld ?_
    · intro w' hSw; (try dsimp only at hSw); go_simp
    simp only [Act.put, List.setIfInBounds_toArray, List.set_cons_zero, List.set_cons_succ]
    refine wpAnyH_ready (rs := [38]) (by kernel_rfl) (by simp) ?_
    refine AllReadyH.cons (o := { dst := some 58, op := Op.call { callee := Callee.value (Operand.func 13), args := #[Operand.tmp 57], argTypes := #[22] }, type := 32, pos := "turns.go:30", after := #[{ on := 37, ground := Ground.data }, { on := 36, ground := Ground.chain }, { on := 36, ground := Ground.guard }], guard := some (36, true) }) rfl (fun K hK => ?_) AllReadyH.nil
    go_simp
    refine (hidden_any l _ _ (SL.out _ hHeld.2.out) (.inl (by omega))).mono ?_
    rintro e x38 ⟨v38, o38, rfl, n38, f38, l38⟩
    have l38' : o38.length ≤ 134217728 := l38
    have hb38 : hasB o38 c k = true := by rw [hasB_turn, f38.1.turnOf, f38.2]; exact HO.out
    have K40 := fun W t => has_any o38 _ c k W (n38.sl.touch t) (by omega)
    rw [hb38] at K40
    obtain ⟨ao38, cap38, rfl, _⟩ := n38.shape
    have K41 : Hid (∀ W, Touch (fun _ => False) x38 W → Calls Try.prog 15 #[.slice ao38 o38.length cap38, idV c k] W fun e w' => e = .returned (.bool true) ∧ Touch (fun _ => False) W w') := K40
    have t38 := n38.touch
    clear f38 n38 l38 hb38 K40
    refine hK.out _ _ (HK.out hHeld t38) (fun hHeld => ?_)
    clear hK K
    try dsimp only
    refine wpAnyH_ready (rs := [40]) (by kernel_rfl) (by simp) ?_
    refine AllReadyH.cons (o := { dst := some 60, op := Op.call { callee := Callee.value (Operand.func 15), args := #[Operand.tmp 58, Operand.tmp 59], argTypes := #[32, 25] }, type := 4, pos := "turns.go:30", after := #[{ on := 38, ground := Ground.data }, { on := 39, ground := Ground.data }, { on := 38, ground := Ground.chain }, { on := 36, ground := Ground.guard }], guard := some (36, true) }) rfl (fun K hK => ?_) AllReadyH.nil
    go_simp
    refine (K41.out _ (Touch.refl _ _)).mono ?_
    rintro e x40 ⟨rfl, t40⟩
    refine hK.out _ _ (HK.out hHeld t40) (fun hHeld => ?_)
    clear hK K
    try dsimp only
    refine wpAnyH_take (i := 44) (oi := { dst := some 64, op := Op.binOp BinOp.eql 4 (Operand.tmp 60) (Operand.tmp 63) 4, type := 4, pos := "turns.go:30", after := #[{ on := 40, ground := Ground.data }, { on := 43, ground := Ground.data }, { on := 36, ground := Ground.guard }], guard := some (36, true) }) (v := (.bool true)) rfl (by kernel_rfl) (by kernel_rfl) (by kernel_rfl) (fun _ _ _ h => h) (Or.inl ⟨by rfl, ?_⟩) hHeld ?_
    · intro w' hSw; (try dsimp only at hSw); go_simp
    simp only [Act.put, List.setIfInBounds_toArray, List.set_cons_zero, List.set_cons_succ]
    refine wpAnyH_take (i := 45) (oi := { dst := some 65, op := Op.pick (Operand.tmp 56) (Operand.tmp 64) (Operand.const (Value.bool false)), type := 4, pos := "turns.go:30", after := #[{ on := 36, ground := Ground.data }, { on := 44, ground := Ground.data }], guard := none }) (v := (.bool true)) rfl (by kernel_rfl) (by kernel_rfl) (by kernel_rfl) (fun _ _ _ h => h) (Or.inl ⟨by rfl, ?_⟩) hHeld ?_
    · intro w' hSw; (try dsimp only at hSw); go_simp
    simp only [Act.put, List.setIfInBounds_toArray, List.set_cons_zero, List.set_cons_succ]
    refine wpAnyH_take (i := 46) (oi := { dst := some 4, op := Op.assign (Operand.tmp 65), type := 4, pos := "turns.go:30", after := #[{ on := 45, ground := Ground.data }, { on := 40, ground := Ground.chain }, { on := 0, ground := Ground.phase }, { on := 1, ground := Ground.phase }, { on := 2, ground := Ground.phase }, { on := 3, ground := Ground.phase }, { on := 4, ground := Ground.phase }, { on := 5, ground := Ground.phase }, { on := 6, ground := Ground.phase }, { on := 7, ground := Ground.phase }, { on := 8, ground := Ground.phase }, { on := 9, ground := Ground.phase }, { on := 10, ground := Ground.phase }, { on := 11, ground := Ground.phase }, { on := 12, ground := Ground.phase }, { on := 13, ground := Ground.phase }, { on := 14, ground := Ground.phase }, { on := 15, ground := Ground.phase }, { on := 16, ground := Ground.phase }, { on := 17, ground := Ground.phase }, { on := 18, ground := Ground.phase }, { on := 19, ground := Ground.phase }, { on := 20, ground := Ground.phase }, { on := 21, ground := Ground.phase }, { on := 22, ground := Ground.phase }, { on := 23, ground := Ground.phase }, { on := 24, ground := Ground.phase }, { on := 25, ground := Ground.phase }, { on := 26, ground := Ground.phase }, { on := 27, ground := Ground.phase }, { on := 28, ground := Ground.phase }, { on := 29, ground := Ground.phase }, { on := 30, ground := Ground.phase }, { on := 31, ground := Ground.phase }, { on := 32, ground := Ground.phase }, { on := 33, ground := Ground.phase }, { on := 34, ground := Ground.phase }, { on := 35, ground := Ground.phase }, { on := 36, ground := Ground.phase }, { on := 37, ground := Ground.phase }, { on := 38, ground := Ground.phase }, { on := 39, ground := Ground.phase }, { on := 40, ground := Ground.phase }, { on := 41, ground := Ground.phase }, { on := 42, ground := Ground.phase }, { on := 43, ground := Ground.phase }, { on := 44, ground := Ground.phase }, { on := 45, ground := Ground.phase }], guard := none }) (v := (.bool true)) rfl (by kernel_rfl) (by kernel_rfl) (by kernel_rfl) (fun _ _ _ h => h) (Or.inl ⟨by rfl, ?_⟩) hHeld ?_
    · intro w' hSw; (try dsimp only at hSw); go_simp
    simp only [Act.put, List.setIfInBounds_toArray, List.set_cons_zero, List.set_cons_succ]
    refine wpAnyH_done (by kernel_rfl) ?_ _
    have HT5 := hHeld.2
    clear hHeld
    first | refine NoPanic.normal ?_ | skip
    go_wp2_with fail
    refine bodyPost_ret (v := .bool true) (by simp [results, Try.results3, go_sem]) rfl ?_
    exact ⟨rfl, HT1.out.trans HT5.out⟩
  · have HO : Hid (decide (turnOf l c k % 2 = 1) = false) := by rw [Hid, hn.out, ← HMod.out]; simpa using hod
    have hod1 : (n.tmod 2 == 1) = false := by simpa using hod
    have hod2 : decide (n.tmod 2 = 1) = false := by simpa using hod
    go_wp2_with fail
    refine wp_region_noPanic ?_
    refine wp_region_held_drew (S := fun W : World => (W.cell? ⟨w.heap.size, 0, none⟩ = some (.int .u64 c) ∧ W.cell? ⟨w.heap.size, 1, none⟩ = some (.int .u64 k)) ∧ Hid (Touch (fun _ => False) w4 W)) (by kernel_rfl) S1 (fun hHeld => ?_)
    refine wpAnyH_take (i := 0) (oi := { dst := some 20, op := Op.move (Operand.tmp 6), type := 22, pos := "turns.go:30", after := #[], guard := none }) (v := (.slice aoc oc.length capc)) rfl (by kernel_rfl) (by kernel_rfl) (by kernel_rfl) (fun _ _ _ h => h) (Or.inl ⟨by rfl, ?_⟩) hHeld ?_
    · intro w' hSw; (try dsimp only at hSw); go_simp
    simp only [Act.put, List.setIfInBounds_toArray, List.set_cons_zero, List.set_cons_succ]
    refine wpAnyH_take (i := 1) (oi := { dst := some 21, op := Op.move (Operand.tmp 0), type := 22, pos := "turns.go:30", after := #[], guard := none }) (v := (.slice ao l.length cap)) rfl (by kernel_rfl) (by kernel_rfl) (by kernel_rfl) (fun _ _ _ h => h) (Or.inl ⟨by rfl, ?_⟩) hHeld ?_
    · intro w' hSw; (try dsimp only at hSw); go_simp
    simp only [Act.put, List.setIfInBounds_toArray, List.set_cons_zero, List.set_cons_succ]
    refine wpAnyH_ready (rs := [2]) (by kernel_rfl) (by simp) ?_
    refine AllReadyH.cons (o := { dst := some 22, op := Op.call { callee := Callee.value (Operand.func 10), args := #[Operand.tmp 21], argTypes := #[22] }, type := 22, pos := "turns.go:30", after := #[{ on := 1, ground := Ground.data }], guard := none }) rfl (fun K hK => ?_) AllReadyH.nil
    go_simp
    refine (rturns_any l _ _ (SL.out _ hHeld.2.out) (by omega)).mono ?_
    rintro e x2 ⟨v2, o2, rfl, n2, f2, _⟩
    obtain rfl : oc = o2 := HF.out.eq f2 (fun _ _ => rfl)
    obtain ⟨ao2, cap2, rfl, _⟩ := n2.shape
    have Y2 : Hid (SlT x2 (.slice ao2 oc.length cap2) oc) := n2.sl
    have t2 := n2.touch
    clear f2 n2
    refine hK.out _ _ (HK.out hHeld t2) (fun hHeld => ?_)
    clear hK K
    try dsimp only
    refine wpAnyH_ready (rs := [3]) (by kernel_rfl) (by simp) ?_
    refine AllReadyH.cons (o := { dst := some 23, op := Op.call { callee := Callee.value (Operand.func 9), args := #[Operand.tmp 20, Operand.tmp 22], argTypes := #[22, 22] }, type := 4, pos := "turns.go:30", after := #[{ on := 0, ground := Ground.data }, { on := 2, ground := Ground.data }, { on := 2, ground := Ground.chain }], guard := none }) rfl (fun K hK => ?_) AllReadyH.nil
    go_simp
    refine (turnsEq_any oc _ _ _ (SC.out _ hHeld.2.out) Y2.out (by omega)).mono ?_
    rintro e x3 ⟨rfl, t3⟩
    refine hK.out _ _ (HK.out hHeld t3) (fun hHeld => ?_)
    clear hK K
    try dsimp only
    refine wpAnyH_take (i := 4) (oi := { dst := some 24, op := Op.move (Operand.tmp 23), type := 4, pos := "turns.go:30", after := #[{ on := 3, ground := Ground.data }, { on := 3, ground := Ground.chain }], guard := none }) (v := (.bool true)) rfl (by kernel_rfl) (by kernel_rfl) (by kernel_rfl) (fun _ _ _ h => h) (Or.inl ⟨by rfl, ?_⟩) hHeld ?_
    · intro w' hSw; (try dsimp only at hSw); go_simp
    simp only [Act.put, List.setIfInBounds_toArray, List.set_cons_zero, List.set_cons_succ]
    refine wpAnyH_take (i := 5) (oi := { dst := some 25, op := Op.move (Operand.tmp 6), type := 22, pos := "turns.go:30", after := #[{ on := 4, ground := Ground.guard }], guard := some (4, true) }) (v := (.slice aoc oc.length capc)) rfl (by kernel_rfl) (by kernel_rfl) (by kernel_rfl) (fun _ _ _ h => h) (Or.inl ⟨by rfl, ?_⟩) hHeld ?_
    · intro w' hSw; (try dsimp only at hSw); go_simp
    simp only [Act.put, List.setIfInBounds_toArray, List.set_cons_zero, List.set_cons_succ]
    refine wpAnyH_take (i := 7) (oi := { dst := some 27, op := Op.move (Operand.tmp 6), type := 22, pos := "turns.go:30", after := #[{ on := 4, ground := Ground.guard }], guard := some (4, true) }) (v := (.slice aoc oc.length capc)) rfl (by kernel_rfl) (by kernel_rfl) (by kernel_rfl) (fun _ _ _ h => h) (Or.inl ⟨by rfl, ?_⟩) hHeld ?_
    · intro w' hSw; (try dsimp only at hSw); go_simp
    simp only [Act.put, List.setIfInBounds_toArray, List.set_cons_zero, List.set_cons_succ]
    refine wpAnyH_ready (rs := [6]) (by kernel_rfl) (by simp) ?_
    refine AllReadyH.cons (o := { dst := some 26, op := Op.call { callee := Callee.value (Operand.func 7), args := #[Operand.tmp 25], argTypes := #[22] }, type := 22, pos := "turns.go:30", after := #[{ on := 5, ground := Ground.data }, { on := 4, ground := Ground.chain }, { on := 4, ground := Ground.guard }], guard := some (4, true) }) rfl (fun K hK => ?_) AllReadyH.nil
    go_simp
    refine (turns_any oc _ _ (SC.out _ hHeld.2.out) (.inr HF.out.1) (by omega)).mono ?_
    rintro e x6 ⟨v6, o6, rfl, s6, f6, _, t6⟩
    obtain rfl : oc = o6 := HF.out.eq f6 (fun c k => by rw [HF.out.1.turnOf, HF.out.2])
    obtain ⟨ao6, cap6, rfl, _⟩ := s6.shape
    have Y6 : Hid (SlT x6 (.slice ao6 oc.length cap6) oc) := s6
    clear f6 s6
    refine hK.out _ _ (HK.out hHeld t6) (fun hHeld => ?_)
    clear hK K
    try dsimp only
    refine wpAnyH_ready (rs := [8]) (by kernel_rfl) (by simp) ?_
    refine AllReadyH.cons (o := { dst := some 28, op := Op.call { callee := Callee.value (Operand.func 9), args := #[Operand.tmp 26, Operand.tmp 27], argTypes := #[22, 22] }, type := 4, pos := "turns.go:30", after := #[{ on := 6, ground := Ground.data }, { on := 7, ground := Ground.data }, { on := 6, ground := Ground.chain }, { on := 4, ground := Ground.guard }], guard := some (4, true) }) rfl (fun K hK => ?_) AllReadyH.nil
    go_simp
    refine (turnsEq_any oc _ _ _ Y6.out (SC.out _ hHeld.2.out) (by omega)).mono ?_
    rintro e x8 ⟨rfl, t8⟩
    refine hK.out _ _ (HK.out hHeld t8) (fun hHeld => ?_)
    clear hK K
    try dsimp only
    refine wpAnyH_take (i := 9) (oi := { dst := some 29, op := Op.pick (Operand.tmp 24) (Operand.tmp 28) (Operand.const (Value.bool false)), type := 4, pos := "turns.go:30", after := #[{ on := 4, ground := Ground.data }, { on := 8, ground := Ground.data }], guard := none }) (v := (.bool true)) rfl (by kernel_rfl) (by kernel_rfl) (by kernel_rfl) (fun _ _ _ h => h) (Or.inl ⟨by rfl, ?_⟩) hHeld ?_
    · intro w' hSw; (try dsimp only at hSw); go_simp
    simp only [Act.put, List.setIfInBounds_toArray, List.set_cons_zero, List.set_cons_succ]
    refine wpAnyH_take (i := 10) (oi := { dst := some 30, op := Op.move (Operand.tmp 29), type := 4, pos := "turns.go:30", after := #[{ on := 9, ground := Ground.data }, { on := 8, ground := Ground.chain }], guard := none }) (v := (.bool true)) rfl (by kernel_rfl) (by kernel_rfl) (by kernel_rfl) (fun _ _ _ h => h) (Or.inl ⟨by rfl, ?_⟩) hHeld ?_
    · intro w' hSw; (try dsimp only at hSw); go_simp
    simp only [Act.put, List.setIfInBounds_toArray, List.set_cons_zero, List.set_cons_succ]
    refine wpAnyH_take (i := 11) (oi := { dst := some 31, op := Op.move (Operand.tmp 5), type := 22, pos := "turns.go:30", after := #[{ on := 10, ground := Ground.guard }], guard := some (10, true) }) (v := (.slice aoi l.length capi)) rfl (by kernel_rfl) (by kernel_rfl) (by kernel_rfl) (fun _ _ _ h => h) (Or.inl ⟨by rfl, ?_⟩) hHeld ?_
    · intro w' hSw; (try dsimp only at hSw); go_simp
    simp only [Act.put, List.setIfInBounds_toArray, List.set_cons_zero, List.set_cons_succ]
    refine wpAnyH_take (i := 12) (oi := { dst := some 32, op := Op.move (Operand.tmp 0), type := 22, pos := "turns.go:30", after := #[{ on := 10, ground := Ground.guard }], guard := some (10, true) }) (v := (.slice ao l.length cap)) rfl (by kernel_rfl) (by kernel_rfl) (by kernel_rfl) (fun _ _ _ h => h) (Or.inl ⟨by rfl, ?_⟩) hHeld ?_
    · intro w' hSw; (try dsimp only at hSw); go_simp
    simp only [Act.put, List.setIfInBounds_toArray, List.set_cons_zero, List.set_cons_succ]
    refine wpAnyH_ready (rs := [13]) (by kernel_rfl) (by simp) ?_
    refine AllReadyH.cons (o := { dst := some 33, op := Op.call { callee := Callee.value (Operand.func 9), args := #[Operand.tmp 31, Operand.tmp 32], argTypes := #[22, 22] }, type := 4, pos := "turns.go:30", after := #[{ on := 11, ground := Ground.data }, { on := 12, ground := Ground.data }, { on := 10, ground := Ground.chain }, { on := 10, ground := Ground.guard }], guard := some (10, true) }) rfl (fun K hK => ?_) AllReadyH.nil
    go_simp
    refine (turnsEq_any l _ _ _ (SI.out _ hHeld.2.out) (SL.out _ hHeld.2.out) (by omega)).mono ?_
    rintro e x13 ⟨rfl, t13⟩
    refine hK.out _ _ (HK.out hHeld t13) (fun hHeld => ?_)
    clear hK K
    try dsimp only
    refine wpAnyH_take (i := 14) (oi := { dst := some 34, op := Op.pick (Operand.tmp 30) (Operand.tmp 33) (Operand.const (Value.bool false)), type := 4, pos := "turns.go:30", after := #[{ on := 10, ground := Ground.data }, { on := 13, ground := Ground.data }], guard := none }) (v := (.bool true)) rfl (by kernel_rfl) (by kernel_rfl) (by kernel_rfl) (fun _ _ _ h => h) (Or.inl ⟨by rfl, ?_⟩) hHeld ?_
    · intro w' hSw; (try dsimp only at hSw); go_simp
    simp only [Act.put, List.setIfInBounds_toArray, List.set_cons_zero, List.set_cons_succ]
    refine wpAnyH_take (i := 15) (oi := { dst := some 35, op := Op.move (Operand.tmp 34), type := 4, pos := "turns.go:30", after := #[{ on := 14, ground := Ground.data }, { on := 13, ground := Ground.chain }], guard := none }) (v := (.bool true)) rfl (by kernel_rfl) (by kernel_rfl) (by kernel_rfl) (fun _ _ _ h => h) (Or.inl ⟨by rfl, ?_⟩) hHeld ?_
    · intro w' hSw; (try dsimp only at hSw); go_simp
    simp only [Act.put, List.setIfInBounds_toArray, List.set_cons_zero, List.set_cons_succ]
    refine wpAnyH_take (i := 16) (oi := { dst := some 36, op := Op.move (Operand.tmp 7), type := 23, pos := "turns.go:30", after := #[{ on := 15, ground := Ground.guard }], guard := some (15, true) }) (v := (.int .u64 n)) rfl (by kernel_rfl) (by kernel_rfl) (by kernel_rfl) (fun _ _ _ h => h) (Or.inl ⟨by rfl, ?_⟩) hHeld ?_
    · intro w' hSw; (try dsimp only at hSw); go_simp
    simp only [Act.put, List.setIfInBounds_toArray, List.set_cons_zero, List.set_cons_succ]
    refine wpAnyH_take (i := 17) (oi := { dst := some 37, op := Op.move (Operand.tmp 0), type := 22, pos := "turns.go:30", after := #[{ on := 15, ground := Ground.guard }], guard := some (15, true) }) (v := (.slice ao l.length cap)) rfl (by kernel_rfl) (by kernel_rfl) (by kernel_rfl) (fun _ _ _ h => h) (Or.inl ⟨by rfl, ?_⟩) hHeld ?_
    · intro w' hSw; (try dsimp only at hSw); go_simp
    simp only [Act.put, List.setIfInBounds_toArray, List.set_cons_zero, List.set_cons_succ]
    refine wpAnyH_take (i := 18) (oi := { dst := some 38, op := Op.load 25 (Operand.tmp 3), type := 25, pos := "turns.go:30", after := #[{ on := 15, ground := Ground.guard }], guard := some (15, true) }) (v := (.agg #[.int .u64 c, .int .u64 k])) rfl (by kernel_rfl) (by kernel_rfl) (by kernel_rfl) (fun _ _ _ h => h) (Or.inl ⟨by rfl, ?_⟩) hHeld ?_
    · intro w' hSw; (try dsimp only at hSw); go_simp
    simp only [Act.put, List.setIfInBounds_toArray, List.set_cons_zero, List.set_cons_succ]
    refine wpAnyH_ready (rs := [19]) (by kernel_rfl) (by simp) ?_
    refine AllReadyH.cons (o := { dst := some 39, op := Op.call { callee := Callee.value (Operand.func 11), args := #[Operand.tmp 37, Operand.tmp 38], argTypes := #[22, 25] }, type := 23, pos := "turns.go:30", after := #[{ on := 17, ground := Ground.data }, { on := 18, ground := Ground.data }, { on := 15, ground := Ground.chain }, { on := 15, ground := Ground.guard }], guard := some (15, true) }) rfl (fun K hK => ?_) AllReadyH.nil
    go_simp
    refine (A1.out _ hHeld.2.out).mono ?_
    rintro e x19 ⟨rfl, t19⟩
    refine hK.out _ _ (HK.out hHeld t19) (fun hHeld => ?_)
    clear hK K
    try dsimp only
    refine wpAnyH_take (i := 20) (oi := { dst := some 40, op := Op.binOp BinOp.eql 23 (Operand.tmp 36) (Operand.tmp 39) 23, type := 4, pos := "turns.go:30", after := #[{ on := 16, ground := Ground.data }, { on := 19, ground := Ground.data }, { on := 15, ground := Ground.guard }], guard := some (15, true) }) (v := (.bool true)) rfl (by kernel_rfl) (by kernel_rfl) (by kernel_rfl) (fun _ _ _ h => h) (Or.inl ⟨by rfl, ?_⟩) hHeld ?_
    · intro w' hSw; (try dsimp only at hSw); go_simp
    simp only [Act.put, List.setIfInBounds_toArray, List.set_cons_zero, List.set_cons_succ]
    refine wpAnyH_take (i := 21) (oi := { dst := some 41, op := Op.pick (Operand.tmp 35) (Operand.tmp 40) (Operand.const (Value.bool false)), type := 4, pos := "turns.go:30", after := #[{ on := 15, ground := Ground.data }, { on := 20, ground := Ground.data }], guard := none }) (v := (.bool true)) rfl (by kernel_rfl) (by kernel_rfl) (by kernel_rfl) (fun _ _ _ h => h) (Or.inl ⟨by rfl, ?_⟩) hHeld ?_
    · intro w' hSw; (try dsimp only at hSw); go_simp
    simp only [Act.put, List.setIfInBounds_toArray, List.set_cons_zero, List.set_cons_succ]
    refine wpAnyH_take (i := 22) (oi := { dst := some 42, op := Op.move (Operand.tmp 41), type := 4, pos := "turns.go:30", after := #[{ on := 21, ground := Ground.data }, { on := 19, ground := Ground.chain }], guard := none }) (v := (.bool true)) rfl (by kernel_rfl) (by kernel_rfl) (by kernel_rfl) (fun _ _ _ h => h) (Or.inl ⟨by rfl, ?_⟩) hHeld ?_
    · intro w' hSw; (try dsimp only at hSw); go_simp
    simp only [Act.put, List.setIfInBounds_toArray, List.set_cons_zero, List.set_cons_succ]
    refine wpAnyH_take (i := 23) (oi := { dst := some 43, op := Op.move (Operand.tmp 6), type := 22, pos := "turns.go:30", after := #[{ on := 22, ground := Ground.guard }], guard := some (22, true) }) (v := (.slice aoc oc.length capc)) rfl (by kernel_rfl) (by kernel_rfl) (by kernel_rfl) (fun _ _ _ h => h) (Or.inl ⟨by rfl, ?_⟩) hHeld ?_
    · intro w' hSw; (try dsimp only at hSw); go_simp
    simp only [Act.put, List.setIfInBounds_toArray, List.set_cons_zero, List.set_cons_succ]
    refine wpAnyH_take (i := 24) (oi := { dst := some 44, op := Op.load 25 (Operand.tmp 3), type := 25, pos := "turns.go:30", after := #[{ on := 22, ground := Ground.guard }], guard := some (22, true) }) (v := (.agg #[.int .u64 c, .int .u64 k])) rfl (by kernel_rfl) (by kernel_rfl) (by kernel_rfl) (fun _ _ _ h => h) (Or.inl ⟨by rfl, ?_⟩) hHeld ?_
    · intro w' hSw; (try dsimp only at hSw); go_simp
    simp only [Act.put, List.setIfInBounds_toArray, List.set_cons_zero, List.set_cons_succ]
    refine wpAnyH_take (i := 26) (oi := { dst := some 46, op := Op.move (Operand.tmp 7), type := 23, pos := "turns.go:30", after := #[{ on := 22, ground := Ground.guard }], guard := some (22, true) }) (v := (.int .u64 n)) rfl (by kernel_rfl) (by kernel_rfl) (by kernel_rfl) (fun _ _ _ h => h) (Or.inl ⟨by rfl, ?_⟩) hHeld ?_
    · intro w' hSw; (try dsimp only at hSw); go_simp
    simp only [Act.put, List.setIfInBounds_toArray, List.set_cons_zero, List.set_cons_succ]
    refine wpAnyH_ready (rs := [25]) (by kernel_rfl) (by simp) ?_
    refine AllReadyH.cons (o := { dst := some 45, op := Op.call { callee := Callee.value (Operand.func 8), args := #[Operand.tmp 43, Operand.tmp 44], argTypes := #[22, 25] }, type := 23, pos := "turns.go:30", after := #[{ on := 23, ground := Ground.data }, { on := 24, ground := Ground.data }, { on := 22, ground := Ground.chain }, { on := 22, ground := Ground.guard }], guard := some (22, true) }) rfl (fun K hK => ?_) AllReadyH.nil
    go_simp
    refine (A2.out _ hHeld.2.out).mono ?_
    rintro e x25 ⟨rfl, t25⟩
    refine hK.out _ _ (HK.out hHeld t25) (fun hHeld => ?_)
    clear hK K
    try dsimp only
    refine wpAnyH_take (i := 27) (oi := { dst := some 47, op := Op.binOp BinOp.eql 23 (Operand.tmp 45) (Operand.tmp 46) 23, type := 4, pos := "turns.go:30", after := #[{ on := 25, ground := Ground.data }, { on := 26, ground := Ground.data }, { on := 22, ground := Ground.guard }], guard := some (22, true) }) (v := (.bool true)) rfl (by kernel_rfl) (by kernel_rfl) (by kernel_rfl) (fun _ _ _ h => h) (Or.inl ⟨by rfl, ?_⟩) hHeld ?_
    · intro w' hSw; (try dsimp only at hSw); go_simp
    simp only [Act.put, List.setIfInBounds_toArray, List.set_cons_zero, List.set_cons_succ]
    refine wpAnyH_take (i := 28) (oi := { dst := some 48, op := Op.pick (Operand.tmp 42) (Operand.tmp 47) (Operand.const (Value.bool false)), type := 4, pos := "turns.go:30", after := #[{ on := 22, ground := Ground.data }, { on := 27, ground := Ground.data }], guard := none }) (v := (.bool true)) rfl (by kernel_rfl) (by kernel_rfl) (by kernel_rfl) (fun _ _ _ h => h) (Or.inl ⟨by rfl, ?_⟩) hHeld ?_
    · intro w' hSw; (try dsimp only at hSw); go_simp
    simp only [Act.put, List.setIfInBounds_toArray, List.set_cons_zero, List.set_cons_succ]
    refine wpAnyH_take (i := 29) (oi := { dst := some 49, op := Op.move (Operand.tmp 48), type := 4, pos := "turns.go:30", after := #[{ on := 28, ground := Ground.data }, { on := 25, ground := Ground.chain }], guard := none }) (v := (.bool true)) rfl (by kernel_rfl) (by kernel_rfl) (by kernel_rfl) (fun _ _ _ h => h) (Or.inl ⟨by rfl, ?_⟩) hHeld ?_
    · intro w' hSw; (try dsimp only at hSw); go_simp
    simp only [Act.put, List.setIfInBounds_toArray, List.set_cons_zero, List.set_cons_succ]
    refine wpAnyH_take (i := 30) (oi := { dst := some 50, op := Op.move (Operand.tmp 0), type := 22, pos := "turns.go:30", after := #[{ on := 29, ground := Ground.guard }], guard := some (29, true) }) (v := (.slice ao l.length cap)) rfl (by kernel_rfl) (by kernel_rfl) (by kernel_rfl) (fun _ _ _ h => h) (Or.inl ⟨by rfl, ?_⟩) hHeld ?_
    · intro w' hSw; (try dsimp only at hSw); go_simp
    simp only [Act.put, List.setIfInBounds_toArray, List.set_cons_zero, List.set_cons_succ]
    refine wpAnyH_take (i := 32) (oi := { dst := some 52, op := Op.move (Operand.tmp 0), type := 22, pos := "turns.go:30", after := #[{ on := 29, ground := Ground.guard }], guard := some (29, true) }) (v := (.slice ao l.length cap)) rfl (by kernel_rfl) (by kernel_rfl) (by kernel_rfl) (fun _ _ _ h => h) (Or.inl ⟨by rfl, ?_⟩) hHeld ?_
    · intro w' hSw; (try dsimp only at hSw); go_simp
    simp only [Act.put, List.setIfInBounds_toArray, List.set_cons_zero, List.set_cons_succ]
    refine wpAnyH_ready (rs := [31]) (by kernel_rfl) (by simp) ?_
    refine AllReadyH.cons (o := { dst := some 51, op := Op.call { callee := Callee.value (Operand.func 13), args := #[Operand.tmp 50], argTypes := #[22] }, type := 32, pos := "turns.go:30", after := #[{ on := 30, ground := Ground.data }, { on := 29, ground := Ground.chain }, { on := 29, ground := Ground.guard }], guard := some (29, true) }) rfl (fun K hK => ?_) AllReadyH.nil
    go_simp
    refine (hidden_any l _ _ (SL.out _ hHeld.2.out) (.inl (by omega))).mono ?_
    rintro e x31 ⟨v31, o31, rfl, n31, f31, l31⟩
    have l31' : o31.length ≤ 134217728 := l31
    obtain ⟨ao31, cap31, rfl, _⟩ := n31.shape
    have Y31 : Hid (SlR x31 (.slice ao31 o31.length cap31) o31 ∧ Form (tns o31) (fun c k => turnOf l c k % 2)) := ⟨n31.sl, f31⟩
    have t31 := n31.touch
    clear f31 n31 l31
    refine hK.out _ _ (HK.out hHeld t31) (fun hHeld => ?_)
    clear hK K
    try dsimp only
    refine wpAnyH_ready (rs := [33]) (by kernel_rfl) (by simp) ?_
    refine AllReadyH.cons (o := { dst := some 53, op := Op.call { callee := Callee.value (Operand.func 14), args := #[Operand.tmp 52], argTypes := #[22] }, type := 32, pos := "turns.go:30", after := #[{ on := 32, ground := Ground.data }, { on := 31, ground := Ground.chain }, { on := 29, ground := Ground.guard }], guard := some (29, true) }) rfl (fun K hK => ?_) AllReadyH.nil
    go_simp
    refine (rhidden_any l _ _ (SL.out _ hHeld.2.out) (by omega)).mono ?_
    rintro e x33 ⟨v33, o33, rfl, n33, f33⟩
    obtain rfl : o31 = o33 := tns_inj (Y31.out.2.eq f33 (fun _ _ => rfl))
    obtain ⟨ao33, cap33, rfl, _⟩ := n33.shape
    have Y33 : Hid (SlR x33 (.slice ao33 o31.length cap33) o31) := n33.sl
    have t33 := n33.touch
    replace Y31 : Hid (SlR x33 (.slice ao31 o31.length cap31) o31 ∧ Form (tns o31) (fun c k => turnOf l c k % 2)) := ⟨Y31.out.1.touch t33, Y31.out.2⟩
    clear f33 n33
    refine hK.out _ _ (HK.out hHeld t33) (fun hHeld => ?_)
    clear hK K
    try dsimp only
    refine wpAnyH_ready (rs := [34]) (by kernel_rfl) (by simp) ?_
    refine AllReadyH.cons (o := { dst := some 54, op := Op.call { callee := Callee.value (Operand.func 12), args := #[Operand.tmp 51, Operand.tmp 53], argTypes := #[32, 32] }, type := 4, pos := "turns.go:30", after := #[{ on := 31, ground := Ground.data }, { on := 33, ground := Ground.data }, { on := 33, ground := Ground.chain }, { on := 29, ground := Ground.guard }], guard := some (29, true) }) rfl (fun K hK => ?_) AllReadyH.nil
    go_simp
    refine (rangesEq_any o31 _ _ _ Y31.out.1 Y33.out (by omega)).mono ?_
    rintro e x34 ⟨rfl, t34⟩
    refine hK.out _ _ (HK.out hHeld t34) (fun hHeld => ?_)
    clear hK K
    try dsimp only
    refine wpAnyH_take (i := 35) (oi := { dst := some 55, op := Op.pick (Operand.tmp 49) (Operand.tmp 54) (Operand.const (Value.bool false)), type := 4, pos := "turns.go:30", after := #[{ on := 29, ground := Ground.data }, { on := 34, ground := Ground.data }], guard := none }) (v := (.bool true)) rfl (by kernel_rfl) (by kernel_rfl) (by kernel_rfl) (fun _ _ _ h => h) (Or.inl ⟨by rfl, ?_⟩) hHeld ?_
    · intro w' hSw; (try dsimp only at hSw); go_simp
    simp only [Act.put, List.setIfInBounds_toArray, List.set_cons_zero, List.set_cons_succ]
    refine wpAnyH_take (i := 36) (oi := { dst := some 56, op := Op.move (Operand.tmp 55), type := 4, pos := "turns.go:30", after := #[{ on := 35, ground := Ground.data }, { on := 34, ground := Ground.chain }], guard := none }) (v := (.bool true)) rfl (by kernel_rfl) (by kernel_rfl) (by kernel_rfl) (fun _ _ _ h => h) (Or.inl ⟨by rfl, ?_⟩) hHeld ?_
    · intro w' hSw; (try dsimp only at hSw); go_simp
    simp only [Act.put, List.setIfInBounds_toArray, List.set_cons_zero, List.set_cons_succ]
    refine wpAnyH_take (i := 37) (oi := { dst := some 57, op := Op.move (Operand.tmp 0), type := 22, pos := "turns.go:30", after := #[{ on := 36, ground := Ground.guard }], guard := some (36, true) }) (v := (.slice ao l.length cap)) rfl (by kernel_rfl) (by kernel_rfl) (by kernel_rfl) (fun _ _ _ h => h) (Or.inl ⟨by rfl, ?_⟩) hHeld ?_
    · intro w' hSw; (try dsimp only at hSw); go_simp
    simp only [Act.put, List.setIfInBounds_toArray, List.set_cons_zero, List.set_cons_succ]
    refine wpAnyH_take (i := 39) (oi := { dst := some 59, op := Op.load 25 (Operand.tmp 3), type := 25, pos := "turns.go:30", after := #[{ on := 36, ground := Ground.guard }], guard := some (36, true) }) (v := (.agg #[.int .u64 c, .int .u64 k])) rfl (by kernel_rfl) (by kernel_rfl) (by kernel_rfl) (fun _ _ _ h => h) (Or.inl ⟨by rfl, ?_⟩) hHeld ?_
    · intro w' hSw; (try dsimp only at hSw); go_simp
    simp only [Act.put, List.setIfInBounds_toArray, List.set_cons_zero, List.set_cons_succ]
    refine wpAnyH_take (i := 41) (oi := { dst := some 61, op := Op.move (Operand.tmp 7), type := 23, pos := "turns.go:30", after := #[{ on := 36, ground := Ground.guard }], guard := some (36, true) }) (v := (.int .u64 n)) rfl (by kernel_rfl) (by kernel_rfl) (by kernel_rfl) (fun _ _ _ h => h) (Or.inl ⟨by rfl, ?_⟩) hHeld ?_
    · intro w' hSw; (try dsimp only at hSw); go_simp
    simp only [Act.put, List.setIfInBounds_toArray, List.set_cons_zero, List.set_cons_succ]
    refine wpAnyH_take (i := 42) (oi := { dst := some 62, op := Op.binOp BinOp.rem 23 (Operand.tmp 61) (Operand.const (Value.int IntKind.u64 2)) 23, type := 23, pos := "turns.go:30", after := #[{ on := 41, ground := Ground.data }, { on := 36, ground := Ground.guard }], guard := some (36, true) }) (v := (.int .u64 (n.tmod 2))) rfl (by kernel_rfl) (by kernel_rfl) (by kernel_rfl) (fun _ _ _ h => h) (Or.inl ⟨by rfl, ?_⟩) hHeld ?_
    · intro w' hSw; (try dsimp only at hSw); go_simp
    simp only [Act.put, List.setIfInBounds_toArray, List.set_cons_zero, List.set_cons_succ]
    refine wpAnyH_take (i := 43) (oi := { dst := some 63, op := Op.binOp BinOp.eql 23 (Operand.tmp 62) (Operand.const (Value.int IntKind.u64 1)) 23, type := 4, pos := "turns.go:30", after := #[{ on := 42, ground := Ground.data }, { on := 36, ground := Ground.guard }], guard := some (36, true) }) (v := (.bool false)) rfl (by kernel_rfl) (by kernel_rfl) (by kernel_rfl) (fun _ _ _ h => h) (Or.inl ⟨by rfl, ?_⟩) hHeld ?_
    · intro w' hSw; (try dsimp only at hSw); go_simp
    simp only [Act.put, List.setIfInBounds_toArray, List.set_cons_zero, List.set_cons_succ]
    refine wpAnyH_ready (rs := [38]) (by kernel_rfl) (by simp) ?_
    refine AllReadyH.cons (o := { dst := some 58, op := Op.call { callee := Callee.value (Operand.func 13), args := #[Operand.tmp 57], argTypes := #[22] }, type := 32, pos := "turns.go:30", after := #[{ on := 37, ground := Ground.data }, { on := 36, ground := Ground.chain }, { on := 36, ground := Ground.guard }], guard := some (36, true) }) rfl (fun K hK => ?_) AllReadyH.nil
    go_simp
    refine (hidden_any l _ _ (SL.out _ hHeld.2.out) (.inl (by omega))).mono ?_
    rintro e x38 ⟨v38, o38, rfl, n38, f38, l38⟩
    have l38' : o38.length ≤ 134217728 := l38
    have hb38 : hasB o38 c k = false := by rw [hasB_turn, f38.1.turnOf, f38.2]; exact HO.out
    have K40 := fun W t => has_any o38 _ c k W (n38.sl.touch t) (by omega)
    rw [hb38] at K40
    obtain ⟨ao38, cap38, rfl, _⟩ := n38.shape
    have K41 : Hid (∀ W, Touch (fun _ => False) x38 W → Calls Try.prog 15 #[.slice ao38 o38.length cap38, idV c k] W fun e w' => e = .returned (.bool false) ∧ Touch (fun _ => False) W w') := K40
    have t38 := n38.touch
    clear f38 n38 l38 hb38 K40
    refine hK.out _ _ (HK.out hHeld t38) (fun hHeld => ?_)
    clear hK K
    try dsimp only
    refine wpAnyH_ready (rs := [40]) (by kernel_rfl) (by simp) ?_
    refine AllReadyH.cons (o := { dst := some 60, op := Op.call { callee := Callee.value (Operand.func 15), args := #[Operand.tmp 58, Operand.tmp 59], argTypes := #[32, 25] }, type := 4, pos := "turns.go:30", after := #[{ on := 38, ground := Ground.data }, { on := 39, ground := Ground.data }, { on := 38, ground := Ground.chain }, { on := 36, ground := Ground.guard }], guard := some (36, true) }) rfl (fun K hK => ?_) AllReadyH.nil
    go_simp
    refine (K41.out _ (Touch.refl _ _)).mono ?_
    rintro e x40 ⟨rfl, t40⟩
    refine hK.out _ _ (HK.out hHeld t40) (fun hHeld => ?_)
    clear hK K
    try dsimp only
    refine wpAnyH_take (i := 44) (oi := { dst := some 64, op := Op.binOp BinOp.eql 4 (Operand.tmp 60) (Operand.tmp 63) 4, type := 4, pos := "turns.go:30", after := #[{ on := 40, ground := Ground.data }, { on := 43, ground := Ground.data }, { on := 36, ground := Ground.guard }], guard := some (36, true) }) (v := (.bool true)) rfl (by kernel_rfl) (by kernel_rfl) (by kernel_rfl) (fun _ _ _ h => h) (Or.inl ⟨by rfl, ?_⟩) hHeld ?_
    · intro w' hSw; (try dsimp only at hSw); go_simp
    simp only [Act.put, List.setIfInBounds_toArray, List.set_cons_zero, List.set_cons_succ]
    refine wpAnyH_take (i := 45) (oi := { dst := some 65, op := Op.pick (Operand.tmp 56) (Operand.tmp 64) (Operand.const (Value.bool false)), type := 4, pos := "turns.go:30", after := #[{ on := 36, ground := Ground.data }, { on := 44, ground := Ground.data }], guard := none }) (v := (.bool true)) rfl (by kernel_rfl) (by kernel_rfl) (by kernel_rfl) (fun _ _ _ h => h) (Or.inl ⟨by rfl, ?_⟩) hHeld ?_
    · intro w' hSw; (try dsimp only at hSw); go_simp
    simp only [Act.put, List.setIfInBounds_toArray, List.set_cons_zero, List.set_cons_succ]
    refine wpAnyH_take (i := 46) (oi := { dst := some 4, op := Op.assign (Operand.tmp 65), type := 4, pos := "turns.go:30", after := #[{ on := 45, ground := Ground.data }, { on := 40, ground := Ground.chain }, { on := 0, ground := Ground.phase }, { on := 1, ground := Ground.phase }, { on := 2, ground := Ground.phase }, { on := 3, ground := Ground.phase }, { on := 4, ground := Ground.phase }, { on := 5, ground := Ground.phase }, { on := 6, ground := Ground.phase }, { on := 7, ground := Ground.phase }, { on := 8, ground := Ground.phase }, { on := 9, ground := Ground.phase }, { on := 10, ground := Ground.phase }, { on := 11, ground := Ground.phase }, { on := 12, ground := Ground.phase }, { on := 13, ground := Ground.phase }, { on := 14, ground := Ground.phase }, { on := 15, ground := Ground.phase }, { on := 16, ground := Ground.phase }, { on := 17, ground := Ground.phase }, { on := 18, ground := Ground.phase }, { on := 19, ground := Ground.phase }, { on := 20, ground := Ground.phase }, { on := 21, ground := Ground.phase }, { on := 22, ground := Ground.phase }, { on := 23, ground := Ground.phase }, { on := 24, ground := Ground.phase }, { on := 25, ground := Ground.phase }, { on := 26, ground := Ground.phase }, { on := 27, ground := Ground.phase }, { on := 28, ground := Ground.phase }, { on := 29, ground := Ground.phase }, { on := 30, ground := Ground.phase }, { on := 31, ground := Ground.phase }, { on := 32, ground := Ground.phase }, { on := 33, ground := Ground.phase }, { on := 34, ground := Ground.phase }, { on := 35, ground := Ground.phase }, { on := 36, ground := Ground.phase }, { on := 37, ground := Ground.phase }, { on := 38, ground := Ground.phase }, { on := 39, ground := Ground.phase }, { on := 40, ground := Ground.phase }, { on := 41, ground := Ground.phase }, { on := 42, ground := Ground.phase }, { on := 43, ground := Ground.phase }, { on := 44, ground := Ground.phase }, { on := 45, ground := Ground.phase }], guard := none }) (v := (.bool true)) rfl (by kernel_rfl) (by kernel_rfl) (by kernel_rfl) (fun _ _ _ h => h) (Or.inl ⟨by rfl, ?_⟩) hHeld ?_
    · intro w' hSw; (try dsimp only at hSw); go_simp
    simp only [Act.put, List.setIfInBounds_toArray, List.set_cons_zero, List.set_cons_succ]
    refine wpAnyH_done (by kernel_rfl) ?_ _
    have HT5 := hHeld.2
    clear hHeld
    first | refine NoPanic.normal ?_ | skip
    go_wp2_with fail
    refine bodyPost_ret (v := .bool true) (by simp [results, Try.results3, go_sem]) rfl ?_
    exact ⟨rfl, HT1.out.trans HT5.out⟩
end Go.Proofs.Ytccgiabihagjoaa
