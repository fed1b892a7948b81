/- The document's Needs. -/
import Derived.Test.YtmknkecaeagmbaaGreatDoorNeedA
import Derived.Test.YtmknkecaeagmbaaGreatDoorPart15
import Derived.Test.YtmknkecaeagmbaaGreatDoorPart12
import Derived.Deep.RegionHeld3
import Derived.Deep.MidRow
namespace Go.Proofs.YtmknkecaeagmbaaGreatDoor
open Go.RowKit Go.Maps
set_option linter.unusedVariables false
set_option linter.unusedSimpArgs false
set_option maxRecDepth 100000

theorem names_cell (o : O) : ∀ (i : Nat) (h : i < 5), (namesA o)[i * 2]? = some (.int .u64 ((namesI o)[i]'h).c) ∧ (namesA o)[i * 2 + 1]? = some (.int .u64 ((namesI o)[i]'h).k)
  | 0, _ => ⟨rfl, rfl⟩
  | 1, _ => ⟨rfl, rfl⟩
  | 2, _ => ⟨rfl, rfl⟩
  | 3, _ => ⟨rfl, rfl⟩
  | 4, _ => ⟨rfl, rfl⟩
  | i + 5, h => absurd h (by omega)
theorem Touch.drew_leftD {S : Nat → Prop} {a b : World} (h : Touch S a.drew b) : Touch S a b := ⟨h.os, h.tape, h.output, h.size, h.block⟩
set_option maxHeartbeats 8000000 in
theorem rneeds_any (o : O) (w : World) : Calls Tryz.prog 26 #[o.val] w fun e w' => ∃ v, e = .returned v ∧ NewD w w' v (needsL o) := by
  have HN : Hid (∀ W, Calls Tryz.prog 44 #[o.val] W fun e w' => ∃ NB, e = .returned (.slice (some ⟨NB, 0, none⟩) 5 5) ∧ Touch (fun _ => False) W w' ∧ w'.heap[NB]? = some (.cells (namesA o) 24 (0, 0))) := fun W => (rnames_any o W).mono fun e w' h => ⟨_, h⟩
  go_enter Tryz.func26, Tryz.ntmps26
  go_upto_region 1 with fail
  obtain ⟨W0, hW0⟩ : ∃ W0, Hid (W0 = w.alloc (opO o)) := ⟨_, Eq.refl _⟩
  have HW0 : Hid (Touch (fun _ => False) w W0 ∧ OpAt w.heap.size o W0) := by rw [hW0.out]; exact ⟨(Touch.refl _ _).alloc _, heap_alloc_new _ _⟩
  rw [← hW0.out]
  clear hW0
  go_upto_region 2 with fail
  refine wp_region_lit ?_
  refine wpList_load_mid rfl 31 (.tmp 1) rfl w.heap.size 0 rfl o.vals.toList _ (rangeAt_of HW0.out.2) Tryz.underlying31 rfl (by kernel_rfl) ?_
  simp only [Act.put, List.setIfInBounds_toArray, List.set_cons_succ, List.set_cons_zero]
  go_wp2_with fail
  refine (HN.out _).mono ?_
  rintro e W1 ⟨NB, rfl, t, hb⟩
  have HW1 : Hid (Touch (fun _ => False) w W1 ∧ OpAt w.heap.size o W1 ∧ W1.heap[NB]? = some (.cells (namesA o) 24 (0, 0))) := ⟨HW0.out.1.trans t, HW0.out.2.keep t, hb⟩
  clear t hb HW0 HN
  go_wp2_with fail
  go_loopg [3, 5] 5 (fun gk s3 s5 wx => ∃ (i : Nat) (ao : Option Addr) (n cp : Nat), i + gk = 5 ∧ s3 = .slice ao n cp ∧ s5 = .int .i64 (i : Int) ∧ n ≤ i ∧ Hid (n = (((namesI o).take i).filter (needP o.c)).length ∧ NewD W1 wx (.slice ao n cp) (((namesI o).take i).filter (needP o.c))))
  case atStart => exact ⟨0, none, 0, 0, by omega, rfl, rfl, by omega, rfl, NewD.nil W1 W1 (Touch.refl _ _)⟩
  case round =>
    obtain ⟨i, ao, n, cp, hig, rfl, rfl, hni, HI⟩ := hrel
    obtain ⟨wx, hwx⟩ : ∃ wx, wx = wr := ⟨_, rfl⟩
    subst hwx
    by_cases hi5 : i < 5
    · have i1 : (0 : Int) ≤ (i : Int) := by omega
      have i2 : (i : Int) < 5 := by omega
      have hil : i < (namesI o).length := hi5
      have HST : Hid (((namesI o).take (i + 1)).filter (needP o.c) = ((namesI o).take i).filter (needP o.c) ++ (if needP o.c (namesI o)[i] then [(namesI o)[i]] else [])) := need_step o.c (namesI o) i hil
      have hSk : Hid (∀ W', Touch (fun _ => False) wx W' → OpAt w.heap.size o W' ∧ W'.cell? ⟨NB, i * 2, none⟩ = some (.int .u64 (namesI o)[i].c) ∧ W'.cell? ⟨NB, i * 2 + 1, none⟩ = some (.int .u64 (namesI o)[i].k)) := fun W' t => by
        have t2 := HI.out.2.touch.trans t
        have hb := (t2.block NB (lt_of_heap HW1.out.2.2) id).trans HW1.out.2.2
        exact ⟨HW1.out.2.1.keep t2, by rw [cell_of_block hb]; exact (names_cell o i hi5).1, by rw [cell_of_block hb]; exact (names_cell o i hi5).2⟩
      have HPD : Hid (needP o.c (namesI o)[i] = (!(((namesI o)[i].c == 0) && ((namesI o)[i].k == 0)) && ((namesI o)[i].c != o.c))) := rfl
      have HNo : Hid (∀ W, Calls Tryz.prog 39 #[.agg #[.int .u64 (namesI o)[i].c, .int .u64 (namesI o)[i].k]] W fun e w' => e = .returned (.bool (((namesI o)[i].c == 0) && ((namesI o)[i].k == 0))) ∧ Touch (fun _ => False) W w') := fun W => none_any _ _ W
      generalize (namesI o)[i] = p at *
      clear hil
      obtain ⟨pc, pk⟩ := p
      simp only at HPD HNo hSk
      obtain ⟨zb, hzb⟩ : ∃ zb, ((pc == 0) && (pk == 0)) = zb := ⟨_, rfl⟩
      rw [hzb] at HPD HNo
      clear hzb
      have hS0 := hSk.out wx.drew (Touch.refl _ wx).drew
      cases zb
      · by_cases ho : pc = o.c
        · have bo : (pc == o.c) = true := by simpa using ho
          have bo2 : (pc != o.c) = false := by rw [bne, bo]; rfl
          have hP : needP o.c ⟨pc, pk⟩ = false := by rw [HPD.out, bo2]; rfl
          clear HPD ho
          go_upto_region 6 with fail
          refine wp_region_held_drew (S := fun W' => OpAt w.heap.size o W' ∧ W'.cell? ⟨NB, i * 2, none⟩ = some (.int .u64 pc) ∧ W'.cell? ⟨NB, i * 2 + 1, none⟩ = some (.int .u64 pk)) (by kernel_rfl) hS0 (fun hHeld => ?_)
          clear hS0
          refine wpAnyH_take (i := 0) (oi := { dst := some 14, op := Go.Op.move (Go.Operand.tmp 4), type := 49, pos := "quireref8.go:75", after := #[], guard := none }) (v := .slice (some ⟨NB, 0, none⟩) 5 5) rfl (by kernel_rfl) (by kernel_rfl) (by kernel_rfl) (fun _ _ _ h => h) (Or.inl ⟨by rfl, ?_⟩) hHeld ?_
          · intro w hSw; clear hSw; go_simp
          simp only [Act.put, List.setIfInBounds_toArray]
          refine wpAnyH_take (i := 1) (oi := { dst := some 15, op := Go.Op.move (Go.Operand.tmp 5), type := 3, pos := "quireref8.go:75", after := #[], guard := none }) (v := .int .i64 (i : Int)) rfl (by kernel_rfl) (by kernel_rfl) (by kernel_rfl) (fun _ _ _ h => h) (Or.inl ⟨by rfl, ?_⟩) hHeld ?_
          · intro w hSw; clear hSw; go_simp
          simp only [Act.put, List.setIfInBounds_toArray]
          refine wpAnyH_take (i := 2) (oi := { dst := some 16, op := Go.Op.indexAddr 49 (Go.Operand.tmp 14) (Go.Operand.tmp 15), type := 0, pos := "quireref8.go:75", after := #[{ on := 0, ground := Go.Ground.data }, { on := 1, ground := Go.Ground.data }], guard := none }) (v := .pointer (some ⟨NB, i * 2, none⟩)) rfl (by kernel_rfl) (by kernel_rfl) (by kernel_rfl) (fun _ _ _ h => h) (Or.inl ⟨by rfl, ?_⟩) hHeld ?_
          · intro w hSw; clear hSw; go_simp
          simp only [Act.put, List.setIfInBounds_toArray]
          refine wpAnyH_take (i := 3) (oi := { dst := some 17, op := Go.Op.load 24 (Go.Operand.tmp 16), type := 24, pos := "quireref8.go:75", after := #[{ on := 2, ground := Go.Ground.data }], guard := none }) (v := .agg #[.int .u64 pc, .int .u64 pk]) rfl (by kernel_rfl) (by kernel_rfl) (by kernel_rfl) (fun _ _ _ h => h) (Or.inl ⟨by rfl, ?_⟩) hHeld ?_
          · intro w hSw; have hq := hSw.2.1; have hr := hSw.2.2; clear hSw; go_simp
          simp only [Act.put, List.setIfInBounds_toArray]
          refine wpAnyH_ready (rs := [4]) (by kernel_rfl) (by simp) ?_
          refine AllReadyH.cons (o := { dst := some 18, op := Go.Op.call { callee := Go.Callee.value (Go.Operand.func 39), args := #[Go.Operand.tmp 17], argTypes := #[24] }, type := 4, pos := "quireref8.go:75", after := #[{ on := 3, ground := Go.Ground.data }], guard := none }) rfl (fun K hK => ?_) AllReadyH.nil
          go_simp
          refine (HNo.out _).mono ?_
          rintro e w2 ⟨rfl, hT⟩
          have HT2 : Hid (Touch (fun _ => False) wx w2) := Touch.drew_leftD hT
          have hS2 := hSk.out w2 HT2.out
          clear hT
          refine hK.out _ _ hS2 (fun hHeld => ?_)
          clear hK K hS2
          refine wpAnyH_take (i := 5) (oi := { dst := some 19, op := Go.Op.unOp Go.UnOp.not 4 (Go.Operand.tmp 18), type := 4, pos := "quireref8.go:75", after := #[{ on := 4, ground := Go.Ground.data }], guard := none }) (v := .bool true) rfl (by kernel_rfl) (by kernel_rfl) (by kernel_rfl) (fun _ _ _ h => h) (Or.inl ⟨by rfl, ?_⟩) hHeld ?_
          · intro w hSw; clear hSw; go_simp
          simp only [Act.put, List.setIfInBounds_toArray]
          refine wpAnyH_take (i := 6) (oi := { dst := some 20, op := Go.Op.move (Go.Operand.tmp 19), type := 4, pos := "quireref8.go:75", after := #[{ on := 5, ground := Go.Ground.data }, { on := 4, ground := Go.Ground.chain }], guard := none }) (v := .bool true) rfl (by kernel_rfl) (by kernel_rfl) (by kernel_rfl) (fun _ _ _ h => h) (Or.inl ⟨by rfl, ?_⟩) hHeld ?_
          · intro w hSw; clear hSw; go_simp
          simp only [Act.put, List.setIfInBounds_toArray]
          refine wpAnyH_take (i := 7) (oi := { dst := some 21, op := Go.Op.move (Go.Operand.tmp 4), type := 49, pos := "quireref8.go:75", after := #[{ on := 6, ground := Go.Ground.guard }], guard := some (6, true) }) (v := .slice (some ⟨NB, 0, none⟩) 5 5) rfl (by kernel_rfl) (by kernel_rfl) (by kernel_rfl) (fun _ _ _ h => h) (Or.inl ⟨by rfl, ?_⟩) hHeld ?_
          · intro w hSw; clear hSw; go_simp
          simp only [Act.put, List.setIfInBounds_toArray]
          refine wpAnyH_take (i := 8) (oi := { dst := some 22, op := Go.Op.move (Go.Operand.tmp 5), type := 3, pos := "quireref8.go:75", after := #[{ on := 6, ground := Go.Ground.guard }], guard := some (6, true) }) (v := .int .i64 (i : Int)) rfl (by kernel_rfl) (by kernel_rfl) (by kernel_rfl) (fun _ _ _ h => h) (Or.inl ⟨by rfl, ?_⟩) hHeld ?_
          · intro w hSw; clear hSw; go_simp
          simp only [Act.put, List.setIfInBounds_toArray]
          refine wpAnyH_take (i := 9) (oi := { dst := some 23, op := Go.Op.indexAddr 49 (Go.Operand.tmp 21) (Go.Operand.tmp 22), type := 0, pos := "quireref8.go:75", after := #[{ on := 7, ground := Go.Ground.data }, { on := 8, ground := Go.Ground.data }, { on := 6, ground := Go.Ground.guard }], guard := some (6, true) }) (v := .pointer (some ⟨NB, i * 2, none⟩)) rfl (by kernel_rfl) (by kernel_rfl) (by kernel_rfl) (fun _ _ _ h => h) (Or.inl ⟨by rfl, ?_⟩) hHeld ?_
          · intro w hSw; clear hSw; go_simp
          simp only [Act.put, List.setIfInBounds_toArray]
          refine wpAnyH_take (i := 10) (oi := { dst := some 24, op := Go.Op.fieldAddr 24 (Go.Operand.tmp 23) 0, type := 0, pos := "quireref8.go:75", after := #[{ on := 9, ground := Go.Ground.data }, { on := 6, ground := Go.Ground.guard }], guard := some (6, true) }) (v := .pointer (some ⟨NB, i * 2, none⟩)) rfl (by kernel_rfl) (by kernel_rfl) (by kernel_rfl) (fun _ _ _ h => h) (Or.inl ⟨by rfl, ?_⟩) hHeld ?_
          · intro w hSw; clear hSw; go_simp
          simp only [Act.put, List.setIfInBounds_toArray]
          refine wpAnyH_take (i := 11) (oi := { dst := some 25, op := Go.Op.load 22 (Go.Operand.tmp 24), type := 22, pos := "quireref8.go:75", after := #[{ on := 10, ground := Go.Ground.data }, { on := 6, ground := Go.Ground.guard }], guard := some (6, true) }) (v := .int .u64 pc) rfl (by kernel_rfl) (by kernel_rfl) (by kernel_rfl) (fun _ _ _ h => h) (Or.inl ⟨by rfl, ?_⟩) hHeld ?_
          · intro w hSw; have hq := hSw.2.1; clear hSw; go_simp
          simp only [Act.put, List.setIfInBounds_toArray]
          refine wpAnyH_take (i := 12) (oi := { dst := some 26, op := Go.Op.fieldAddr 31 (Go.Operand.tmp 1) 0, type := 0, pos := "quireref8.go:75", after := #[{ on := 6, ground := Go.Ground.guard }], guard := some (6, true) }) (v := .pointer (some ⟨w.heap.size, 0, none⟩)) rfl (by kernel_rfl) (by kernel_rfl) (by kernel_rfl) (fun _ _ _ h => h) (Or.inl ⟨by rfl, ?_⟩) hHeld ?_
          · intro w hSw; clear hSw; go_simp
          simp only [Act.put, List.setIfInBounds_toArray]
          refine wpAnyH_take (i := 13) (oi := { dst := some 27, op := Go.Op.fieldAddr 24 (Go.Operand.tmp 26) 0, type := 0, pos := "quireref8.go:75", after := #[{ on := 12, ground := Go.Ground.data }, { on := 6, ground := Go.Ground.guard }], guard := some (6, true) }) (v := .pointer (some ⟨w.heap.size, 0, none⟩)) rfl (by kernel_rfl) (by kernel_rfl) (by kernel_rfl) (fun _ _ _ h => h) (Or.inl ⟨by rfl, ?_⟩) hHeld ?_
          · intro w hSw; clear hSw; go_simp
          simp only [Act.put, List.setIfInBounds_toArray]
          refine wpAnyH_take (i := 14) (oi := { dst := some 28, op := Go.Op.load 22 (Go.Operand.tmp 27), type := 22, pos := "quireref8.go:75", after := #[{ on := 13, ground := Go.Ground.data }, { on := 6, ground := Go.Ground.guard }], guard := some (6, true) }) (v := .int .u64 o.c) rfl (by kernel_rfl) (by kernel_rfl) (by kernel_rfl) (fun _ _ _ h => h) (Or.inl ⟨by rfl, ?_⟩) hHeld ?_
          · intro w hSw; have hq := hSw.1.q0; clear hSw; go_simp
          simp only [Act.put, List.setIfInBounds_toArray]
          refine wpAnyH_take (i := 15) (oi := { dst := some 29, op := Go.Op.binOp Go.BinOp.neq 22 (Go.Operand.tmp 25) (Go.Operand.tmp 28) 22, type := 4, pos := "quireref8.go:75", after := #[{ on := 11, ground := Go.Ground.data }, { on := 14, ground := Go.Ground.data }, { on := 6, ground := Go.Ground.guard }], guard := some (6, true) }) (v := .bool false) rfl (by kernel_rfl) (by kernel_rfl) (by kernel_rfl) (fun _ _ _ h => h) (Or.inl ⟨by rfl, ?_⟩) hHeld ?_
          · intro w hSw; clear hSw; go_simp
          simp only [Act.put, List.setIfInBounds_toArray]
          refine wpAnyH_take (i := 16) (oi := { dst := some 30, op := Go.Op.pick (Go.Operand.tmp 20) (Go.Operand.tmp 29) (Go.Operand.const (Go.Value.bool false)), type := 4, pos := "quireref8.go:75", after := #[{ on := 6, ground := Go.Ground.data }, { on := 15, ground := Go.Ground.data }], guard := none }) (v := .bool false) rfl (by kernel_rfl) (by kernel_rfl) (by kernel_rfl) (fun _ _ _ h => h) (Or.inl ⟨by rfl, ?_⟩) hHeld ?_
          · intro w hSw; clear hSw; go_simp
          simp only [Act.put, List.setIfInBounds_toArray]
          refine wpAnyH_done (by kernel_rfl) ?_ _
          try simp only [List.getElem_toArray, List.getElem_cons_succ, List.getElem_cons_zero, List.setIfInBounds_toArray, List.set_cons_succ, List.set_cons_zero]
          clear hHeld
          have HI2 : Hid (n = (((namesI o).take (i + 1)).filter (needP o.c)).length ∧ NewD W1 w2 (.slice ao n cp) (((namesI o).take (i + 1)).filter (needP o.c))) := by
            rw [HST.out, hP]
            simp only [Bool.false_eq_true, if_false, List.append_nil]
            exact ⟨HI.out.1, HI.out.2.on HT2.out⟩
          clear HI HST hP
          go_wp2_with fail
          go_roundg (5 - (i + 1))
          case measure => omega
          case rel => exact ⟨i + 1, ao, n, cp, by omega, rfl, by go_num, by omega, HI2.out⟩
        · have bo : (pc == o.c) = false := by simpa using ho
          have bo2 : (pc != o.c) = true := by rw [bne, bo]; rfl
          have hP : needP o.c ⟨pc, pk⟩ = true := by rw [HPD.out, bo2]; rfl
          clear HPD ho
          go_upto_region 6 with fail
          refine wp_region_held_drew (S := fun W' => OpAt w.heap.size o W' ∧ W'.cell? ⟨NB, i * 2, none⟩ = some (.int .u64 pc) ∧ W'.cell? ⟨NB, i * 2 + 1, none⟩ = some (.int .u64 pk)) (by kernel_rfl) hS0 (fun hHeld => ?_)
          clear hS0
          refine wpAnyH_take (i := 0) (oi := { dst := some 14, op := Go.Op.move (Go.Operand.tmp 4), type := 49, pos := "quireref8.go:75", after := #[], guard := none }) (v := .slice (some ⟨NB, 0, none⟩) 5 5) rfl (by kernel_rfl) (by kernel_rfl) (by kernel_rfl) (fun _ _ _ h => h) (Or.inl ⟨by rfl, ?_⟩) hHeld ?_
          · intro w hSw; clear hSw; go_simp
          simp only [Act.put, List.setIfInBounds_toArray]
          refine wpAnyH_take (i := 1) (oi := { dst := some 15, op := Go.Op.move (Go.Operand.tmp 5), type := 3, pos := "quireref8.go:75", after := #[], guard := none }) (v := .int .i64 (i : Int)) rfl (by kernel_rfl) (by kernel_rfl) (by kernel_rfl) (fun _ _ _ h => h) (Or.inl ⟨by rfl, ?_⟩) hHeld ?_
          · intro w hSw; clear hSw; go_simp
          simp only [Act.put, List.setIfInBounds_toArray]
          refine wpAnyH_take (i := 2) (oi := { dst := some 16, op := Go.Op.indexAddr 49 (Go.Operand.tmp 14) (Go.Operand.tmp 15), type := 0, pos := "quireref8.go:75", after := #[{ on := 0, ground := Go.Ground.data }, { on := 1, ground := Go.Ground.data }], guard := none }) (v := .pointer (some ⟨NB, i * 2, none⟩)) rfl (by kernel_rfl) (by kernel_rfl) (by kernel_rfl) (fun _ _ _ h => h) (Or.inl ⟨by rfl, ?_⟩) hHeld ?_
          · intro w hSw; clear hSw; go_simp
          simp only [Act.put, List.setIfInBounds_toArray]
          refine wpAnyH_take (i := 3) (oi := { dst := some 17, op := Go.Op.load 24 (Go.Operand.tmp 16), type := 24, pos := "quireref8.go:75", after := #[{ on := 2, ground := Go.Ground.data }], guard := none }) (v := .agg #[.int .u64 pc, .int .u64 pk]) rfl (by kernel_rfl) (by kernel_rfl) (by kernel_rfl) (fun _ _ _ h => h) (Or.inl ⟨by rfl, ?_⟩) hHeld ?_
          · intro w hSw; have hq := hSw.2.1; have hr := hSw.2.2; clear hSw; go_simp
          simp only [Act.put, List.setIfInBounds_toArray]
          refine wpAnyH_ready (rs := [4]) (by kernel_rfl) (by simp) ?_
          refine AllReadyH.cons (o := { dst := some 18, op := Go.Op.call { callee := Go.Callee.value (Go.Operand.func 39), args := #[Go.Operand.tmp 17], argTypes := #[24] }, type := 4, pos := "quireref8.go:75", after := #[{ on := 3, ground := Go.Ground.data }], guard := none }) rfl (fun K hK => ?_) AllReadyH.nil
          go_simp
          refine (HNo.out _).mono ?_
          rintro e w2 ⟨rfl, hT⟩
          have HT2 : Hid (Touch (fun _ => False) wx w2) := Touch.drew_leftD hT
          have hS2 := hSk.out w2 HT2.out
          clear hT
          refine hK.out _ _ hS2 (fun hHeld => ?_)
          clear hK K hS2
          refine wpAnyH_take (i := 5) (oi := { dst := some 19, op := Go.Op.unOp Go.UnOp.not 4 (Go.Operand.tmp 18), type := 4, pos := "quireref8.go:75", after := #[{ on := 4, ground := Go.Ground.data }], guard := none }) (v := .bool true) rfl (by kernel_rfl) (by kernel_rfl) (by kernel_rfl) (fun _ _ _ h => h) (Or.inl ⟨by rfl, ?_⟩) hHeld ?_
          · intro w hSw; clear hSw; go_simp
          simp only [Act.put, List.setIfInBounds_toArray]
          refine wpAnyH_take (i := 6) (oi := { dst := some 20, op := Go.Op.move (Go.Operand.tmp 19), type := 4, pos := "quireref8.go:75", after := #[{ on := 5, ground := Go.Ground.data }, { on := 4, ground := Go.Ground.chain }], guard := none }) (v := .bool true) rfl (by kernel_rfl) (by kernel_rfl) (by kernel_rfl) (fun _ _ _ h => h) (Or.inl ⟨by rfl, ?_⟩) hHeld ?_
          · intro w hSw; clear hSw; go_simp
          simp only [Act.put, List.setIfInBounds_toArray]
          refine wpAnyH_take (i := 7) (oi := { dst := some 21, op := Go.Op.move (Go.Operand.tmp 4), type := 49, pos := "quireref8.go:75", after := #[{ on := 6, ground := Go.Ground.guard }], guard := some (6, true) }) (v := .slice (some ⟨NB, 0, none⟩) 5 5) rfl (by kernel_rfl) (by kernel_rfl) (by kernel_rfl) (fun _ _ _ h => h) (Or.inl ⟨by rfl, ?_⟩) hHeld ?_
          · intro w hSw; clear hSw; go_simp
          simp only [Act.put, List.setIfInBounds_toArray]
          refine wpAnyH_take (i := 8) (oi := { dst := some 22, op := Go.Op.move (Go.Operand.tmp 5), type := 3, pos := "quireref8.go:75", after := #[{ on := 6, ground := Go.Ground.guard }], guard := some (6, true) }) (v := .int .i64 (i : Int)) rfl (by kernel_rfl) (by kernel_rfl) (by kernel_rfl) (fun _ _ _ h => h) (Or.inl ⟨by rfl, ?_⟩) hHeld ?_
          · intro w hSw; clear hSw; go_simp
          simp only [Act.put, List.setIfInBounds_toArray]
          refine wpAnyH_take (i := 9) (oi := { dst := some 23, op := Go.Op.indexAddr 49 (Go.Operand.tmp 21) (Go.Operand.tmp 22), type := 0, pos := "quireref8.go:75", after := #[{ on := 7, ground := Go.Ground.data }, { on := 8, ground := Go.Ground.data }, { on := 6, ground := Go.Ground.guard }], guard := some (6, true) }) (v := .pointer (some ⟨NB, i * 2, none⟩)) rfl (by kernel_rfl) (by kernel_rfl) (by kernel_rfl) (fun _ _ _ h => h) (Or.inl ⟨by rfl, ?_⟩) hHeld ?_
          · intro w hSw; clear hSw; go_simp
          simp only [Act.put, List.setIfInBounds_toArray]
          refine wpAnyH_take (i := 10) (oi := { dst := some 24, op := Go.Op.fieldAddr 24 (Go.Operand.tmp 23) 0, type := 0, pos := "quireref8.go:75", after := #[{ on := 9, ground := Go.Ground.data }, { on := 6, ground := Go.Ground.guard }], guard := some (6, true) }) (v := .pointer (some ⟨NB, i * 2, none⟩)) rfl (by kernel_rfl) (by kernel_rfl) (by kernel_rfl) (fun _ _ _ h => h) (Or.inl ⟨by rfl, ?_⟩) hHeld ?_
          · intro w hSw; clear hSw; go_simp
          simp only [Act.put, List.setIfInBounds_toArray]
          refine wpAnyH_take (i := 11) (oi := { dst := some 25, op := Go.Op.load 22 (Go.Operand.tmp 24), type := 22, pos := "quireref8.go:75", after := #[{ on := 10, ground := Go.Ground.data }, { on := 6, ground := Go.Ground.guard }], guard := some (6, true) }) (v := .int .u64 pc) rfl (by kernel_rfl) (by kernel_rfl) (by kernel_rfl) (fun _ _ _ h => h) (Or.inl ⟨by rfl, ?_⟩) hHeld ?_
          · intro w hSw; have hq := hSw.2.1; clear hSw; go_simp
          simp only [Act.put, List.setIfInBounds_toArray]
          refine wpAnyH_take (i := 12) (oi := { dst := some 26, op := Go.Op.fieldAddr 31 (Go.Operand.tmp 1) 0, type := 0, pos := "quireref8.go:75", after := #[{ on := 6, ground := Go.Ground.guard }], guard := some (6, true) }) (v := .pointer (some ⟨w.heap.size, 0, none⟩)) rfl (by kernel_rfl) (by kernel_rfl) (by kernel_rfl) (fun _ _ _ h => h) (Or.inl ⟨by rfl, ?_⟩) hHeld ?_
          · intro w hSw; clear hSw; go_simp
          simp only [Act.put, List.setIfInBounds_toArray]
          refine wpAnyH_take (i := 13) (oi := { dst := some 27, op := Go.Op.fieldAddr 24 (Go.Operand.tmp 26) 0, type := 0, pos := "quireref8.go:75", after := #[{ on := 12, ground := Go.Ground.data }, { on := 6, ground := Go.Ground.guard }], guard := some (6, true) }) (v := .pointer (some ⟨w.heap.size, 0, none⟩)) rfl (by kernel_rfl) (by kernel_rfl) (by kernel_rfl) (fun _ _ _ h => h) (Or.inl ⟨by rfl, ?_⟩) hHeld ?_
          · intro w hSw; clear hSw; go_simp
          simp only [Act.put, List.setIfInBounds_toArray]
          refine wpAnyH_take (i := 14) (oi := { dst := some 28, op := Go.Op.load 22 (Go.Operand.tmp 27), type := 22, pos := "quireref8.go:75", after := #[{ on := 13, ground := Go.Ground.data }, { on := 6, ground := Go.Ground.guard }], guard := some (6, true) }) (v := .int .u64 o.c) rfl (by kernel_rfl) (by kernel_rfl) (by kernel_rfl) (fun _ _ _ h => h) (Or.inl ⟨by rfl, ?_⟩) hHeld ?_
          · intro w hSw; have hq := hSw.1.q0; clear hSw; go_simp
          simp only [Act.put, List.setIfInBounds_toArray]
          refine wpAnyH_take (i := 15) (oi := { dst := some 29, op := Go.Op.binOp Go.BinOp.neq 22 (Go.Operand.tmp 25) (Go.Operand.tmp 28) 22, type := 4, pos := "quireref8.go:75", after := #[{ on := 11, ground := Go.Ground.data }, { on := 14, ground := Go.Ground.data }, { on := 6, ground := Go.Ground.guard }], guard := some (6, true) }) (v := .bool true) rfl (by kernel_rfl) (by kernel_rfl) (by kernel_rfl) (fun _ _ _ h => h) (Or.inl ⟨by rfl, ?_⟩) hHeld ?_
          · intro w hSw; clear hSw; go_simp
          simp only [Act.put, List.setIfInBounds_toArray]
          refine wpAnyH_take (i := 16) (oi := { dst := some 30, op := Go.Op.pick (Go.Operand.tmp 20) (Go.Operand.tmp 29) (Go.Operand.const (Go.Value.bool false)), type := 4, pos := "quireref8.go:75", after := #[{ on := 6, ground := Go.Ground.data }, { on := 15, ground := Go.Ground.data }], guard := none }) (v := .bool true) rfl (by kernel_rfl) (by kernel_rfl) (by kernel_rfl) (fun _ _ _ h => h) (Or.inl ⟨by rfl, ?_⟩) hHeld ?_
          · intro w hSw; clear hSw; go_simp
          simp only [Act.put, List.setIfInBounds_toArray]
          refine wpAnyH_done (by kernel_rfl) ?_ _
          try simp only [List.getElem_toArray, List.getElem_cons_succ, List.getElem_cons_zero, List.setIfInBounds_toArray, List.set_cons_succ, List.set_cons_zero]
          clear hHeld
          have hS9 := hSk.out w2 HT2.out
          have r0 := hS9.2.1
          have r1 := hS9.2.2
          clear hS9
          obtain ⟨v5, w5, hrun, hN5, _⟩ := NewD.app1 (HI.out.2.on HT2.out) ⟨pc, pk⟩ (by rw [← HI.out.1]; omega)
          have HI2 : Hid ((n + 1) = (((namesI o).take (i + 1)).filter (needP o.c)).length ∧ NewD W1 w5 v5 (((namesI o).take (i + 1)).filter (needP o.c))) := by
            rw [HST.out, hP]
            simp only [if_true]
            exact ⟨by rw [List.length_append, ← HI.out.1]; rfl, hN5⟩
          obtain ⟨ao5, cap5, hv5, _⟩ := hN5.shape
          have hv6 : v5 = .slice ao5 (n + 1) cap5 := by rw [hv5, List.length_append, ← HI.out.1]; rfl
          subst hv6
          clear hv5 hN5 HI HST hP
          go_wp2_with (at_builtin; refine wpList_append_runD rfl _ _ rfl _ _ _ rfl rfl hrun ?_)
          go_roundg (5 - (i + 1))
          case measure => omega
          case rel => exact ⟨i + 1, ao5, n + 1, cap5, by omega, rfl, by go_num, by omega, HI2.out⟩
      · have hP : needP o.c ⟨pc, pk⟩ = false := by rw [HPD.out]; rfl
        clear HPD
        go_upto_region 6 with fail
        refine wp_region_held_drew (S := fun W' => OpAt w.heap.size o W' ∧ W'.cell? ⟨NB, i * 2, none⟩ = some (.int .u64 pc) ∧ W'.cell? ⟨NB, i * 2 + 1, none⟩ = some (.int .u64 pk)) (by kernel_rfl) hS0 (fun hHeld => ?_)
        clear hS0
        refine wpAnyH_take (i := 0) (oi := { dst := some 14, op := Go.Op.move (Go.Operand.tmp 4), type := 49, pos := "quireref8.go:75", after := #[], guard := none }) (v := .slice (some ⟨NB, 0, none⟩) 5 5) rfl (by kernel_rfl) (by kernel_rfl) (by kernel_rfl) (fun _ _ _ h => h) (Or.inl ⟨by rfl, ?_⟩) hHeld ?_
        · intro w hSw; clear hSw; go_simp
        simp only [Act.put, List.setIfInBounds_toArray]
        refine wpAnyH_take (i := 1) (oi := { dst := some 15, op := Go.Op.move (Go.Operand.tmp 5), type := 3, pos := "quireref8.go:75", after := #[], guard := none }) (v := .int .i64 (i : Int)) rfl (by kernel_rfl) (by kernel_rfl) (by kernel_rfl) (fun _ _ _ h => h) (Or.inl ⟨by rfl, ?_⟩) hHeld ?_
        · intro w hSw; clear hSw; go_simp
        simp only [Act.put, List.setIfInBounds_toArray]
        refine wpAnyH_take (i := 2) (oi := { dst := some 16, op := Go.Op.indexAddr 49 (Go.Operand.tmp 14) (Go.Operand.tmp 15), type := 0, pos := "quireref8.go:75", after := #[{ on := 0, ground := Go.Ground.data }, { on := 1, ground := Go.Ground.data }], guard := none }) (v := .pointer (some ⟨NB, i * 2, none⟩)) rfl (by kernel_rfl) (by kernel_rfl) (by kernel_rfl) (fun _ _ _ h => h) (Or.inl ⟨by rfl, ?_⟩) hHeld ?_
        · intro w hSw; clear hSw; go_simp
        simp only [Act.put, List.setIfInBounds_toArray]
        refine wpAnyH_take (i := 3) (oi := { dst := some 17, op := Go.Op.load 24 (Go.Operand.tmp 16), type := 24, pos := "quireref8.go:75", after := #[{ on := 2, ground := Go.Ground.data }], guard := none }) (v := .agg #[.int .u64 pc, .int .u64 pk]) rfl (by kernel_rfl) (by kernel_rfl) (by kernel_rfl) (fun _ _ _ h => h) (Or.inl ⟨by rfl, ?_⟩) hHeld ?_
        · intro w hSw; have hq := hSw.2.1; have hr := hSw.2.2; clear hSw; go_simp
        simp only [Act.put, List.setIfInBounds_toArray]
        refine wpAnyH_ready (rs := [4]) (by kernel_rfl) (by simp) ?_
        refine AllReadyH.cons (o := { dst := some 18, op := Go.Op.call { callee := Go.Callee.value (Go.Operand.func 39), args := #[Go.Operand.tmp 17], argTypes := #[24] }, type := 4, pos := "quireref8.go:75", after := #[{ on := 3, ground := Go.Ground.data }], guard := none }) rfl (fun K hK => ?_) AllReadyH.nil
        go_simp
        refine (HNo.out _).mono ?_
        rintro e w2 ⟨rfl, hT⟩
        have HT2 : Hid (Touch (fun _ => False) wx w2) := Touch.drew_leftD hT
        have hS2 := hSk.out w2 HT2.out
        clear hT
        refine hK.out _ _ hS2 (fun hHeld => ?_)
        clear hK K hS2
        refine wpAnyH_take (i := 5) (oi := { dst := some 19, op := Go.Op.unOp Go.UnOp.not 4 (Go.Operand.tmp 18), type := 4, pos := "quireref8.go:75", after := #[{ on := 4, ground := Go.Ground.data }], guard := none }) (v := .bool false) rfl (by kernel_rfl) (by kernel_rfl) (by kernel_rfl) (fun _ _ _ h => h) (Or.inl ⟨by rfl, ?_⟩) hHeld ?_
        · intro w hSw; clear hSw; go_simp
        simp only [Act.put, List.setIfInBounds_toArray]
        refine wpAnyH_take (i := 6) (oi := { dst := some 20, op := Go.Op.move (Go.Operand.tmp 19), type := 4, pos := "quireref8.go:75", after := #[{ on := 5, ground := Go.Ground.data }, { on := 4, ground := Go.Ground.chain }], guard := none }) (v := .bool false) rfl (by kernel_rfl) (by kernel_rfl) (by kernel_rfl) (fun _ _ _ h => h) (Or.inl ⟨by rfl, ?_⟩) hHeld ?_
        · intro w hSw; clear hSw; go_simp
        simp only [Act.put, List.setIfInBounds_toArray]
        refine wpAnyH_take (i := 7) (oi := { dst := some 21, op := Go.Op.move (Go.Operand.tmp 4), type := 49, pos := "quireref8.go:75", after := #[{ on := 6, ground := Go.Ground.guard }], guard := some (6, true) }) (v := undef) rfl (by kernel_rfl) (by kernel_rfl) (by kernel_rfl) (fun _ _ _ h => h) (Or.inr ⟨by rfl, rfl⟩) hHeld ?_
        simp only [Act.put, List.setIfInBounds_toArray]
        refine wpAnyH_take (i := 8) (oi := { dst := some 22, op := Go.Op.move (Go.Operand.tmp 5), type := 3, pos := "quireref8.go:75", after := #[{ on := 6, ground := Go.Ground.guard }], guard := some (6, true) }) (v := undef) rfl (by kernel_rfl) (by kernel_rfl) (by kernel_rfl) (fun _ _ _ h => h) (Or.inr ⟨by rfl, rfl⟩) hHeld ?_
        simp only [Act.put, List.setIfInBounds_toArray]
        refine wpAnyH_take (i := 9) (oi := { dst := some 23, op := Go.Op.indexAddr 49 (Go.Operand.tmp 21) (Go.Operand.tmp 22), type := 0, pos := "quireref8.go:75", after := #[{ on := 7, ground := Go.Ground.data }, { on := 8, ground := Go.Ground.data }, { on := 6, ground := Go.Ground.guard }], guard := some (6, true) }) (v := undef) rfl (by kernel_rfl) (by kernel_rfl) (by kernel_rfl) (fun _ _ _ h => h) (Or.inr ⟨by rfl, rfl⟩) hHeld ?_
        simp only [Act.put, List.setIfInBounds_toArray]
        refine wpAnyH_take (i := 10) (oi := { dst := some 24, op := Go.Op.fieldAddr 24 (Go.Operand.tmp 23) 0, type := 0, pos := "quireref8.go:75", after := #[{ on := 9, ground := Go.Ground.data }, { on := 6, ground := Go.Ground.guard }], guard := some (6, true) }) (v := undef) rfl (by kernel_rfl) (by kernel_rfl) (by kernel_rfl) (fun _ _ _ h => h) (Or.inr ⟨by rfl, rfl⟩) hHeld ?_
        simp only [Act.put, List.setIfInBounds_toArray]
        refine wpAnyH_take (i := 11) (oi := { dst := some 25, op := Go.Op.load 22 (Go.Operand.tmp 24), type := 22, pos := "quireref8.go:75", after := #[{ on := 10, ground := Go.Ground.data }, { on := 6, ground := Go.Ground.guard }], guard := some (6, true) }) (v := undef) rfl (by kernel_rfl) (by kernel_rfl) (by kernel_rfl) (fun _ _ _ h => h) (Or.inr ⟨by rfl, rfl⟩) hHeld ?_
        simp only [Act.put, List.setIfInBounds_toArray]
        refine wpAnyH_take (i := 12) (oi := { dst := some 26, op := Go.Op.fieldAddr 31 (Go.Operand.tmp 1) 0, type := 0, pos := "quireref8.go:75", after := #[{ on := 6, ground := Go.Ground.guard }], guard := some (6, true) }) (v := undef) rfl (by kernel_rfl) (by kernel_rfl) (by kernel_rfl) (fun _ _ _ h => h) (Or.inr ⟨by rfl, rfl⟩) hHeld ?_
        simp only [Act.put, List.setIfInBounds_toArray]
        refine wpAnyH_take (i := 13) (oi := { dst := some 27, op := Go.Op.fieldAddr 24 (Go.Operand.tmp 26) 0, type := 0, pos := "quireref8.go:75", after := #[{ on := 12, ground := Go.Ground.data }, { on := 6, ground := Go.Ground.guard }], guard := some (6, true) }) (v := undef) rfl (by kernel_rfl) (by kernel_rfl) (by kernel_rfl) (fun _ _ _ h => h) (Or.inr ⟨by rfl, rfl⟩) hHeld ?_
        simp only [Act.put, List.setIfInBounds_toArray]
        refine wpAnyH_take (i := 14) (oi := { dst := some 28, op := Go.Op.load 22 (Go.Operand.tmp 27), type := 22, pos := "quireref8.go:75", after := #[{ on := 13, ground := Go.Ground.data }, { on := 6, ground := Go.Ground.guard }], guard := some (6, true) }) (v := undef) rfl (by kernel_rfl) (by kernel_rfl) (by kernel_rfl) (fun _ _ _ h => h) (Or.inr ⟨by rfl, rfl⟩) hHeld ?_
        simp only [Act.put, List.setIfInBounds_toArray]
        refine wpAnyH_take (i := 15) (oi := { dst := some 29, op := Go.Op.binOp Go.BinOp.neq 22 (Go.Operand.tmp 25) (Go.Operand.tmp 28) 22, type := 4, pos := "quireref8.go:75", after := #[{ on := 11, ground := Go.Ground.data }, { on := 14, ground := Go.Ground.data }, { on := 6, ground := Go.Ground.guard }], guard := some (6, true) }) (v := undef) rfl (by kernel_rfl) (by kernel_rfl) (by kernel_rfl) (fun _ _ _ h => h) (Or.inr ⟨by rfl, rfl⟩) hHeld ?_
        simp only [Act.put, List.setIfInBounds_toArray]
        refine wpAnyH_take (i := 16) (oi := { dst := some 30, op := Go.Op.pick (Go.Operand.tmp 20) (Go.Operand.tmp 29) (Go.Operand.const (Go.Value.bool false)), type := 4, pos := "quireref8.go:75", after := #[{ on := 6, ground := Go.Ground.data }, { on := 15, ground := Go.Ground.data }], guard := none }) (v := .bool false) rfl (by kernel_rfl) (by kernel_rfl) (by kernel_rfl) (fun _ _ _ h => h) (Or.inl ⟨by rfl, ?_⟩) hHeld ?_
        · intro w hSw; clear hSw; go_simp
        simp only [Act.put, List.setIfInBounds_toArray]
        refine wpAnyH_done (by kernel_rfl) ?_ _
        try simp only [List.getElem_toArray, List.getElem_cons_succ, List.getElem_cons_zero, List.setIfInBounds_toArray, List.set_cons_succ, List.set_cons_zero]
        clear hHeld
        have HI2 : Hid (n = (((namesI o).take (i + 1)).filter (needP o.c)).length ∧ NewD W1 w2 (.slice ao n cp) (((namesI o).take (i + 1)).filter (needP o.c))) := by
          rw [HST.out, hP]
          simp only [Bool.false_eq_true, if_false, List.append_nil]
          exact ⟨HI.out.1, HI.out.2.on HT2.out⟩
        clear HI HST hP
        go_wp2_with fail
        go_roundg (5 - (i + 1))
        case measure => omega
        case rel => exact ⟨i + 1, ao, n, cp, by omega, rfl, by go_num, by omega, HI2.out⟩
    · have hi6 : i = 5 := by omega
      have i2 : ¬ (i : Int) < 5 := by omega
      have HF : Hid (NewD w wx (.slice ao n cp) (needsL o)) := by
        have h1 := HI.out.2.since HW1.out.1
        rw [hi6] at h1
        exact h1
      clear HI hi6
      go_wp2_with fail
      go_ret
      exact ⟨_, rfl, HF.out⟩
end Go.Proofs.YtmknkecaeagmbaaGreatDoor
