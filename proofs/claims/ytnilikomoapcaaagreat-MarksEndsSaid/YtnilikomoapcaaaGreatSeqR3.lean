/- Package seq's row: count. -/
import Derived.Test.YtnilikomoapcaaaGreatPart1
namespace Go.Proofs.YtnilikomoapcaaaGreat
open Go.RowKit
set_option linter.unusedVariables false
set_option linter.unusedSimpArgs false
set_option maxRecDepth 100000

def SCnt (b k g cap n B da db : Nat) (tl wa wb : Int) (W : World) : Prop := W.cell? ⟨b, k, none⟩ = some (.slice (some ⟨g, 0, none⟩) n cap) ∧ W.cell? ⟨B, 1, none⟩ = some (iV (da : Int)) ∧ W.cell? ⟨B, 2, none⟩ = some (iV (db : Int)) ∧ W.cell? ⟨B, 3, none⟩ = some (iV tl) ∧ W.cell? ⟨g, da * 5 + 4, none⟩ = some (iV wa) ∧ W.cell? ⟨g, db * 5 + 4, none⟩ = some (iV wb)
set_option maxHeartbeats 8000000 in
theorem count_any {w : World} {b k g cap : Nat} {L : List Th} (h : Things w b k g cap L) (i : Nat) (hi : i < L.length) (h0 : L[i].d0 < L.length) (h1 : L[i].d1 < L.length) (hn0 : L[i].d0 ≠ i) (hn1 : L[i].d1 ≠ i) (w1 : IntKind.i64.wrap (L[L[i].d0].whole + L[i].long) = L[L[i].d0].whole + L[i].long) (w2 : IntKind.i64.wrap (L[L[i].d0].whole + L[i].long + L[L[i].d1].whole) = L[L[i].d0].whole + L[i].long + L[L[i].d1].whole) : Calls Tryz.prog 119 #[rP b k, iV (i : Int)] w fun e w' => e = .returned (.tuple #[]) ∧ Things w' b k g cap (countL L i) ∧ Touch (· = g) w w' := by
  have hg := h.lt
  have HA : Hid (∀ W, Touch (fun _ => False) w W → W.heap[w.heap.size]? = some (.cells #[iV L[i].up, iV L[i].d0, iV L[i].d1, iV L[i].long, iV L[i].whole] 111) → SCnt b k g cap L.length w.heap.size L[i].d0 L[i].d1 L[i].long L[L[i].d0].whole L[L[i].d1].whole W ∧ SCnt b k g cap L.length w.heap.size L[i].d0 L[i].d1 L[i].long L[L[i].d0].whole L[L[i].d1].whole (W.setCell ⟨g, i * 5 + 4, none⟩ (iV (L[L[i].d0].whole + L[i].long + L[L[i].d1].whole))) ∧ Things (W.setCell ⟨g, i * 5 + 4, none⟩ (iV (L[L[i].d0].whole + L[i].long + L[L[i].d1].whole))) b k g cap (countL L i) ∧ W.frozen? ⟨g, i * 5 + 4, none⟩ = false ∧ ∃ v, W.cell? ⟨g, i * 5 + 4, none⟩ = some v) := fun W t hB => by
    have hW := h.keep t id id
    have hF : Things (W.setCell ⟨g, i * 5 + 4, none⟩ (iV (L[L[i].d0].whole + L[i].long + L[L[i].d1].whole))) b k g cap (countL L i) := by
      have := hW.st i hi 4 (by omega) (L[L[i].d0].whole + L[i].long + L[L[i].d1].whole) (.inr (by omega))
      unfold countL
      rw [gt_of hi, gt_of h0, gt_of h1]
      exact this
    have hl : (countL L i).length = L.length := st_len _ _ _ _
    have e0 : (countL L i)[L[i].d0]'(by omega) = L[L[i].d0] := by
      have := gt_st (f := 4) (y := (gt L (gt L i).d0).whole + (gt L i).long + (gt L (gt L i).d1).whole) (j := L[i].d0) hi
      rw [if_neg hn0, gt_of h0, gt_of (by rw [st_len]; exact h0)] at this
      exact this
    have e1 : (countL L i)[L[i].d1]'(by omega) = L[L[i].d1] := by
      have := gt_st (f := 4) (y := (gt L (gt L i).d0).whole + (gt L i).long + (gt L (gt L i).d1).whole) (j := L[i].d1) hi
      rw [if_neg hn1, gt_of h1, gt_of (by rw [st_len]; exact h1)] at this
      exact this
    have hB' : (W.setCell ⟨g, i * 5 + 4, none⟩ (iV (L[L[i].d0].whole + L[i].long + L[L[i].d1].whole))).heap[w.heap.size]? = some (.cells #[iV L[i].up, iV L[i].d0, iV L[i].d1, iV L[i].long, iV L[i].whole] 111) := by
      rw [Below.heap_setCell _ _ _ _ (by show w.heap.size ≠ g; omega)]; exact hB
    refine ⟨⟨hW.cell, by rw [cell_of_block hB]; rfl, by rw [cell_of_block hB]; rfl, by rw [cell_of_block hB]; rfl, (hW.th _ h0).c4, (hW.th _ h1).c4⟩, ⟨?_, by rw [cell_of_block hB']; rfl, by rw [cell_of_block hB']; rfl, by rw [cell_of_block hB']; rfl, ?_, ?_⟩, hF, hW.free _, hW.cellAt i hi 4 (by omega)⟩
    · have := hF.cell
      rw [hl] at this
      exact this
    · have := (hF.th L[i].d0 (by omega)).c4
      rw [e0] at this
      exact this
    · have := (hF.th L[i].d1 (by omega)).c4
      rw [e1] at this
      exact this
  have hc := h.cell
  have t1 := h.th i hi
  have q0 := t1.c0
  have q1 := t1.c1
  have q2 := t1.c2
  have q3 := t1.c3
  have q4 := t1.c4
  have l0 : (i : Int) < (L.length : Int) := by omega
  have l1 : (0 : Int) ≤ (i : Int) := by omega
  have l2 : (L[i].d0 : Int) < (L.length : Int) := by omega
  have l3 : (0 : Int) ≤ (L[i].d0 : Int) := by omega
  have l4 : (L[i].d1 : Int) < (L.length : Int) := by omega
  have l5 : (0 : Int) ≤ (L[i].d1 : Int) := by omega
  clear hn0 hn1 t1 h
  generalize L[L[i].d0].whole = wa at *
  generalize L[L[i].d1].whole = wb at *
  generalize L[i] = t at *
  generalize t.d0 = da at *
  generalize t.d1 = db at *
  generalize t.long = tl at *
  go_enter Tryz.func119, Tryz.ntmps119
  go_upto_region 1 with fail
  obtain ⟨W1, hW1⟩ : ∃ W, Hid (W = w.alloc (.cells #[iV t.up, iV (da : Int), iV (db : Int), iV tl, iV t.whole] 111)) := ⟨_, Eq.refl _⟩
  have HT1 : Hid (Touch (fun _ => False) w W1.drew) := by rw [hW1.out]; exact ((Touch.refl _ _).alloc _).drew
  have HB1 : Hid (W1.drew.heap[w.heap.size]? = some (.cells #[iV t.up, iV (da : Int), iV (db : Int), iV tl, iV t.whole] 111)) := by rw [hW1.out]; exact heap_alloc_new _ _
  first | rw [← hW1.out] | skip
  clear hW1
  obtain ⟨hS0, hS2', hF, z4, v4, c4⟩ := HA.out _ HT1.out HB1.out
  obtain ⟨W2, hW2⟩ : ∃ W, Hid (W = W1.drew.setCell ⟨g, i * 5 + 4, none⟩ (iV (wa + tl + wb))) := ⟨_, Eq.refl _⟩
  have HF2 : Hid (Things W2 b k g cap (countL L i) ∧ Touch (· = g) w W2) := by
    rw [hW2.out]
    exact ⟨hF, Touch.cellG ⟨HT1.out.os, HT1.out.tape, HT1.out.output, HT1.out.size, fun k hk hn => HT1.out.block k hk id⟩ _ _⟩
  have HS2 : Hid (SCnt b k g cap L.length w.heap.size da db tl wa wb W2) := by rw [hW2.out]; exact hS2'
  clear hF hS2' HA HT1 HB1 hc q0 q1 q2 q3 q4
  generalize L.length = n at *
  refine wp_region_held_drew (S := SCnt b k g cap n w.heap.size da db tl wa wb) (by kernel_rfl) hS0 (fun hHeld => ?_)
  generalize W1.drew = W3 at *
  refine wpAnyH_take (i := 0) (oi := { dst := some 12, op := Go.Op.move (Go.Operand.tmp 0), type := 132, pos := "row.go:159", after := #[], guard := none }) (v := rP b k) rfl (by kernel_rfl) (by kernel_rfl) (by kernel_rfl) (fun _ _ _ h => h) (Or.inl ⟨by rfl, ?_⟩) hHeld ?_
  · intro w hSw; clear hSw; go_simp
  simp only [Act.put, List.setIfInBounds_toArray, List.set_cons_succ, List.set_cons_zero]
  refine wpAnyH_take (i := 1) (oi := { dst := some 13, op := Go.Op.nilCheck (Go.Operand.tmp 12), type := 0, pos := "row.go:159", after := #[{ on := 0, ground := Go.Ground.data }], guard := none }) (v := .pointer (some ⟨b, k, none⟩)) rfl (by kernel_rfl) (by kernel_rfl) (by kernel_rfl) (fun _ _ _ h => h) (Or.inl ⟨by rfl, ?_⟩) hHeld ?_
  · intro w hSw; clear hSw; go_simp
  simp only [Act.put, List.setIfInBounds_toArray, List.set_cons_succ, List.set_cons_zero]
  refine wpAnyH_take (i := 2) (oi := { dst := some 14, op := Go.Op.fieldAddr 71 (Go.Operand.tmp 13) 0, type := 0, pos := "row.go:159", after := #[{ on := 1, ground := Go.Ground.data }], guard := none }) (v := .pointer (some ⟨b, k, none⟩)) rfl (by kernel_rfl) (by kernel_rfl) (by kernel_rfl) (fun _ _ _ h => h) (Or.inl ⟨by rfl, ?_⟩) hHeld ?_
  · intro w hSw; clear hSw; go_simp
  simp only [Act.put, List.setIfInBounds_toArray, List.set_cons_succ, List.set_cons_zero]
  refine wpAnyH_take (i := 3) (oi := { dst := some 15, op := Go.Op.load 69 (Go.Operand.tmp 14), type := 69, pos := "row.go:159", after := #[{ on := 2, ground := Go.Ground.data }], guard := none }) (v := .slice (some ⟨g, 0, none⟩) n cap) rfl (by kernel_rfl) (by kernel_rfl) (by kernel_rfl) (fun _ _ _ h => h) (Or.inl ⟨by rfl, ?_⟩) hHeld ?_
  · intro w hSw; obtain ⟨s1, s2, s3, s4, s5, s6⟩ := hSw; go_simp
  simp only [Act.put, List.setIfInBounds_toArray, List.set_cons_succ, List.set_cons_zero]
  refine wpAnyH_take (i := 4) (oi := { dst := some 16, op := Go.Op.move (Go.Operand.tmp 1), type := 3, pos := "row.go:159", after := #[], guard := none }) (v := iV (i : Int)) rfl (by kernel_rfl) (by kernel_rfl) (by kernel_rfl) (fun _ _ _ h => h) (Or.inl ⟨by rfl, ?_⟩) hHeld ?_
  · intro w hSw; clear hSw; go_simp
  simp only [Act.put, List.setIfInBounds_toArray, List.set_cons_succ, List.set_cons_zero]
  refine wpAnyH_take (i := 5) (oi := { dst := some 17, op := Go.Op.move (Go.Operand.tmp 0), type := 132, pos := "row.go:159", after := #[], guard := none }) (v := rP b k) rfl (by kernel_rfl) (by kernel_rfl) (by kernel_rfl) (fun _ _ _ h => h) (Or.inl ⟨by rfl, ?_⟩) hHeld ?_
  · intro w hSw; clear hSw; go_simp
  simp only [Act.put, List.setIfInBounds_toArray, List.set_cons_succ, List.set_cons_zero]
  refine wpAnyH_take (i := 6) (oi := { dst := some 18, op := Go.Op.nilCheck (Go.Operand.tmp 17), type := 0, pos := "row.go:159", after := #[{ on := 5, ground := Go.Ground.data }], guard := none }) (v := .pointer (some ⟨b, k, none⟩)) rfl (by kernel_rfl) (by kernel_rfl) (by kernel_rfl) (fun _ _ _ h => h) (Or.inl ⟨by rfl, ?_⟩) hHeld ?_
  · intro w hSw; clear hSw; go_simp
  simp only [Act.put, List.setIfInBounds_toArray, List.set_cons_succ, List.set_cons_zero]
  refine wpAnyH_take (i := 7) (oi := { dst := some 19, op := Go.Op.fieldAddr 71 (Go.Operand.tmp 18) 0, type := 0, pos := "row.go:159", after := #[{ on := 6, ground := Go.Ground.data }], guard := none }) (v := .pointer (some ⟨b, k, none⟩)) rfl (by kernel_rfl) (by kernel_rfl) (by kernel_rfl) (fun _ _ _ h => h) (Or.inl ⟨by rfl, ?_⟩) hHeld ?_
  · intro w hSw; clear hSw; go_simp
  simp only [Act.put, List.setIfInBounds_toArray, List.set_cons_succ, List.set_cons_zero]
  refine wpAnyH_take (i := 8) (oi := { dst := some 20, op := Go.Op.load 69 (Go.Operand.tmp 19), type := 69, pos := "row.go:159", after := #[{ on := 7, ground := Go.Ground.data }], guard := none }) (v := .slice (some ⟨g, 0, none⟩) n cap) rfl (by kernel_rfl) (by kernel_rfl) (by kernel_rfl) (fun _ _ _ h => h) (Or.inl ⟨by rfl, ?_⟩) hHeld ?_
  · intro w hSw; obtain ⟨s1, s2, s3, s4, s5, s6⟩ := hSw; go_simp
  simp only [Act.put, List.setIfInBounds_toArray, List.set_cons_succ, List.set_cons_zero]
  refine wpAnyH_take (i := 9) (oi := { dst := some 21, op := Go.Op.fieldAddr 111 (Go.Operand.tmp 4) 1, type := 0, pos := "row.go:159", after := #[], guard := none }) (v := .pointer (some ⟨w.heap.size, 1, none⟩)) rfl (by kernel_rfl) (by kernel_rfl) (by kernel_rfl) (fun _ _ _ h => h) (Or.inl ⟨by rfl, ?_⟩) hHeld ?_
  · intro w hSw; clear hSw; go_simp
  simp only [Act.put, List.setIfInBounds_toArray, List.set_cons_succ, List.set_cons_zero]
  refine wpAnyH_take (i := 10) (oi := { dst := some 22, op := Go.Op.indexAddr 109 (Go.Operand.tmp 21) (Go.Operand.const (Go.Value.int Go.IntKind.i64 0)), type := 0, pos := "row.go:159", after := #[{ on := 9, ground := Go.Ground.data }], guard := none }) (v := .pointer (some ⟨w.heap.size, 1, none⟩)) rfl (by kernel_rfl) (by kernel_rfl) (by kernel_rfl) (fun _ _ _ h => h) (Or.inl ⟨by rfl, ?_⟩) hHeld ?_
  · intro w hSw; clear hSw; go_simp
  simp only [Act.put, List.setIfInBounds_toArray, List.set_cons_succ, List.set_cons_zero]
  refine wpAnyH_take (i := 11) (oi := { dst := some 23, op := Go.Op.load 3 (Go.Operand.tmp 22), type := 3, pos := "row.go:159", after := #[{ on := 10, ground := Go.Ground.data }], guard := none }) (v := iV (da : Int)) rfl (by kernel_rfl) (by kernel_rfl) (by kernel_rfl) (fun _ _ _ h => h) (Or.inl ⟨by rfl, ?_⟩) hHeld ?_
  · intro w hSw; obtain ⟨s1, s2, s3, s4, s5, s6⟩ := hSw; go_simp
  simp only [Act.put, List.setIfInBounds_toArray, List.set_cons_succ, List.set_cons_zero]
  refine wpAnyH_take (i := 12) (oi := { dst := some 24, op := Go.Op.indexAddr 69 (Go.Operand.tmp 20) (Go.Operand.tmp 23), type := 0, pos := "row.go:159", after := #[{ on := 8, ground := Go.Ground.data }, { on := 11, ground := Go.Ground.data }], guard := none }) (v := .pointer (some ⟨g, da * 5, none⟩)) rfl (by kernel_rfl) (by kernel_rfl) (by kernel_rfl) (fun _ _ _ h => h) (Or.inl ⟨by rfl, ?_⟩) hHeld ?_
  · intro w hSw; clear hSw; go_simp
  simp only [Act.put, List.setIfInBounds_toArray, List.set_cons_succ, List.set_cons_zero]
  refine wpAnyH_take (i := 13) (oi := { dst := some 25, op := Go.Op.fieldAddr 111 (Go.Operand.tmp 24) 3, type := 0, pos := "row.go:159", after := #[{ on := 12, ground := Go.Ground.data }], guard := none }) (v := .pointer (some ⟨g, da * 5 + 4, none⟩)) rfl (by kernel_rfl) (by kernel_rfl) (by kernel_rfl) (fun _ _ _ h => h) (Or.inl ⟨by rfl, ?_⟩) hHeld ?_
  · intro w hSw; clear hSw; go_simp
  simp only [Act.put, List.setIfInBounds_toArray, List.set_cons_succ, List.set_cons_zero]
  refine wpAnyH_take (i := 14) (oi := { dst := some 26, op := Go.Op.load 3 (Go.Operand.tmp 25), type := 3, pos := "row.go:159", after := #[{ on := 13, ground := Go.Ground.data }], guard := none }) (v := iV wa) rfl (by kernel_rfl) (by kernel_rfl) (by kernel_rfl) (fun _ _ _ h => h) (Or.inl ⟨by rfl, ?_⟩) hHeld ?_
  · intro w hSw; obtain ⟨s1, s2, s3, s4, s5, s6⟩ := hSw; go_simp
  simp only [Act.put, List.setIfInBounds_toArray, List.set_cons_succ, List.set_cons_zero]
  refine wpAnyH_take (i := 15) (oi := { dst := some 27, op := Go.Op.fieldAddr 111 (Go.Operand.tmp 4) 2, type := 0, pos := "row.go:159", after := #[], guard := none }) (v := .pointer (some ⟨w.heap.size, 3, none⟩)) rfl (by kernel_rfl) (by kernel_rfl) (by kernel_rfl) (fun _ _ _ h => h) (Or.inl ⟨by rfl, ?_⟩) hHeld ?_
  · intro w hSw; clear hSw; go_simp
  simp only [Act.put, List.setIfInBounds_toArray, List.set_cons_succ, List.set_cons_zero]
  refine wpAnyH_take (i := 16) (oi := { dst := some 28, op := Go.Op.load 3 (Go.Operand.tmp 27), type := 3, pos := "row.go:159", after := #[{ on := 15, ground := Go.Ground.data }], guard := none }) (v := iV tl) rfl (by kernel_rfl) (by kernel_rfl) (by kernel_rfl) (fun _ _ _ h => h) (Or.inl ⟨by rfl, ?_⟩) hHeld ?_
  · intro w hSw; obtain ⟨s1, s2, s3, s4, s5, s6⟩ := hSw; go_simp
  simp only [Act.put, List.setIfInBounds_toArray, List.set_cons_succ, List.set_cons_zero]
  refine wpAnyH_take (i := 17) (oi := { dst := some 29, op := Go.Op.binOp Go.BinOp.add 3 (Go.Operand.tmp 26) (Go.Operand.tmp 28) 3, type := 3, pos := "row.go:159", after := #[{ on := 14, ground := Go.Ground.data }, { on := 16, ground := Go.Ground.data }], guard := none }) (v := iV (wa + tl)) rfl (by kernel_rfl) (by kernel_rfl) (by kernel_rfl) (fun _ _ _ h => h) (Or.inl ⟨by rfl, ?_⟩) hHeld ?_
  · intro w hSw; clear hSw; go_simp
  simp only [Act.put, List.setIfInBounds_toArray, List.set_cons_succ, List.set_cons_zero]
  refine wpAnyH_take (i := 18) (oi := { dst := some 30, op := Go.Op.move (Go.Operand.tmp 0), type := 132, pos := "row.go:159", after := #[], guard := none }) (v := rP b k) rfl (by kernel_rfl) (by kernel_rfl) (by kernel_rfl) (fun _ _ _ h => h) (Or.inl ⟨by rfl, ?_⟩) hHeld ?_
  · intro w hSw; clear hSw; go_simp
  simp only [Act.put, List.setIfInBounds_toArray, List.set_cons_succ, List.set_cons_zero]
  refine wpAnyH_take (i := 19) (oi := { dst := some 31, op := Go.Op.nilCheck (Go.Operand.tmp 30), type := 0, pos := "row.go:159", after := #[{ on := 18, ground := Go.Ground.data }], guard := none }) (v := .pointer (some ⟨b, k, none⟩)) rfl (by kernel_rfl) (by kernel_rfl) (by kernel_rfl) (fun _ _ _ h => h) (Or.inl ⟨by rfl, ?_⟩) hHeld ?_
  · intro w hSw; clear hSw; go_simp
  simp only [Act.put, List.setIfInBounds_toArray, List.set_cons_succ, List.set_cons_zero]
  refine wpAnyH_take (i := 20) (oi := { dst := some 32, op := Go.Op.fieldAddr 71 (Go.Operand.tmp 31) 0, type := 0, pos := "row.go:159", after := #[{ on := 19, ground := Go.Ground.data }], guard := none }) (v := .pointer (some ⟨b, k, none⟩)) rfl (by kernel_rfl) (by kernel_rfl) (by kernel_rfl) (fun _ _ _ h => h) (Or.inl ⟨by rfl, ?_⟩) hHeld ?_
  · intro w hSw; clear hSw; go_simp
  simp only [Act.put, List.setIfInBounds_toArray, List.set_cons_succ, List.set_cons_zero]
  refine wpAnyH_take (i := 21) (oi := { dst := some 33, op := Go.Op.load 69 (Go.Operand.tmp 32), type := 69, pos := "row.go:159", after := #[{ on := 20, ground := Go.Ground.data }], guard := none }) (v := .slice (some ⟨g, 0, none⟩) n cap) rfl (by kernel_rfl) (by kernel_rfl) (by kernel_rfl) (fun _ _ _ h => h) (Or.inl ⟨by rfl, ?_⟩) hHeld ?_
  · intro w hSw; obtain ⟨s1, s2, s3, s4, s5, s6⟩ := hSw; go_simp
  simp only [Act.put, List.setIfInBounds_toArray, List.set_cons_succ, List.set_cons_zero]
  refine wpAnyH_take (i := 22) (oi := { dst := some 34, op := Go.Op.fieldAddr 111 (Go.Operand.tmp 4) 1, type := 0, pos := "row.go:159", after := #[], guard := none }) (v := .pointer (some ⟨w.heap.size, 1, none⟩)) rfl (by kernel_rfl) (by kernel_rfl) (by kernel_rfl) (fun _ _ _ h => h) (Or.inl ⟨by rfl, ?_⟩) hHeld ?_
  · intro w hSw; clear hSw; go_simp
  simp only [Act.put, List.setIfInBounds_toArray, List.set_cons_succ, List.set_cons_zero]
  refine wpAnyH_take (i := 23) (oi := { dst := some 35, op := Go.Op.indexAddr 109 (Go.Operand.tmp 34) (Go.Operand.const (Go.Value.int Go.IntKind.i64 1)), type := 0, pos := "row.go:159", after := #[{ on := 22, ground := Go.Ground.data }], guard := none }) (v := .pointer (some ⟨w.heap.size, 2, none⟩)) rfl (by kernel_rfl) (by kernel_rfl) (by kernel_rfl) (fun _ _ _ h => h) (Or.inl ⟨by rfl, ?_⟩) hHeld ?_
  · intro w hSw; clear hSw; go_simp
  simp only [Act.put, List.setIfInBounds_toArray, List.set_cons_succ, List.set_cons_zero]
  refine wpAnyH_take (i := 24) (oi := { dst := some 36, op := Go.Op.load 3 (Go.Operand.tmp 35), type := 3, pos := "row.go:159", after := #[{ on := 23, ground := Go.Ground.data }], guard := none }) (v := iV (db : Int)) rfl (by kernel_rfl) (by kernel_rfl) (by kernel_rfl) (fun _ _ _ h => h) (Or.inl ⟨by rfl, ?_⟩) hHeld ?_
  · intro w hSw; obtain ⟨s1, s2, s3, s4, s5, s6⟩ := hSw; go_simp
  simp only [Act.put, List.setIfInBounds_toArray, List.set_cons_succ, List.set_cons_zero]
  refine wpAnyH_take (i := 25) (oi := { dst := some 37, op := Go.Op.indexAddr 69 (Go.Operand.tmp 33) (Go.Operand.tmp 36), type := 0, pos := "row.go:159", after := #[{ on := 21, ground := Go.Ground.data }, { on := 24, ground := Go.Ground.data }], guard := none }) (v := .pointer (some ⟨g, db * 5, none⟩)) rfl (by kernel_rfl) (by kernel_rfl) (by kernel_rfl) (fun _ _ _ h => h) (Or.inl ⟨by rfl, ?_⟩) hHeld ?_
  · intro w hSw; clear hSw; go_simp
  simp only [Act.put, List.setIfInBounds_toArray, List.set_cons_succ, List.set_cons_zero]
  refine wpAnyH_take (i := 26) (oi := { dst := some 38, op := Go.Op.fieldAddr 111 (Go.Operand.tmp 37) 3, type := 0, pos := "row.go:159", after := #[{ on := 25, ground := Go.Ground.data }], guard := none }) (v := .pointer (some ⟨g, db * 5 + 4, none⟩)) rfl (by kernel_rfl) (by kernel_rfl) (by kernel_rfl) (fun _ _ _ h => h) (Or.inl ⟨by rfl, ?_⟩) hHeld ?_
  · intro w hSw; clear hSw; go_simp
  simp only [Act.put, List.setIfInBounds_toArray, List.set_cons_succ, List.set_cons_zero]
  refine wpAnyH_take (i := 27) (oi := { dst := some 39, op := Go.Op.load 3 (Go.Operand.tmp 38), type := 3, pos := "row.go:159", after := #[{ on := 26, ground := Go.Ground.data }], guard := none }) (v := iV wb) rfl (by kernel_rfl) (by kernel_rfl) (by kernel_rfl) (fun _ _ _ h => h) (Or.inl ⟨by rfl, ?_⟩) hHeld ?_
  · intro w hSw; obtain ⟨s1, s2, s3, s4, s5, s6⟩ := hSw; go_simp
  simp only [Act.put, List.setIfInBounds_toArray, List.set_cons_succ, List.set_cons_zero]
  refine wpAnyH_take (i := 28) (oi := { dst := some 40, op := Go.Op.binOp Go.BinOp.add 3 (Go.Operand.tmp 29) (Go.Operand.tmp 39) 3, type := 3, pos := "row.go:159", after := #[{ on := 17, ground := Go.Ground.data }, { on := 27, ground := Go.Ground.data }], guard := none }) (v := iV (wa + tl + wb)) rfl (by kernel_rfl) (by kernel_rfl) (by kernel_rfl) (fun _ _ _ h => h) (Or.inl ⟨by rfl, ?_⟩) hHeld ?_
  · intro w hSw; clear hSw; go_simp
  simp only [Act.put, List.setIfInBounds_toArray, List.set_cons_succ, List.set_cons_zero]
  refine wpAnyH_take (i := 29) (oi := { dst := some 41, op := Go.Op.indexAddr 69 (Go.Operand.tmp 15) (Go.Operand.tmp 16), type := 0, pos := "row.go:159", after := #[{ on := 3, ground := Go.Ground.data }, { on := 4, ground := Go.Ground.data }, { on := 0, ground := Go.Ground.phase }, { on := 1, ground := Go.Ground.phase }, { on := 2, ground := Go.Ground.phase }, { on := 3, ground := Go.Ground.phase }, { on := 4, ground := Go.Ground.phase }, { on := 5, ground := Go.Ground.phase }, { on := 6, ground := Go.Ground.phase }, { on := 7, ground := Go.Ground.phase }, { on := 8, ground := Go.Ground.phase }, { on := 9, ground := Go.Ground.phase }, { on := 10, ground := Go.Ground.phase }, { on := 11, ground := Go.Ground.phase }, { on := 12, ground := Go.Ground.phase }, { on := 13, ground := Go.Ground.phase }, { on := 14, ground := Go.Ground.phase }, { on := 15, ground := Go.Ground.phase }, { on := 16, ground := Go.Ground.phase }, { on := 17, ground := Go.Ground.phase }, { on := 18, ground := Go.Ground.phase }, { on := 19, ground := Go.Ground.phase }, { on := 20, ground := Go.Ground.phase }, { on := 21, ground := Go.Ground.phase }, { on := 22, ground := Go.Ground.phase }, { on := 23, ground := Go.Ground.phase }, { on := 24, ground := Go.Ground.phase }, { on := 25, ground := Go.Ground.phase }, { on := 26, ground := Go.Ground.phase }, { on := 27, ground := Go.Ground.phase }, { on := 28, ground := Go.Ground.phase }], guard := none }) (v := .pointer (some ⟨g, i * 5, none⟩)) rfl (by kernel_rfl) (by kernel_rfl) (by kernel_rfl) (fun _ _ _ h => h) (Or.inl ⟨by rfl, ?_⟩) hHeld ?_
  · intro w hSw; clear hSw; go_simp
  simp only [Act.put, List.setIfInBounds_toArray, List.set_cons_succ, List.set_cons_zero]
  refine wpAnyH_take (i := 30) (oi := { dst := some 42, op := Go.Op.fieldAddr 111 (Go.Operand.tmp 41) 3, type := 0, pos := "row.go:159", after := #[{ on := 29, ground := Go.Ground.data }, { on := 0, ground := Go.Ground.phase }, { on := 1, ground := Go.Ground.phase }, { on := 2, ground := Go.Ground.phase }, { on := 3, ground := Go.Ground.phase }, { on := 4, ground := Go.Ground.phase }, { on := 5, ground := Go.Ground.phase }, { on := 6, ground := Go.Ground.phase }, { on := 7, ground := Go.Ground.phase }, { on := 8, ground := Go.Ground.phase }, { on := 9, ground := Go.Ground.phase }, { on := 10, ground := Go.Ground.phase }, { on := 11, ground := Go.Ground.phase }, { on := 12, ground := Go.Ground.phase }, { on := 13, ground := Go.Ground.phase }, { on := 14, ground := Go.Ground.phase }, { on := 15, ground := Go.Ground.phase }, { on := 16, ground := Go.Ground.phase }, { on := 17, ground := Go.Ground.phase }, { on := 18, ground := Go.Ground.phase }, { on := 19, ground := Go.Ground.phase }, { on := 20, ground := Go.Ground.phase }, { on := 21, ground := Go.Ground.phase }, { on := 22, ground := Go.Ground.phase }, { on := 23, ground := Go.Ground.phase }, { on := 24, ground := Go.Ground.phase }, { on := 25, ground := Go.Ground.phase }, { on := 26, ground := Go.Ground.phase }, { on := 27, ground := Go.Ground.phase }, { on := 28, ground := Go.Ground.phase }], guard := none }) (v := .pointer (some ⟨g, i * 5 + 4, none⟩)) rfl (by kernel_rfl) (by kernel_rfl) (by kernel_rfl) (fun _ _ _ h => h) (Or.inl ⟨by rfl, ?_⟩) hHeld ?_
  · intro w hSw; clear hSw; go_simp
  simp only [Act.put, List.setIfInBounds_toArray, List.set_cons_succ, List.set_cons_zero]
  refine wpAnyH_ready (rs := [31]) (by kernel_rfl) (by simp) ?_
  refine AllReadyH.cons (o := { dst := none, op := Go.Op.store 3 (Go.Operand.tmp 42) (Go.Operand.tmp 40), type := 0, pos := "row.go:159", after := #[{ on := 30, ground := Go.Ground.data }, { on := 28, ground := Go.Ground.data }, { on := 0, ground := Go.Ground.phase }, { on := 1, ground := Go.Ground.phase }, { on := 2, ground := Go.Ground.phase }, { on := 3, ground := Go.Ground.phase }, { on := 4, ground := Go.Ground.phase }, { on := 5, ground := Go.Ground.phase }, { on := 6, ground := Go.Ground.phase }, { on := 7, ground := Go.Ground.phase }, { on := 8, ground := Go.Ground.phase }, { on := 9, ground := Go.Ground.phase }, { on := 10, ground := Go.Ground.phase }, { on := 11, ground := Go.Ground.phase }, { on := 12, ground := Go.Ground.phase }, { on := 13, ground := Go.Ground.phase }, { on := 14, ground := Go.Ground.phase }, { on := 15, ground := Go.Ground.phase }, { on := 16, ground := Go.Ground.phase }, { on := 17, ground := Go.Ground.phase }, { on := 18, ground := Go.Ground.phase }, { on := 19, ground := Go.Ground.phase }, { on := 20, ground := Go.Ground.phase }, { on := 21, ground := Go.Ground.phase }, { on := 22, ground := Go.Ground.phase }, { on := 23, ground := Go.Ground.phase }, { on := 24, ground := Go.Ground.phase }, { on := 25, ground := Go.Ground.phase }, { on := 26, ground := Go.Ground.phase }, { on := 27, ground := Go.Ground.phase }, { on := 28, ground := Go.Ground.phase }], guard := none }) rfl (fun K hK => ?_) AllReadyH.nil
  go_simp
  rw [← hW2.out]
  have hS2 := HS2.out
  refine hK.out _ _ hS2 (fun hHeld => ?_)
  clear hK K hS2
  refine wpAnyH_done (by kernel_rfl) ?_ _
  try simp only [List.getElem_toArray, List.getElem_cons_succ, List.getElem_cons_zero, List.setIfInBounds_toArray, List.set_cons_succ, List.set_cons_zero]
  clear hHeld
  go_wp2_with fail
  go_end0
  exact ⟨rfl, HF2.out⟩
end Go.Proofs.YtnilikomoapcaaaGreat
