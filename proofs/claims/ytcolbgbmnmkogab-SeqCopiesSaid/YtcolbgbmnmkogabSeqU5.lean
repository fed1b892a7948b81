/- Package seq: spotAt, endOf. -/
import Derived.Test.YtcolbgbmnmkogabSeqU3
namespace Go.Proofs.Ytcolbgbmnmkogab
open Go.RowKit
set_option linter.unusedVariables false
set_option linter.unusedSimpArgs false
set_option maxRecDepth 100000

abbrev zeroSO : Obj := .cells #[iV 0, u64 0] 47
theorem Inv.spotAtOk {S : SS} (h : Inv S) (p : Int) : SpOk S (S.spotAt p) ∧ 0 ≤ (S.pc (atF S.len S.ord p).1).pos ∧ (S.spotAt p).pos ≤ 9007199254740992 := by
  obtain ⟨a, b, c⟩ := h.atOk p
  obtain ⟨d, e, f, g, i⟩ := h.pcOk a
  unfold SS.spotAt SpOk
  simp only
  exact ⟨⟨d, by omega, f, by omega⟩, e, by omega⟩
theorem Inv.endOk {S : SS} (h : Inv S) {i : Nat} (hi : i < S.pcs.length) : SpOk S (S.endOf i) ∧ 0 ≤ (S.pc i).pos ∧ (S.endOf i).pos ≤ 9007199254740992 := by
  obtain ⟨d, e, f, g, j⟩ := h.pcOk hi
  unfold SS.endOf SpOk
  simp only
  exact ⟨⟨d, by omega, f, by omega⟩, e, by omega⟩
/-- A spot that was answered: two cells laid into the result's box. -/
theorem spot_laid {w W2 : World} {xr : Nat} {xp : Int} (t : Touch (fun _ => False) (w.alloc zeroSO) W2) :
    (W2.alloc (spO ⟨xr, xp⟩)).cell? ⟨W2.heap.size, 0, none⟩ = some (iV (xr : Int)) ∧ (W2.alloc (spO ⟨xr, xp⟩)).cell? ⟨W2.heap.size, 1, none⟩ = some (u64 xp) ∧ (W2.alloc (spO ⟨xr, xp⟩)).heap[w.heap.size]? = some zeroSO ∧ Touch (fun k => k = w.heap.size) w (W2.alloc (spO ⟨xr, xp⟩)) := by
  have e := heap_alloc_new W2 (spO ⟨xr, xp⟩)
  have hz := heap_keep t (heap_alloc_new w zeroSO)
  refine ⟨by rw [cell_of_block e]; rfl, by rw [cell_of_block e]; rfl, (Below.heap_alloc _ _ _ (lt_of_heap hz)).trans hz, ?_⟩
  exact ((((Touch.refl (fun _ => False) w).alloc zeroSO).trans t).alloc _).mono fun _ _ h => False.elim h
set_option maxHeartbeats 8000000 in
theorem spotAt_any {w : World} {B : Bk} {S : SS} (h : SeqM w B S) (hI : Inv S) (p : Int) (hp : -4611686018427387904 ≤ p ∧ p ≤ 4611686018427387904) :
    Calls Try.prog 26 #[sP B, iV p] w fun e w' => e = .returned (.agg #[iV ((S.spotAt p).run : Int), u64 (S.spotAt p).pos]) ∧ Touch (fun _ => False) w w' := by
  obtain ⟨ha, hb, hc⟩ := hI.atOk p
  have hbd := (hI.spotAtOk p).2
  have hT1 : Touch (fun _ => False) w (w.alloc zeroSO) := (Touch.refl _ _).alloc _
  have HA : Hid (Calls Try.prog 46 #[rP B.b 2, iV p] (w.alloc zeroSO) fun e w' => e = .returned (.tuple #[iV ((atF S.len S.ord p).1 : Int), iV (atF S.len S.ord p).2]) ∧ Touch (fun _ => False) (w.alloc zeroSO) w') := r_at (h.keep0 hT1).ord (Int.le_trans hI.smax (by decide)) p hp
  have HC : Hid (∀ W, Touch (fun _ => False) (w.alloc zeroSO) W → (W.cell? ⟨B.b, 1, none⟩ = some (.slice (some ⟨B.gp, 0, none⟩) S.pcs.length B.kp) ∧ W.cell? ⟨B.gp, (atF S.len S.ord p).1 * 2, none⟩ = some (iV ((S.pc (atF S.len S.ord p).1).run : Int)) ∧ W.cell? ⟨B.gp, (atF S.len S.ord p).1 * 2 + 1, none⟩ = some (u64 (S.pc (atF S.len S.ord p).1).pos)) ∧ W.heap[w.heap.size]? = some zeroSO) := fun W t => by
    have hW := h.keep0 (hT1.trans t)
    exact ⟨⟨hW.pcs.cell, hW.pc ha⟩, heap_keep t (heap_alloc_new w _)⟩
  have HTr : Hid (∀ W, Touch (fun _ => False) (w.alloc zeroSO) W → Touch (fun k => k = w.heap.size) w W ∧ w.heap.size < W.heap.size) := fun W t => ⟨(hT1.trans t).mono fun _ _ h => False.elim h, Nat.lt_of_lt_of_le (by simp) t.size⟩
  unfold SS.spotAt at hbd ⊢
  simp only at hbd ⊢
  have l0 : ((atF S.len S.ord p).1 : Int) < (S.pcs.length : Int) := by omega
  have l1 : (0 : Int) ≤ ((atF S.len S.ord p).1 : Int) := by omega
  have hln := hI.len_le (atF S.len S.ord p).1
  generalize S.len (atF S.len S.ord p).1 = ln at *
  generalize (S.pc (atF S.len S.ord p).1).run = xr at *
  generalize (S.pc (atF S.len S.ord p).1).pos = xp at *
  generalize (atF S.len S.ord p).1 = i at *
  generalize (atF S.len S.ord p).2 = wi at *
  generalize S.pcs.length = n at *
  have e1 : IntKind.u64.wrap wi = wi := by rw [IntKind.wrap_u64]; omega
  have e2 : IntKind.u64.wrap (xp + wi) = xp + wi := by rw [IntKind.wrap_u64]; omega
  clear h hI ha hb hc hbd hp hT1 hln
  go_enter Try.func26, Try.ntmps26
  go_wp2_with fail
  refine HA.out.mono ?_
  rintro e W2 ⟨rfl, t2⟩
  have HT2 : Hid (Touch (fun _ => False) (w.alloc zeroSO) W2) := t2
  clear t2 HA
  obtain ⟨⟨q1, q2, q3⟩, q4⟩ := HC.out W2 HT2.out
  obtain ⟨B0, hB0⟩ : ∃ m, Hid (m = w.heap.size) := ⟨_, Eq.refl _⟩
  rw [← hB0.out] at q4 HTr ⊢
  have r0 : W2.cell? ⟨B0, 0, none⟩ = some (iV 0) := by rw [cell_of_block q4]; rfl
  have r1 : W2.cell? ⟨B0, 1, none⟩ = some (u64 0) := by rw [cell_of_block q4]; rfl
  have z0 : W2.frozen? ⟨B0, 0, none⟩ = false := free_of_block q4
  have z1 : W2.frozen? ⟨B0, 1, none⟩ = false := free_of_block q4
  go_upto_region 4 with fail
  have HB1 : Hid (B0 < W2.heap.size) := lt_of_heap q4
  clear r0 r1 z0 z1 q1 q2 q3 q4 HC
  obtain ⟨W4, hW4⟩ : ∃ W, Hid (W = W2.alloc (.cells #[iV (xr : Int), u64 (xp + wi)] 47)) := ⟨_, Eq.refl _⟩
  have H4 := spot_laid (xr := xr) (xp := xp + wi) HT2.out
  rw [← hW4.out]
  rw [show W2.alloc (spO ⟨xr, xp + wi⟩) = W4 from hW4.out.symm, ← hB0.out] at H4
  obtain ⟨k0, k1, k2, t4⟩ := H4
  have HT4 : Hid (Touch (fun k => k = B0) w W4) := t4
  clear t4 hW4
  generalize W2.heap.size = m at *
  have r0 : W4.cell? ⟨B0, 0, none⟩ = some (iV 0) := by rw [cell_of_block k2]; rfl
  have r1 : W4.cell? ⟨B0, 1, none⟩ = some (u64 0) := by rw [cell_of_block k2]; rfl
  have z0 : W4.frozen? ⟨B0, 0, none⟩ = false := free_of_block k2
  have z1 : W4.frozen? ⟨B0, 1, none⟩ = false := free_of_block k2
  have HF : Hid (Touch (fun _ => False) w ((W4.setCell ⟨B0, 0, none⟩ (iV (xr : Int))).setCell ⟨B0, 1, none⟩ (u64 (xp + wi)))) := by
    refine ((HT4.out.setCell _ _ fun _ => rfl).setCell _ _ fun _ => rfl).mono fun k hk h => ?_
    have e : k = B0 := h
    have := hB0.out
    omega
  have u0 : (W4.setCell ⟨B0, 0, none⟩ (iV (xr : Int))).cell? ⟨B0, 1, none⟩ = some (u64 0) := by rw [cell_of_block (heap_setCell_same _ _ _ _ k2)]; rfl
  have v0 : ((W4.setCell ⟨B0, 0, none⟩ (iV (xr : Int))).setCell ⟨B0, 1, none⟩ (u64 (xp + wi))).cell? ⟨B0, 0, none⟩ = some (iV (xr : Int)) := by rw [cell_of_block (heap_setCell_same _ _ _ _ (heap_setCell_same _ _ _ _ k2))]; rfl
  have v1 : ((W4.setCell ⟨B0, 0, none⟩ (iV (xr : Int))).setCell ⟨B0, 1, none⟩ (u64 (xp + wi))).cell? ⟨B0, 1, none⟩ = some (u64 (xp + wi)) := by rw [cell_of_block (heap_setCell_same _ _ _ _ (heap_setCell_same _ _ _ _ k2))]; rfl
  clear k2
  go_wp2_with fail
  refine bodyPost_ret (v := .agg #[iV (xr : Int), u64 (xp + wi)]) (by simp [results, Try.results26, go_sem, v0, v1]) rfl ?_
  exact ⟨rfl, HF.out⟩
theorem spO_cells {W : World} {n xr : Nat} {xp : Int} (h : W.heap[n]? = some (spO ⟨xr, xp⟩)) : W.cell? ⟨n, 0, none⟩ = some (iV (xr : Int)) ∧ W.cell? ⟨n, 1, none⟩ = some (u64 xp) ∧ W.frozen? ⟨n, 0, none⟩ = false ∧ W.frozen? ⟨n, 1, none⟩ = false := ⟨by rw [cell_of_block h]; rfl, by rw [cell_of_block h]; rfl, free_of_block h, free_of_block h⟩
theorem fldClock (a b : Value) (W : World) : (Instr.field 31 (.agg #[a, b]) 1).run Try.prog W = .ok b W := by kernel_rfl
/-- Both cells of a spot's box laid anew. -/
theorem spO_set {W : World} {n xr yr : Nat} {xp yp : Int} (h : W.heap[n]? = some (spO ⟨xr, xp⟩)) : ((W.setCell ⟨n, 0, none⟩ (iV (yr : Int))).setCell ⟨n, 1, none⟩ (u64 yp)).heap[n]? = some (spO ⟨yr, yp⟩) :=
  heap_setCell_same _ _ _ _ (heap_setCell_same _ _ _ _ h)
theorem spO_set1 {W : World} {n xr : Nat} {xp yp : Int} (h : W.heap[n]? = some (spO ⟨xr, xp⟩)) : (W.setCell ⟨n, 1, none⟩ (u64 yp)).heap[n]? = some (spO ⟨xr, yp⟩) := heap_setCell_same _ _ _ _ h
/-- A new block may be laid anew. -/
theorem Touch.fresh {a b : World} (h : Touch (fun _ => False) a b) (n o : Nat) (v : Value) (hn : a.heap.size ≤ n) : Touch (fun _ => False) a (b.setCell ⟨n, o, none⟩ v) :=
  h.setCell _ _ fun h' => absurd h' (by simpa using hn)
end Go.Proofs.Ytcolbgbmnmkogab
