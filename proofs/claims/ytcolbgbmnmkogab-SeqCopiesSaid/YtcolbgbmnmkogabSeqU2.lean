/- Package seq: pieceOf. -/
import Derived.Test.YtcolbgbmnmkogabSeqU1
import Derived.Test.YtcolbgbmnmkogabSqI
namespace Go.Proofs.Ytcolbgbmnmkogab
open Go.RowKit
set_option linter.unusedVariables false
set_option linter.unusedSimpArgs false
set_option maxRecDepth 100000

theorem SeqM.unit {w : World} {B : Bk} {S : SS} (h : SeqM w B S) {x : Sp} (hx : SpOk S x) : Calls Try.prog 25 #[sP B, spV x] w fun e w' => e = .returned (.agg #[u64 (S.unit x).c, u64 (S.unit x).k, u64 (S.unit x).lc, u64 (S.unit x).lk, u64 (S.unit x).rc, u64 (S.unit x).rk]) ∧ Touch (fun _ => False) w w' :=
  unit_any h.runs x hx.1 hx.2.1 hx.2.2.1 hx.2.2.2
theorem SeqM.pc {w : World} {B : Bk} {S : SS} (h : SeqM w B S) {i : Nat} (hi : i < S.pcs.length) : w.cell? ⟨B.gp, i * 2, none⟩ = some (iV ((S.pc i).run : Int)) ∧ w.cell? ⟨B.gp, i * 2 + 1, none⟩ = some (u64 (S.pc i).pos) := by
  rw [SS.pc_of hi]
  exact h.pcs.sp i hi
/-- A unit's id. -/
theorem fldId (a b c d e f : Value) (W : World) : (Instr.field 33 (.agg #[a, b, c, d, e, f]) 0).run Try.prog W = .ok (.agg #[a, b]) W := by kernel_rfl
theorem less_touch (a b c d : Int) (w : World) : Calls Try.prog 50 #[idV a b, idV c d] w fun e w' => e = .returned (.bool (lessI a b c d)) ∧ Touch (fun _ => False) w w' :=
  (less_any a b c d w).mono fun e w' h => ⟨h.1, by rw [h.2]; exact ((Touch.refl _ _).alloc _).alloc _⟩
set_option maxHeartbeats 8000000 in
theorem ask_any {w : World} {B : Bk} {S : SS} (h : SeqM w B S) (hI : Inv S) (bi bs : Nat) (c k : Int) (hbi : w.heap[bi]? = some (idO c k)) (hbs : w.heap[bs]? = some (.cells #[sP B] 24)) (i : Nat) (hi : i < S.pcs.length) :
    Calls Try.prog 49 #[iV (i : Int), .pointer (some ⟨bi, 0, none⟩), .pointer (some ⟨bs, 0, none⟩)] w fun e w' => e = .returned (.bool (S.holds c k i)) ∧ Touch (fun _ => False) w w' := by
  have HS : Hid (∀ W, Touch (fun _ => False) w W → W.cell? ⟨bi, 0, none⟩ = some (u64 c) ∧ W.cell? ⟨bi, 1, none⟩ = some (u64 k) ∧ W.cell? ⟨bs, 0, none⟩ = some (sP B) ∧ W.cell? ⟨B.b, 1, none⟩ = some (.slice (some ⟨B.gp, 0, none⟩) S.pcs.length B.kp) ∧ W.cell? ⟨B.gp, i * 2, none⟩ = some (iV ((S.pc i).run : Int)) ∧ W.cell? ⟨B.gp, i * 2 + 1, none⟩ = some (u64 (S.pc i).pos) ∧ Hid (Touch (fun _ => False) w W)) := fun W t => by
    have hW := h.keep0 t
    have q := hW.pc hi
    refine ⟨?_, ?_, ?_, hW.pcs.cell, q.1, q.2, t⟩
    · rw [cell_of_block (heap_keep t hbi)]; rfl
    · rw [cell_of_block (heap_keep t hbi)]; rfl
    · rw [cell_of_block (heap_keep t hbs)]; rfl
  have HU : Hid (∀ W, Touch (fun _ => False) w W → Calls Try.prog 25 #[sP B, .agg #[iV ((S.pc i).run : Int), u64 (S.pc i).pos]] W fun e w' => e = .returned (.agg #[u64 (S.first i).c, u64 (S.first i).k, u64 (S.first i).lc, u64 (S.first i).lk, u64 (S.first i).rc, u64 (S.first i).rk]) ∧ Touch (fun _ => False) W w') := fun W t => (h.keep0 t).unit (hI.spOk hi)
  have HL : Hid (∀ W, Calls Try.prog 50 #[idV c k, idV (S.first i).c (S.first i).k] W fun e w' => e = .returned (.bool (lessI c k (S.first i).c (S.first i).k)) ∧ Touch (fun _ => False) W w') := fun W => less_touch _ _ _ _ _
  unfold SS.holds
  have l0 : (i : Int) < (S.pcs.length : Int) := by omega
  have l1 : (0 : Int) ≤ (i : Int) := by omega
  generalize lessI c k (S.first i).c (S.first i).k = res at *
  generalize S.first i = u at *
  obtain ⟨uc, uk, ulc, ulk, urc, urk⟩ := u
  generalize (S.pc i).run = xr at *
  generalize (S.pc i).pos = xp at *
  generalize S.pcs.length = n at *
  simp only at HL HU
  have S0 := HS.out _ (Touch.refl _ w).drew
  have hf0 := fldId
  clear h hI hi hbi hbs
  go_enter Try.func49, Try.ntmps49
  go_wp2_with fail
  go_region_held3 (fun W => W.cell? ⟨bi, 0, none⟩ = some (u64 c) ∧ W.cell? ⟨bi, 1, none⟩ = some (u64 k) ∧ W.cell? ⟨bs, 0, none⟩ = some (sP B) ∧ W.cell? ⟨B.b, 1, none⟩ = some (.slice (some ⟨B.gp, 0, none⟩) n B.kp) ∧ W.cell? ⟨B.gp, i * 2, none⟩ = some (iV (xr : Int)) ∧ W.cell? ⟨B.gp, i * 2 + 1, none⟩ = some (u64 xp) ∧ Hid (Touch (fun _ => False) w W)) (first | assumption)
    (first
      | (go_at_call 25; (with_reducible refine (HU.out _ (Touch.refl _ w).drew).mono ?_); rintro e w1 ⟨rfl, t1⟩; have hS2 := HS.out w1 ((Touch.refl _ w).drew.trans t1); clear t1)
      | (go_at_call 50; (with_reducible refine (HL.out _).mono ?_); rintro e w2 ⟨rfl, t2⟩; have hS3 := HS.out w2 (hS2.2.2.2.2.2.2.out.trans t2); clear t2))
  all_goals (try go_wp2_with fail)
  all_goals go_ret
  all_goals exact ⟨rfl, hS3.2.2.2.2.2.2.out⟩
set_option maxHeartbeats 4000000 in
theorem pieceOf_any {w : World} {B : Bk} {S : SS} (h : SeqM w B S) (hI : Inv S) (c k : Int) :
    Calls Try.prog 28 #[sP B, idV c k] w fun e w' => e = .returned (iV (S.piece c k : Int)) ∧ Touch (fun _ => False) w w' := by
  have hT : Touch (fun _ => False) w ((w.alloc (.cells #[sP B] 24)).alloc (idO c k)) := ((Touch.refl _ _).alloc _).alloc _
  have hw := heap_two w (.cells #[sP B] 24) (idO c k)
  have HL : Hid (Calls Try.prog 48 #[rP B.b 3, .func (.func 49) #[] #[.pointer (some ⟨w.heap.size + 1, 0, none⟩), .pointer (some ⟨w.heap.size, 0, none⟩)]] ((w.alloc (.cells #[sP B] 24)).alloc (idO c k)) fun e w' => e = .returned (iV (S.piece c k : Int)) ∧ Touch (fun _ => False) ((w.alloc (.cells #[sP B] 24)).alloc (idO c k)) w') :=
    r_last (h.keep0 hT).idx (S.holds c k) (hI.mono c k) _ _ (fun W x t hx => ask_any (h.keep0 (hT.trans t)) hI _ _ c k (heap_keep t hw.2) (heap_keep t hw.1) x ((hI.idxF.lab x).1 hx).2)
  have HT : Hid (Touch (fun _ => False) w ((w.alloc (.cells #[sP B] 24)).alloc (idO c k))) := hT
  generalize S.piece c k = res at *
  clear h hI hT hw
  go_enter Try.func28, Try.ntmps28
  go_wp2_with fail
  refine HL.out.mono ?_
  rintro e w1 ⟨rfl, t1⟩
  go_wp2_with fail
  go_ret
  exact ⟨rfl, HT.out.trans t1⟩
end Go.Proofs.Ytcolbgbmnmkogab
