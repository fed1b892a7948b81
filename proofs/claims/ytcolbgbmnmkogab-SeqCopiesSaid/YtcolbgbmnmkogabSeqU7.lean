/- Package seq: endOf. -/
import Derived.Test.YtcolbgbmnmkogabSeqU5
namespace Go.Proofs.Ytcolbgbmnmkogab
open Go.RowKit
set_option linter.unusedVariables false
set_option linter.unusedSimpArgs false
set_option maxRecDepth 100000

set_option maxHeartbeats 8000000 in
theorem endOf_any {w : World} {B : Bk} {S : SS} (h : SeqM w B S) (i : Nat) (hi : i < S.pcs.length) (h0 : 0 ≤ (S.pc i).pos) (hb : 0 ≤ S.len i ∧ (S.pc i).pos + S.len i ≤ 9007199254740992) :
    Calls Try.prog 59 #[sP B, iV (i : Int)] w fun e w' => e = .returned (.agg #[iV ((S.endOf i).run : Int), u64 (S.endOf i).pos]) ∧ Touch (fun _ => False) w w' := by
  obtain ⟨E, hE⟩ : ∃ E, Hid (E = w.alloc zeroSO) := ⟨_, Eq.refl _⟩
  have HTE : Hid (Touch (fun _ => False) w E) := by rw [hE.out]; exact (Touch.refl _ _).alloc _
  have HEB : Hid (E.heap[w.heap.size]? = some (spO ⟨0, 0⟩)) := by rw [hE.out]; exact heap_alloc_new _ _
  have HC : Hid (∀ W, Touch (fun _ => False) E W → W.cell? ⟨B.b, 1, none⟩ = some (.slice (some ⟨B.gp, 0, none⟩) S.pcs.length B.kp) ∧ W.cell? ⟨B.gp, i * 2, none⟩ = some (iV ((S.pc i).run : Int)) ∧ W.cell? ⟨B.gp, i * 2 + 1, none⟩ = some (u64 (S.pc i).pos)) := fun W t => by
    have hW := h.keep0 (HTE.out.trans t)
    exact ⟨hW.pcs.cell, hW.pc hi⟩
  have HLn : Hid (∀ W, Touch (fun _ => False) E W → Calls Try.prog 29 #[rP B.b 2, iV (i : Int)] W fun e w' => e = .returned (iV (S.len i)) ∧ w' = W) := fun W t => r_lengthOf (h.keep0 (HTE.out.trans t)).ord _ hi
  unfold SS.endOf
  simp only
  have l0 : (i : Int) < (S.pcs.length : Int) := by omega
  have l1 : (0 : Int) ≤ (i : Int) := by omega
  generalize S.len i = ln at *
  generalize (S.pc i).run = xr at *
  generalize (S.pc i).pos = xp at *
  generalize S.pcs.length = n at *
  have e1 : IntKind.u64.wrap ln = ln := by rw [IntKind.wrap_u64]; omega
  have e2 : IntKind.u64.wrap (xp + ln) = xp + ln := by rw [IntKind.wrap_u64]; omega
  obtain ⟨q1, q2, q3⟩ := HC.out E (Touch.refl _ _)
  clear h hi h0 hb
  go_enter Try.func59, Try.ntmps59
  go_upto_region 1 with fail
  rw [← hE.out]
  clear hE
  go_upto_region 2 with fail
  clear q1 q2 q3
  obtain ⟨we, hwe⟩ : ∃ W, Hid (W = E.alloc (.cells #[iV (xr : Int), u64 xp] 47)) := ⟨_, Eq.refl _⟩
  have HB : Hid (Touch (fun _ => False) E we ∧ E.heap.size ≤ E.heap.size ∧ we.heap[E.heap.size]? = some (spO ⟨xr, xp⟩)) := by rw [hwe.out]; exact ⟨(Touch.refl _ _).alloc _, Nat.le_refl _, heap_alloc_new _ _⟩
  rw [← hwe.out]
  clear hwe
  have HM : Hid (∀ W, Touch (fun _ => False) we W → (W.cell? ⟨E.heap.size, 1, none⟩ = some (u64 xp) ∧ W.frozen? ⟨E.heap.size, 1, none⟩ = false) ∧ Touch (fun _ => False) E W ∧ W.heap[E.heap.size]? = some (spO ⟨xr, xp⟩)) := fun W t => by
    have a := heap_keep t HB.out.2.2
    have b := spO_cells a
    exact ⟨⟨b.2.1, b.2.2.2⟩, HB.out.1.trans t, a⟩
  obtain ⟨m, hm⟩ : ∃ m, Hid (m = E.heap.size) := ⟨_, Eq.refl _⟩
  rw [← hm.out] at HM HB ⊢
  go_cut [5] (fun t wx => t = .pointer (some ⟨m, 0, none⟩) ∧ Hid (Touch (fun _ => False) E wx ∧ wx.heap[m]? = some (spO ⟨xr, xp + ln⟩)))
  case first =>
    obtain ⟨⟨k1, k2⟩, -⟩ := HM.out _ (Touch.refl _ we).drew
    go_wp2_with fail
    go_region_with (go_at_call 29; (with_reducible refine (HLn.out _ (HM.out _ (Touch.refl _ we).drew).2.1).mono ?_); rintro e w1 ⟨rfl, rfl⟩)
    all_goals (try go_wp2_with fail)
    all_goals go_meet
    all_goals (case rel => exact ⟨rfl, (HB.out.1.drew).fresh _ _ _ (Nat.le_of_eq hm.out.symm), spO_set1 (HM.out _ (Touch.refl _ we).drew).2.2⟩)
  case rest =>
    obtain ⟨rfl, HD⟩ := hcut
    obtain ⟨wf, hwf⟩ : ∃ we, we = wc := ⟨_, rfl⟩
    subst hwf
    obtain ⟨k0, k1, -, -⟩ := spO_cells HD.out.2
    have k2 := heap_keep HD.out.1 HEB.out
    obtain ⟨r0, r1, z0, z1⟩ := spO_cells k2
    obtain ⟨B0, hB0⟩ : ∃ m, Hid (m = w.heap.size) := ⟨_, Eq.refl _⟩
    rw [← hB0.out] at k2 r0 r1 z0 z1 ⊢
    have HF : Hid (Touch (fun _ => False) w ((wf.setCell ⟨B0, 0, none⟩ (iV (xr : Int))).setCell ⟨B0, 1, none⟩ (u64 (xp + ln)))) := by
      have hb : w.heap.size ≤ B0 := by rw [hB0.out]; omega
      exact ((HTE.out.trans HD.out.1).fresh _ _ _ hb).fresh _ _ _ hb
    have u0 : (wf.setCell ⟨B0, 0, none⟩ (iV (xr : Int))).cell? ⟨B0, 1, none⟩ = some (u64 0) := by rw [cell_of_block (heap_setCell_same _ _ _ _ k2)]; rfl
    obtain ⟨v0, v1, -, -⟩ := spO_cells (spO_set (yr := xr) (yp := xp + ln) k2)
    clear k2
    go_wp2_with fail
    refine bodyPost_ret (v := .agg #[iV (xr : Int), u64 (xp + ln)]) (by simp [results, Try.results59, go_sem, v0, v1]) rfl ?_
    exact ⟨rfl, HF.out⟩
end Go.Proofs.Ytcolbgbmnmkogab
