/- Package seq: Find. -/
import Derived.Test.YtcolbgbmnmkogabSeqU2
namespace Go.Proofs.Ytcolbgbmnmkogab
open Go.RowKit
set_option linter.unusedVariables false
set_option linter.unusedSimpArgs false
set_option maxRecDepth 100000

theorem Touch.drewN {S : Nat → Prop} {a b : World} (h : Touch S a b) (n : Nat) : Touch S a (b.drewN n) := ⟨h.os, h.tape, h.output, h.size, h.block⟩
/-- An id's box. -/
theorem idO_cells {W : World} {n : Nat} {c k : Int} (h : W.heap[n]? = some (idO c k)) : W.cell? ⟨n, 0, none⟩ = some (u64 c) ∧ W.cell? ⟨n, 1, none⟩ = some (u64 k) := ⟨by rw [cell_of_block h]; rfl, by rw [cell_of_block h]; rfl⟩
set_option maxHeartbeats 8000000 in
theorem find_any {w : World} {B : Bk} {S : SS} (h : SeqM w B S) (hI : Inv S) (c k : Int) (hc : 0 ≤ c) (hk : 0 ≤ k) (hk2 : k < 18446744073709551616) :
    Calls Try.prog 14 #[sP B, idV c k] w fun e w' => e = .returned (iV (S.find c k)) ∧ Touch (fun _ => False) w w' := by
  have hpl := hI.piece_lt c k
  have hle := hI.piece_le c k hc hk
  have hfo := hI.firstOk hpl
  have hap := hI.ahead_le (S.piece c k)
  have hln := hI.len_le (S.piece c k)
  have hT1 : Touch (fun _ => False) w (w.alloc (idO c k)) := (Touch.refl _ _).alloc _
  have HB : Hid (∀ W, Touch (fun _ => False) (w.alloc (idO c k)) W → W.cell? ⟨w.heap.size, 0, none⟩ = some (u64 c) ∧ W.cell? ⟨w.heap.size, 1, none⟩ = some (u64 k)) := fun W t => idO_cells (heap_keep t (heap_alloc_new w _))
  have HTr : Hid (∀ W, Touch (fun _ => False) (w.alloc (idO c k)) W → Touch (fun _ => False) w W) := fun W t => hT1.trans t
  have HP : Hid (Calls Try.prog 28 #[sP B, .agg #[u64 c, u64 k]] (w.alloc (idO c k)) fun e w' => e = .returned (iV (S.piece c k : Int)) ∧ Touch (fun _ => False) (w.alloc (idO c k)) w') := pieceOf_any (h.keep0 hT1) hI c k
  have HC : Hid (∀ W, Touch (fun _ => False) (w.alloc (idO c k)) W → W.cell? ⟨B.b, 1, none⟩ = some (.slice (some ⟨B.gp, 0, none⟩) S.pcs.length B.kp) ∧ W.cell? ⟨B.gp, S.piece c k * 2, none⟩ = some (iV ((S.pc (S.piece c k)).run : Int)) ∧ W.cell? ⟨B.gp, S.piece c k * 2 + 1, none⟩ = some (u64 (S.pc (S.piece c k)).pos)) := fun W t => by
    have hW := h.keep0 (hT1.trans t)
    exact ⟨hW.pcs.cell, hW.pc hpl⟩
  have HU : Hid (∀ W, Touch (fun _ => False) (w.alloc (idO c k)) W → Calls Try.prog 25 #[sP B, .agg #[iV ((S.pc (S.piece c k)).run : Int), u64 (S.pc (S.piece c k)).pos]] W fun e w' => e = .returned (.agg #[u64 (S.first (S.piece c k)).c, u64 (S.first (S.piece c k)).k, u64 (S.first (S.piece c k)).lc, u64 (S.first (S.piece c k)).lk, u64 (S.first (S.piece c k)).rc, u64 (S.first (S.piece c k)).rk]) ∧ Touch (fun _ => False) W w') := fun W t => (h.keep0 (hT1.trans t)).unit (hI.spOk hpl)
  have HLn : Hid (∀ W, Touch (fun _ => False) (w.alloc (idO c k)) W → Calls Try.prog 29 #[rP B.b 2, iV (S.piece c k : Int)] W fun e w' => e = .returned (iV (S.len (S.piece c k))) ∧ w' = W) := fun W t => r_lengthOf (h.keep0 (hT1.trans t)).ord _ hpl
  have HA : Hid (S.piece c k ≠ 0 → ∀ W, Touch (fun _ => False) (w.alloc (idO c k)) W → Calls Try.prog 30 #[rP B.b 2, iV (S.piece c k : Int)] W fun e w' => e = .returned (iV (aheadF S.len S.ord (S.piece c k))) ∧ Touch (fun _ => False) W w') := fun h0 W t => r_ahead (h.keep0 (hT1.trans t)).ord (Int.le_trans hI.smax (by decide)) _ hpl h0
  have HZ : Hid (S.piece c k = 0 → S.len (S.piece c k) = 0) := fun e => by rw [e]; exact hI.ordF.zero
  have hpr := (hI.pcOk hpl).1
  unfold SS.find
  have l0 : (S.piece c k : Int) < (S.pcs.length : Int) := by omega
  have l1 : (0 : Int) ≤ (S.piece c k : Int) := by omega
  generalize aheadF S.len S.ord (S.piece c k) = ah at *
  generalize S.len (S.piece c k) = ln at *
  generalize S.first (S.piece c k) = u at *
  obtain ⟨fc, fk, ulc, ulk, urc, urk⟩ := u
  generalize (S.pc (S.piece c k)).run = xr at *
  generalize (S.pc (S.piece c k)).pos = xp at *
  generalize S.piece c k = p at *
  generalize S.pcs.length = n at *
  simp only at HU hle hfo ⊢
  obtain ⟨res, hres⟩ : ∃ r, Hid (r = if fc ≠ c ∨ ln ≤ k - fk then -1 else ah + (k - fk)) := ⟨_, Eq.refl _⟩
  rw [← hres.out]
  have hf0 := fldId
  clear h hI hpl hpr hc
  go_enter Try.func14, Try.ntmps14
  go_wp2_with fail
  refine HP.out.mono ?_
  rintro e W2 ⟨rfl, t2⟩
  have HT2 : Hid (Touch (fun _ => False) (w.alloc (idO c k)) W2) := t2
  clear t2 HP
  obtain ⟨q1, q2, q3⟩ := HC.out W2 HT2.out
  go_wp2_with fail
  refine (HU.out _ HT2.out).mono ?_
  rintro e W3 ⟨rfl, t3⟩
  have HT3 : Hid (Touch (fun _ => False) (w.alloc (idO c k)) W3) := HT2.out.trans t3
  clear t3 HU q1 q2 q3 HT2 HC
  go_upto_region 3 with fail
  obtain ⟨W4, hW4⟩ : ∃ W, Hid (W = W3.alloc (.cells #[u64 fc, u64 fk] 31)) := ⟨_, Eq.refl _⟩
  have HT4 : Hid (Touch (fun _ => False) (w.alloc (idO c k)) W4 ∧ W4.heap[W3.heap.size]? = some (idO fc fk)) := by rw [hW4.out]; exact ⟨HT3.out.alloc _, heap_alloc_new _ _⟩
  rw [← hW4.out]
  clear hW4
  obtain ⟨m, hm⟩ : ∃ m, Hid (m = W3.heap.size) := ⟨_, Eq.refl _⟩
  rw [← hm.out] at HT4 ⊢
  clear hm HT3
  obtain ⟨B0, hB0⟩ : ∃ m, Hid (m = w.heap.size) := ⟨_, Eq.refl _⟩
  rw [← hB0.out] at HB ⊢
  have HF : Hid (∀ W, Touch (fun _ => False) W4 W → (W.cell? ⟨B0, 0, none⟩ = some (u64 c) ∧ W.cell? ⟨B0, 1, none⟩ = some (u64 k) ∧ W.cell? ⟨m, 0, none⟩ = some (u64 fc) ∧ W.cell? ⟨m, 1, none⟩ = some (u64 fk)) ∧ Touch (fun _ => False) (w.alloc (idO c k)) W) := fun W t => by
    have a := HB.out W (HT4.out.1.trans t)
    have b := idO_cells (heap_keep t HT4.out.2)
    exact ⟨⟨a.1, a.2, b⟩, HT4.out.1.trans t⟩
  obtain ⟨⟨b0, b1, b2, b3⟩, -⟩ := HF.out W4 (Touch.refl _ _)
  by_cases hfc : fc = c
  · have hke : fk ≤ k := by omega
    have e1 : (fc != c) = false := by simp [hfc]
    have e2 : IntKind.u64.wrap (k - fk) = k - fk := by rw [IntKind.wrap_u64]; omega
    have e3 : IntKind.u64.wrap ln = ln := by rw [IntKind.wrap_u64]; omega
    have HLq : Hid (∀ N, Calls Try.prog 29 #[rP B.b 2, iV (p : Int)] (W4.drewN N) fun e w' => e = .returned (iV ln) ∧ w' = W4.drewN N) := fun N => HLn.out _ (HT4.out.1.drewN N)
    by_cases hln : ln ≤ k - fk
    · have e4 : decide (ln ≤ k - fk) = true := by simp [hln]
      have HR : Hid (res = -1) := by rw [hres.out]; exact if_pos (.inr hln)
      clear hfc hle hfo hap hln hke HZ
      go_quiet (first | (go_at_call 29; exact Calls.quiet_of_same (HLq.out _)))
      go_wp2_with fail
      go_ret
      exact ⟨congrArg (fun x => Ending.returned (iV x)) HR.out.symm, HTr.out _ (HT4.out.1.drewN _)⟩
    · have e4 : decide (ln ≤ k - fk) = false := by simp; omega
      have HR : Hid (res = ah + (k - fk)) := by rw [hres.out]; exact if_neg (by simp [hfc]; omega)
      have hp0 : p ≠ 0 := fun e => by have := HZ.out e; omega
      have e5 : IntKind.i64.wrap (k - fk) = k - fk := by rw [IntKind.wrap_i64]; omega
      have e6 : IntKind.i64.wrap (ah + (k - fk)) = ah + (k - fk) := by rw [IntKind.wrap_i64]; omega
      have HAx : Hid (∀ W, Touch (fun _ => False) (w.alloc (idO c k)) W → Calls Try.prog 30 #[rP B.b 2, iV (p : Int)] W fun e w' => e = .returned (iV ah) ∧ Touch (fun _ => False) W w') := HA.out hp0
      clear hfc hle hfo hap hln hke HZ hp0 HA
      go_quiet (first | (go_at_call 29; exact Calls.quiet_of_same (HLq.out _)))
      clear b0 b1 b2 b3
      have HT5 : Hid (Touch (fun _ => False) W4 (W4.drewN nq)) := (Touch.refl _ _).drewN nq
      generalize W4.drewN nq = W5 at *
      have hS1 := (HF.out _ HT5.out.drew).1
      go_upto_region 5 with fail
      go_region_held3 (fun W => W.cell? ⟨B0, 0, none⟩ = some (u64 c) ∧ W.cell? ⟨B0, 1, none⟩ = some (u64 k) ∧ W.cell? ⟨m, 0, none⟩ = some (u64 fc) ∧ W.cell? ⟨m, 1, none⟩ = some (u64 fk)) (first | assumption)
        (first
          | (go_at_call 30; (with_reducible refine (HAx.out _ (HF.out _ HT5.out.drew).2).mono ?_); rintro e w1 ⟨rfl, t1⟩; obtain ⟨hS2, t2⟩ := HF.out w1 (HT5.out.drew.trans t1); have HT6 : Hid (Touch (fun _ => False) (w.alloc (idO c k)) w1) := t2; clear t1 t2))
      all_goals (try go_wp2_with fail)
      all_goals go_ret
      all_goals exact ⟨congrArg (fun x => Ending.returned (iV x)) HR.out.symm, HTr.out _ HT6.out⟩
  · have e1 : (fc != c) = true := by simp [hfc]
    have HR : Hid (res = -1) := by rw [hres.out]; exact if_pos (.inl hfc)
    clear hfc hle hfo hap HZ
    go_quiet (fail)
    go_wp2_with fail
    go_ret
    exact ⟨congrArg (fun x => Ending.returned (iV x)) HR.out.symm, HTr.out _ (HT4.out.1.drewN _)⟩
end Go.Proofs.Ytcolbgbmnmkogab
