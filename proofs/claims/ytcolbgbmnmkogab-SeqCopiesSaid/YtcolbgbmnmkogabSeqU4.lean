/- Package seq: hasAny. -/
import Derived.Test.YtcolbgbmnmkogabSeqU3
namespace Go.Proofs.Ytcolbgbmnmkogab
open Go.RowKit
set_option linter.unusedVariables false
set_option linter.unusedSimpArgs false
set_option maxRecDepth 100000

set_option maxHeartbeats 8000000 in
theorem hasAny_any {w : World} {B : Bk} {S : SS} (h : SeqM w B S) (hI : Inv S) (c k n : Int) (hc : 0 ≤ c) (hk : 0 ≤ k) (hn : 1 ≤ n) (hkn : k + (n - 1) ≤ 9007199254740991) :
    Calls Try.prog 33 #[sP B, idV c k, iV n] w fun e w' => e = .returned (.bool (S.hasAny c k n)) ∧ Touch (fun _ => False) w w' := by
  obtain ⟨kk, hkk⟩ : ∃ x, Hid (x = k + (n - 1)) := ⟨_, Eq.refl _⟩
  unfold SS.hasAny
  have e0 : IntKind.i64.wrap (n - 1) = n - 1 := by rw [IntKind.wrap_i64]; omega
  have e0b : IntKind.u64.wrap (n - 1) = n - 1 := by rw [IntKind.wrap_u64]; omega
  have e0c : IntKind.u64.wrap (k + (n - 1)) = kk := by rw [hkk.out, IntKind.wrap_u64]; omega
  have hkk2 : 0 ≤ kk ∧ kk ≤ 9007199254740991 := by rw [hkk.out]; omega
  rw [← hkk.out]
  have hpl := hI.piece_lt c kk
  have hle := hI.piece_le c kk hc hkk2.1
  have hfo := hI.firstOk hpl
  have hln := hI.len_le (S.piece c kk)
  have hT1 : Touch (fun _ => False) w (w.alloc (idO c k)) := (Touch.refl _ _).alloc _
  have HB : Hid (∀ W, Touch (fun _ => False) (w.alloc (idO c k)) W → W.cell? ⟨w.heap.size, 0, none⟩ = some (u64 c) ∧ W.cell? ⟨w.heap.size, 1, none⟩ = some (u64 k)) := fun W t => idO_cells (heap_keep t (heap_alloc_new w _))
  have HTr : Hid (∀ W, Touch (fun _ => False) (w.alloc (idO c k)) W → Touch (fun _ => False) w W) := fun W t => hT1.trans t
  have HP : Hid (Calls Try.prog 28 #[sP B, .agg #[u64 c, u64 kk]] (w.alloc (idO c k)) fun e w' => e = .returned (iV (S.piece c kk : Int)) ∧ Touch (fun _ => False) (w.alloc (idO c k)) w') := pieceOf_any (h.keep0 hT1) hI c kk
  have HC : Hid (∀ W, Touch (fun _ => False) (w.alloc (idO c k)) W → W.cell? ⟨B.b, 1, none⟩ = some (.slice (some ⟨B.gp, 0, none⟩) S.pcs.length B.kp) ∧ W.cell? ⟨B.gp, S.piece c kk * 2, none⟩ = some (iV ((S.pc (S.piece c kk)).run : Int)) ∧ W.cell? ⟨B.gp, S.piece c kk * 2 + 1, none⟩ = some (u64 (S.pc (S.piece c kk)).pos)) := fun W t => by
    have hW := h.keep0 (hT1.trans t)
    exact ⟨hW.pcs.cell, hW.pc hpl⟩
  have HU : Hid (∀ W, Touch (fun _ => False) (w.alloc (idO c k)) W → Calls Try.prog 25 #[sP B, .agg #[iV ((S.pc (S.piece c kk)).run : Int), u64 (S.pc (S.piece c kk)).pos]] W fun e w' => e = .returned (.agg #[u64 (S.first (S.piece c kk)).c, u64 (S.first (S.piece c kk)).k, u64 (S.first (S.piece c kk)).lc, u64 (S.first (S.piece c kk)).lk, u64 (S.first (S.piece c kk)).rc, u64 (S.first (S.piece c kk)).rk]) ∧ Touch (fun _ => False) W w') := fun W t => (h.keep0 (hT1.trans t)).unit (hI.spOk hpl)
  have HLn : Hid (∀ W, Touch (fun _ => False) (w.alloc (idO c k)) W → Calls Try.prog 29 #[rP B.b 2, iV (S.piece c kk : Int)] W fun e w' => e = .returned (iV (S.len (S.piece c kk))) ∧ w' = W) := fun W t => r_lengthOf (h.keep0 (hT1.trans t)).ord _ hpl
  have l0 : (S.piece c kk : Int) < (S.pcs.length : Int) := by omega
  have l1 : (0 : Int) ≤ (S.piece c kk : Int) := by omega
  generalize S.len (S.piece c kk) = ln at *
  generalize S.first (S.piece c kk) = u at *
  obtain ⟨fc, fk, ulc, ulk, urc, urk⟩ := u
  generalize (S.pc (S.piece c kk)).run = xr at *
  generalize (S.pc (S.piece c kk)).pos = xp at *
  generalize S.piece c kk = p at *
  generalize S.pcs.length = np at *
  simp only at HU hle hfo ⊢
  obtain ⟨res, hres⟩ : ∃ r, Hid (r = decide (fc = c ∧ k < fk + ln)) := ⟨_, Eq.refl _⟩
  rw [← hres.out]
  have hf0 := fldId
  clear h hI hpl hc hkn hkk hle
  go_enter Try.func33, Try.ntmps33
  go_wp2_with fail
  refine HP.out.mono ?_
  rintro e W2 ⟨rfl, t2⟩
  have HT2 : Hid (Touch (fun _ => False) (w.alloc (idO c k)) W2) := t2
  clear t2 HP e0 e0b e0c
  obtain ⟨q1, q2, q3⟩ := HC.out W2 HT2.out
  go_wp2_with fail
  refine (HU.out _ HT2.out).mono ?_
  rintro e W3 ⟨rfl, t3⟩
  have HT3 : Hid (Touch (fun _ => False) (w.alloc (idO c k)) W3) := HT2.out.trans t3
  clear t3 HU q1 q2 q3 HT2 HC
  go_upto_region 3 with fail
  obtain ⟨W4, hW4⟩ : ∃ W, Hid (W = W3.alloc (.cells #[u64 fc, u64 fk] 31)) := ⟨_, Eq.refl _⟩
  have HT4 : Hid (Touch (fun _ => False) (w.alloc (idO c k)) W4 ∧ W4.heap[W3.heap.size]? = some (idO fc fk)) := by rw [hW4.out]; exact ⟨HT3.out.alloc _, heap_alloc_new _ _⟩
  rw [← hW4.out]
  clear hW4
  obtain ⟨m, hm⟩ : ∃ m, Hid (m = W3.heap.size) := ⟨_, Eq.refl _⟩
  rw [← hm.out] at HT4 ⊢
  clear hm HT3
  obtain ⟨B0, hB0⟩ : ∃ m, Hid (m = w.heap.size) := ⟨_, Eq.refl _⟩
  rw [← hB0.out] at HB ⊢
  obtain ⟨b0, b1⟩ := HB.out W4 HT4.out.1
  obtain ⟨b2, b3⟩ := idO_cells HT4.out.2
  have HLq : Hid (∀ N, Calls Try.prog 29 #[rP B.b 2, iV (p : Int)] (W4.drewN N) fun e w' => e = .returned (iV ln) ∧ w' = W4.drewN N) := fun N => HLn.out _ (HT4.out.1.drewN N)
  by_cases hfc : fc = c
  · have e1 : (fc == c) = true := by simp [hfc]
    have e3 : IntKind.u64.wrap ln = ln := by rw [IntKind.wrap_u64]; omega
    have e2 : IntKind.u64.wrap (fk + ln) = fk + ln := by rw [IntKind.wrap_u64]; omega
    have hr : res = decide (k < fk + ln) := by rw [hres.out]; simp [hfc]
    have HR : Hid (res = decide (k < fk + ln)) := hr
    clear hr
    clear hfc hfo hln
    go_quiet (first | (go_at_call 29; exact Calls.quiet_of_same (HLq.out _)))
    go_wp2_with fail
    go_ret
    exact ⟨congrArg (fun x => Ending.returned (.bool x)) HR.out.symm, HTr.out _ (HT4.out.1.drewN _)⟩
  · have e1 : (fc == c) = false := by simp [hfc]
    have hr : res = false := by rw [hres.out]; simp [hfc]
    have HR : Hid (res = false) := hr
    clear hr
    clear hfc hfo hln
    go_quiet (fail)
    go_wp2_with fail
    go_ret
    exact ⟨congrArg (fun x => Ending.returned (.bool x)) HR.out.symm, HTr.out _ (HT4.out.1.drewN _)⟩
end Go.Proofs.Ytcolbgbmnmkogab
