/- Package seq: pieceOf. -/
import Derived.Test.YtnilikomoapcaaaGreatPart8
namespace Go.Proofs.YtnilikomoapcaaaGreat
open Go.RowKit
set_option linter.unusedVariables false
set_option linter.unusedSimpArgs false
set_option maxRecDepth 100000

theorem SeqM.unit {w : World} {B : Bk} {S : SS} (h : SeqM w B S) {x : Sp} (hx : SpOk S x) : Calls Tryz.prog 36 #[sP B, spV x] w fun e w' => e = .returned (.agg #[u64 (S.unit x).c, u64 (S.unit x).k, u64 (S.unit x).lc, u64 (S.unit x).lk, u64 (S.unit x).rc, u64 (S.unit x).rk]) ∧ Touch (fun _ => False) w w' :=
  unit_any h.runs x hx.1 hx.2.1 hx.2.2.1 hx.2.2.2
theorem SeqM.pc {w : World} {B : Bk} {S : SS} (h : SeqM w B S) {i : Nat} (hi : i < S.pcs.length) : w.cell? ⟨B.gp, i * 2, none⟩ = some (iV ((S.pc i).run : Int)) ∧ w.cell? ⟨B.gp, i * 2 + 1, none⟩ = some (u64 (S.pc i).pos) := by
  rw [SS.pc_of hi]
  exact h.pcs.sp i hi
/-- A unit's id. -/
theorem fldId (a b c d e f : Value) (W : World) : (Instr.field 32 (.agg #[a, b, c, d, e, f]) 0).run Tryz.prog W = .ok (.agg #[a, b]) W := by kernel_rfl
theorem less_touch (a b c d : Int) (w : World) : Calls Tryz.prog 43 #[idV a b, idV c d] w fun e w' => e = .returned (.bool (lessI a b c d)) ∧ Touch (fun _ => False) w w' :=
  (less_any a b c d w).mono fun e w' h => ⟨h.1, by rw [h.2]; exact ((Touch.refl _ _).alloc _).alloc _⟩
set_option maxHeartbeats 8000000 in
theorem ask_any {w : World} {B : Bk} {S : SS} (h : SeqM w B S) (hI : Inv S) (bi bs : Nat) (c k : Int) (hbi : w.heap[bi]? = some (idO c k)) (hbs : w.heap[bs]? = some (.cells #[sP B] 24)) (i : Nat) (hi : i < S.pcs.length) :
    Calls Tryz.prog 72 #[iV (i : Int), .pointer (some ⟨bi, 0, none⟩), .pointer (some ⟨bs, 0, none⟩)] w fun e w' => e = .returned (.bool (S.holds c k i)) ∧ Touch (fun _ => False) w w' := by
  have HS : Hid (∀ W, Touch (fun _ => False) w W → W.cell? ⟨bi, 0, none⟩ = some (u64 c) ∧ W.cell? ⟨bi, 1, none⟩ = some (u64 k) ∧ W.cell? ⟨bs, 0, none⟩ = some (sP B) ∧ W.cell? ⟨B.b, 1, none⟩ = some (.slice (some ⟨B.gp, 0, none⟩) S.pcs.length B.kp) ∧ W.cell? ⟨B.gp, i * 2, none⟩ = some (iV ((S.pc i).run : Int)) ∧ W.cell? ⟨B.gp, i * 2 + 1, none⟩ = some (u64 (S.pc i).pos) ∧ Hid (Touch (fun _ => False) w W)) := fun W t => by
    have hW := h.keep0 t
    have q := hW.pc hi
    refine ⟨?_, ?_, ?_, hW.pcs.cell, q.1, q.2, t⟩
    · rw [cell_of_block (heap_keep t hbi)]; rfl
    · rw [cell_of_block (heap_keep t hbi)]; rfl
    · rw [cell_of_block (heap_keep t hbs)]; rfl
  have HU : Hid (∀ W, Touch (fun _ => False) w W → Calls Tryz.prog 36 #[sP B, .agg #[iV ((S.pc i).run : Int), u64 (S.pc i).pos]] W fun e w' => e = .returned (.agg #[u64 (S.first i).c, u64 (S.first i).k, u64 (S.first i).lc, u64 (S.first i).lk, u64 (S.first i).rc, u64 (S.first i).rk]) ∧ Touch (fun _ => False) W w') := fun W t => (h.keep0 t).unit (hI.spOk hi)
  have HL : Hid (∀ W, Calls Tryz.prog 43 #[idV c k, idV (S.first i).c (S.first i).k] W fun e w' => e = .returned (.bool (lessI c k (S.first i).c (S.first i).k)) ∧ Touch (fun _ => False) W w') := fun W => less_touch _ _ _ _ _
  unfold SS.holds
  have l0 : (i : Int) < (S.pcs.length : Int) := by omega
  have l1 : (0 : Int) ≤ (i : Int) := by omega
  generalize lessI c k (S.first i).c (S.first i).k = res at *
  generalize S.first i = u at *
  obtain ⟨uc, uk, ulc, ulk, urc, urk⟩ := u
  generalize (S.pc i).run = xr at *
  generalize (S.pc i).pos = xp at *
  generalize S.pcs.length = n at *
  simp only at HL HU
  have S0 := HS.out _ (Touch.refl _ w).drew
  have hf0 := fldId
  clear h hI hi hbi hbs
  go_enter Tryz.func72, Tryz.ntmps72
  go_wp2_with fail
  go_region_held3 (fun W => W.cell? ⟨bi, 0, none⟩ = some (u64 c) ∧ W.cell? ⟨bi, 1, none⟩ = some (u64 k) ∧ W.cell? ⟨bs, 0, none⟩ = some (sP B) ∧ W.cell? ⟨B.b, 1, none⟩ = some (.slice (some ⟨B.gp, 0, none⟩) n B.kp) ∧ W.cell? ⟨B.gp, i * 2, none⟩ = some (iV (xr : Int)) ∧ W.cell? ⟨B.gp, i * 2 + 1, none⟩ = some (u64 xp) ∧ Hid (Touch (fun _ => False) w W)) (first | assumption)
    (first
      | (go_at_call 36; (with_reducible refine (HU.out _ (Touch.refl _ w).drew).mono ?_); rintro e w1 ⟨rfl, t1⟩; have hS2 := HS.out w1 ((Touch.refl _ w).drew.trans t1); clear t1)
      | (go_at_call 43; (with_reducible refine (HL.out _).mono ?_); rintro e w2 ⟨rfl, t2⟩; have hS3 := HS.out w2 (hS2.2.2.2.2.2.2.out.trans t2); clear t2))
  all_goals (try go_wp2_with fail)
  all_goals go_ret
  all_goals exact ⟨rfl, hS3.2.2.2.2.2.2.out⟩
set_option maxHeartbeats 4000000 in
theorem pieceOf_any {w : World} {B : Bk} {S : SS} (h : SeqM w B S) (hI : Inv S) (c k : Int) :
    Calls Tryz.prog 38 #[sP B, idV c k] w fun e w' => e = .returned (iV (S.piece c k : Int)) ∧ Touch (fun _ => False) w w' := by
  have hT : Touch (fun _ => False) w ((w.alloc (.cells #[sP B] 24)).alloc (idO c k)) := ((Touch.refl _ _).alloc _).alloc _
  have hw := heap_two w (.cells #[sP B] 24) (idO c k)
  have HL : Hid (Calls Tryz.prog 71 #[rP B.b 3, .func (.func 72) #[] #[.pointer (some ⟨w.heap.size + 1, 0, none⟩), .pointer (some ⟨w.heap.size, 0, none⟩)]] ((w.alloc (.cells #[sP B] 24)).alloc (idO c k)) fun e w' => e = .returned (iV (S.piece c k : Int)) ∧ Touch (fun _ => False) ((w.alloc (.cells #[sP B] 24)).alloc (idO c k)) w') :=
    r_last (h.keep0 hT).idx (S.holds c k) (hI.mono c k) _ _ (fun W x t hx => ask_any (h.keep0 (hT.trans t)) hI _ _ c k (heap_keep t hw.2) (heap_keep t hw.1) x ((hI.idxF.lab x).1 hx).2)
  have HT : Hid (Touch (fun _ => False) w ((w.alloc (.cells #[sP B] 24)).alloc (idO c k))) := hT
  generalize S.piece c k = res at *
  clear h hI hT hw
  go_enter Tryz.func38, Tryz.ntmps38
  go_wp2_with fail
  refine HL.out.mono ?_
  rintro e w1 ⟨rfl, t1⟩
  go_wp2_with fail
  go_ret
  exact ⟨rfl, HT.out.trans t1⟩
end Go.Proofs.YtnilikomoapcaaaGreat

/- Package seq: Find. -/
namespace Go.Proofs.YtnilikomoapcaaaGreat
open Go.RowKit
set_option linter.unusedVariables false
set_option linter.unusedSimpArgs false
set_option maxRecDepth 100000

theorem Touch.drewN {S : Nat → Prop} {a b : World} (h : Touch S a b) (n : Nat) : Touch S a (b.drewN n) := ⟨h.os, h.tape, h.output, h.size, h.block⟩
/-- An id's box. -/
theorem idO_cells {W : World} {n : Nat} {c k : Int} (h : W.heap[n]? = some (idO c k)) : W.cell? ⟨n, 0, none⟩ = some (u64 c) ∧ W.cell? ⟨n, 1, none⟩ = some (u64 k) := ⟨by rw [cell_of_block h]; rfl, by rw [cell_of_block h]; rfl⟩
set_option maxHeartbeats 8000000 in
theorem find_any {w : World} {B : Bk} {S : SS} (h : SeqM w B S) (hI : Inv S) (c k : Int) (hc : 0 ≤ c) (hk : 0 ≤ k) (hk2 : k < 18446744073709551616) :
    Calls Tryz.prog 15 #[sP B, idV c k] w fun e w' => e = .returned (iV (S.find c k)) ∧ Touch (fun _ => False) w w' := by
  have hpl := hI.piece_lt c k
  have hle := hI.piece_le c k hc hk
  have hfo := hI.firstOk hpl
  have hap := hI.ahead_le (S.piece c k)
  have hln := hI.len_le (S.piece c k)
  have hT1 : Touch (fun _ => False) w (w.alloc (idO c k)) := (Touch.refl _ _).alloc _
  have HB : Hid (∀ W, Touch (fun _ => False) (w.alloc (idO c k)) W → W.cell? ⟨w.heap.size, 0, none⟩ = some (u64 c) ∧ W.cell? ⟨w.heap.size, 1, none⟩ = some (u64 k)) := fun W t => idO_cells (heap_keep t (heap_alloc_new w _))
  have HTr : Hid (∀ W, Touch (fun _ => False) (w.alloc (idO c k)) W → Touch (fun _ => False) w W) := fun W t => hT1.trans t
  have HP : Hid (Calls Tryz.prog 38 #[sP B, .agg #[u64 c, u64 k]] (w.alloc (idO c k)) fun e w' => e = .returned (iV (S.piece c k : Int)) ∧ Touch (fun _ => False) (w.alloc (idO c k)) w') := pieceOf_any (h.keep0 hT1) hI c k
  have HC : Hid (∀ W, Touch (fun _ => False) (w.alloc (idO c k)) W → W.cell? ⟨B.b, 1, none⟩ = some (.slice (some ⟨B.gp, 0, none⟩) S.pcs.length B.kp) ∧ W.cell? ⟨B.gp, S.piece c k * 2, none⟩ = some (iV ((S.pc (S.piece c k)).run : Int)) ∧ W.cell? ⟨B.gp, S.piece c k * 2 + 1, none⟩ = some (u64 (S.pc (S.piece c k)).pos)) := fun W t => by
    have hW := h.keep0 (hT1.trans t)
    exact ⟨hW.pcs.cell, hW.pc hpl⟩
  have HU : Hid (∀ W, Touch (fun _ => False) (w.alloc (idO c k)) W → Calls Tryz.prog 36 #[sP B, .agg #[iV ((S.pc (S.piece c k)).run : Int), u64 (S.pc (S.piece c k)).pos]] W fun e w' => e = .returned (.agg #[u64 (S.first (S.piece c k)).c, u64 (S.first (S.piece c k)).k, u64 (S.first (S.piece c k)).lc, u64 (S.first (S.piece c k)).lk, u64 (S.first (S.piece c k)).rc, u64 (S.first (S.piece c k)).rk]) ∧ Touch (fun _ => False) W w') := fun W t => (h.keep0 (hT1.trans t)).unit (hI.spOk hpl)
  have HLn : Hid (∀ W, Touch (fun _ => False) (w.alloc (idO c k)) W → Calls Tryz.prog 39 #[rP B.b 2, iV (S.piece c k : Int)] W fun e w' => e = .returned (iV (S.len (S.piece c k))) ∧ w' = W) := fun W t => r_lengthOf (h.keep0 (hT1.trans t)).ord _ hpl
  have HA : Hid (S.piece c k ≠ 0 → ∀ W, Touch (fun _ => False) (w.alloc (idO c k)) W → Calls Tryz.prog 40 #[rP B.b 2, iV (S.piece c k : Int)] W fun e w' => e = .returned (iV (aheadF S.len S.ord (S.piece c k))) ∧ Touch (fun _ => False) W w') := fun h0 W t => r_ahead (h.keep0 (hT1.trans t)).ord (Int.le_trans hI.smax (by decide)) _ hpl h0
  have HZ : Hid (S.piece c k = 0 → S.len (S.piece c k) = 0) := fun e => by rw [e]; exact hI.ordF.zero
  have hpr := (hI.pcOk hpl).1
  unfold SS.find
  have l0 : (S.piece c k : Int) < (S.pcs.length : Int) := by omega
  have l1 : (0 : Int) ≤ (S.piece c k : Int) := by omega
  generalize aheadF S.len S.ord (S.piece c k) = ah at *
  generalize S.len (S.piece c k) = ln at *
  generalize S.first (S.piece c k) = u at *
  obtain ⟨fc, fk, ulc, ulk, urc, urk⟩ := u
  generalize (S.pc (S.piece c k)).run = xr at *
  generalize (S.pc (S.piece c k)).pos = xp at *
  generalize S.piece c k = p at *
  generalize S.pcs.length = n at *
  simp only at HU hle hfo ⊢
  obtain ⟨res, hres⟩ : ∃ r, Hid (r = if fc ≠ c ∨ ln ≤ k - fk then -1 else ah + (k - fk)) := ⟨_, Eq.refl _⟩
  rw [← hres.out]
  have hf0 := fldId
  clear h hI hpl hpr hc
  go_enter Tryz.func15, Tryz.ntmps15
  go_wp2_with fail
  refine HP.out.mono ?_
  rintro e W2 ⟨rfl, t2⟩
  have HT2 : Hid (Touch (fun _ => False) (w.alloc (idO c k)) W2) := t2
  clear t2 HP
  obtain ⟨q1, q2, q3⟩ := HC.out W2 HT2.out
  go_wp2_with fail
  refine (HU.out _ HT2.out).mono ?_
  rintro e W3 ⟨rfl, t3⟩
  have HT3 : Hid (Touch (fun _ => False) (w.alloc (idO c k)) W3) := HT2.out.trans t3
  clear t3 HU q1 q2 q3 HT2 HC
  go_upto_region 3 with fail
  obtain ⟨W4, hW4⟩ : ∃ W, Hid (W = W3.alloc (.cells #[u64 fc, u64 fk] 28)) := ⟨_, Eq.refl _⟩
  have HT4 : Hid (Touch (fun _ => False) (w.alloc (idO c k)) W4 ∧ W4.heap[W3.heap.size]? = some (idO fc fk)) := by rw [hW4.out]; exact ⟨HT3.out.alloc _, heap_alloc_new _ _⟩
  rw [← hW4.out]
  clear hW4
  obtain ⟨m, hm⟩ : ∃ m, Hid (m = W3.heap.size) := ⟨_, Eq.refl _⟩
  rw [← hm.out] at HT4 ⊢
  clear hm HT3
  obtain ⟨B0, hB0⟩ : ∃ m, Hid (m = w.heap.size) := ⟨_, Eq.refl _⟩
  rw [← hB0.out] at HB ⊢
  have HF : Hid (∀ W, Touch (fun _ => False) W4 W → (W.cell? ⟨B0, 0, none⟩ = some (u64 c) ∧ W.cell? ⟨B0, 1, none⟩ = some (u64 k) ∧ W.cell? ⟨m, 0, none⟩ = some (u64 fc) ∧ W.cell? ⟨m, 1, none⟩ = some (u64 fk)) ∧ Touch (fun _ => False) (w.alloc (idO c k)) W) := fun W t => by
    have a := HB.out W (HT4.out.1.trans t)
    have b := idO_cells (heap_keep t HT4.out.2)
    exact ⟨⟨a.1, a.2, b⟩, HT4.out.1.trans t⟩
  obtain ⟨⟨b0, b1, b2, b3⟩, -⟩ := HF.out W4 (Touch.refl _ _)
  by_cases hfc : fc = c
  · have hke : fk ≤ k := by omega
    have e1 : (fc != c) = false := by simp [hfc]
    have e2 : IntKind.u64.wrap (k - fk) = k - fk := by rw [IntKind.wrap_u64]; omega
    have e3 : IntKind.u64.wrap ln = ln := by rw [IntKind.wrap_u64]; omega
    have HLq : Hid (∀ N, Calls Tryz.prog 39 #[rP B.b 2, iV (p : Int)] (W4.drewN N) fun e w' => e = .returned (iV ln) ∧ w' = W4.drewN N) := fun N => HLn.out _ (HT4.out.1.drewN N)
    by_cases hln : ln ≤ k - fk
    · have e4 : decide (ln ≤ k - fk) = true := by simp [hln]
      have HR : Hid (res = -1) := by rw [hres.out]; exact if_pos (.inr hln)
      clear hfc hle hfo hap hln hke HZ
      go_quiet (first | (go_at_call 39; exact Calls.quiet_of_same (HLq.out _)))
      go_wp2_with fail
      go_ret
      exact ⟨congrArg (fun x => Ending.returned (iV x)) HR.out.symm, HTr.out _ (HT4.out.1.drewN _)⟩
    · have e4 : decide (ln ≤ k - fk) = false := by simp; omega
      have HR : Hid (res = ah + (k - fk)) := by rw [hres.out]; exact if_neg (by simp [hfc]; omega)
      have hp0 : p ≠ 0 := fun e => by have := HZ.out e; omega
      have e5 : IntKind.i64.wrap (k - fk) = k - fk := by rw [IntKind.wrap_i64]; omega
      have e6 : IntKind.i64.wrap (ah + (k - fk)) = ah + (k - fk) := by rw [IntKind.wrap_i64]; omega
      have HAx : Hid (∀ W, Touch (fun _ => False) (w.alloc (idO c k)) W → Calls Tryz.prog 40 #[rP B.b 2, iV (p : Int)] W fun e w' => e = .returned (iV ah) ∧ Touch (fun _ => False) W w') := HA.out hp0
      clear hfc hle hfo hap hln hke HZ hp0 HA
      go_quiet (first | (go_at_call 39; exact Calls.quiet_of_same (HLq.out _)))
      clear b0 b1 b2 b3
      have HT5 : Hid (Touch (fun _ => False) W4 (W4.drewN nq)) := (Touch.refl _ _).drewN nq
      generalize W4.drewN nq = W5 at *
      have hS1 := (HF.out _ HT5.out.drew).1
      go_upto_region 5 with fail
      go_region_held3 (fun W => W.cell? ⟨B0, 0, none⟩ = some (u64 c) ∧ W.cell? ⟨B0, 1, none⟩ = some (u64 k) ∧ W.cell? ⟨m, 0, none⟩ = some (u64 fc) ∧ W.cell? ⟨m, 1, none⟩ = some (u64 fk)) (first | assumption)
        (first
          | (go_at_call 40; (with_reducible refine (HAx.out _ (HF.out _ HT5.out.drew).2).mono ?_); rintro e w1 ⟨rfl, t1⟩; obtain ⟨hS2, t2⟩ := HF.out w1 (HT5.out.drew.trans t1); have HT6 : Hid (Touch (fun _ => False) (w.alloc (idO c k)) w1) := t2; clear t1 t2))
      all_goals (try go_wp2_with fail)
      all_goals go_ret
      all_goals exact ⟨congrArg (fun x => Ending.returned (iV x)) HR.out.symm, HTr.out _ HT6.out⟩
  · have e1 : (fc != c) = true := by simp [hfc]
    have HR : Hid (res = -1) := by rw [hres.out]; exact if_pos (.inl hfc)
    clear hfc hle hfo hap HZ
    go_quiet (fail)
    go_wp2_with fail
    go_ret
    exact ⟨congrArg (fun x => Ending.returned (iV x)) HR.out.symm, HTr.out _ (HT4.out.1.drewN _)⟩
end Go.Proofs.YtnilikomoapcaaaGreat

/- Package seq: spotAt, endOf. -/
namespace Go.Proofs.YtnilikomoapcaaaGreat
open Go.RowKit
set_option linter.unusedVariables false
set_option linter.unusedSimpArgs false
set_option maxRecDepth 100000

abbrev zeroSO : Obj := .cells #[iV 0, u64 0] 64
theorem Inv.spotAtOk {S : SS} (h : Inv S) (p : Int) : SpOk S (S.spotAt p) ∧ 0 ≤ (S.pc (atF S.len S.ord p).1).pos ∧ (S.spotAt p).pos ≤ 9007199254740992 := by
  obtain ⟨a, b, c⟩ := h.atOk p
  obtain ⟨d, e, f, g, i⟩ := h.pcOk a
  unfold SS.spotAt SpOk
  simp only
  exact ⟨⟨d, by omega, f, by omega⟩, e, by omega⟩
theorem Inv.endOk {S : SS} (h : Inv S) {i : Nat} (hi : i < S.pcs.length) : SpOk S (S.endOf i) ∧ 0 ≤ (S.pc i).pos ∧ (S.endOf i).pos ≤ 9007199254740992 := by
  obtain ⟨d, e, f, g, j⟩ := h.pcOk hi
  unfold SS.endOf SpOk
  simp only
  exact ⟨⟨d, by omega, f, by omega⟩, e, by omega⟩
/-- A spot that was answered: two cells laid into the result's box. -/
theorem spot_laid {w W2 : World} {xr : Nat} {xp : Int} (t : Touch (fun _ => False) (w.alloc zeroSO) W2) :
    (W2.alloc (spO ⟨xr, xp⟩)).cell? ⟨W2.heap.size, 0, none⟩ = some (iV (xr : Int)) ∧ (W2.alloc (spO ⟨xr, xp⟩)).cell? ⟨W2.heap.size, 1, none⟩ = some (u64 xp) ∧ (W2.alloc (spO ⟨xr, xp⟩)).heap[w.heap.size]? = some zeroSO ∧ Touch (fun k => k = w.heap.size) w (W2.alloc (spO ⟨xr, xp⟩)) := by
  have e := heap_alloc_new W2 (spO ⟨xr, xp⟩)
  have hz := heap_keep t (heap_alloc_new w zeroSO)
  refine ⟨by rw [cell_of_block e]; rfl, by rw [cell_of_block e]; rfl, (Below.heap_alloc _ _ _ (lt_of_heap hz)).trans hz, ?_⟩
  exact ((((Touch.refl (fun _ => False) w).alloc zeroSO).trans t).alloc _).mono fun _ _ h => False.elim h
set_option maxHeartbeats 8000000 in
theorem spotAt_any {w : World} {B : Bk} {S : SS} (h : SeqM w B S) (hI : Inv S) (p : Int) (hp : -4611686018427387904 ≤ p ∧ p ≤ 4611686018427387904) :
    Calls Tryz.prog 37 #[sP B, iV p] w fun e w' => e = .returned (.agg #[iV ((S.spotAt p).run : Int), u64 (S.spotAt p).pos]) ∧ Touch (fun _ => False) w w' := by
  obtain ⟨ha, hb, hc⟩ := hI.atOk p
  have hbd := (hI.spotAtOk p).2
  have hT1 : Touch (fun _ => False) w (w.alloc zeroSO) := (Touch.refl _ _).alloc _
  have HA : Hid (Calls Tryz.prog 70 #[rP B.b 2, iV p] (w.alloc zeroSO) fun e w' => e = .returned (.tuple #[iV ((atF S.len S.ord p).1 : Int), iV (atF S.len S.ord p).2]) ∧ Touch (fun _ => False) (w.alloc zeroSO) w') := r_at (h.keep0 hT1).ord (Int.le_trans hI.smax (by decide)) p hp
  have HC : Hid (∀ W, Touch (fun _ => False) (w.alloc zeroSO) W → (W.cell? ⟨B.b, 1, none⟩ = some (.slice (some ⟨B.gp, 0, none⟩) S.pcs.length B.kp) ∧ W.cell? ⟨B.gp, (atF S.len S.ord p).1 * 2, none⟩ = some (iV ((S.pc (atF S.len S.ord p).1).run : Int)) ∧ W.cell? ⟨B.gp, (atF S.len S.ord p).1 * 2 + 1, none⟩ = some (u64 (S.pc (atF S.len S.ord p).1).pos)) ∧ W.heap[w.heap.size]? = some zeroSO) := fun W t => by
    have hW := h.keep0 (hT1.trans t)
    exact ⟨⟨hW.pcs.cell, hW.pc ha⟩, heap_keep t (heap_alloc_new w _)⟩
  have HTr : Hid (∀ W, Touch (fun _ => False) (w.alloc zeroSO) W → Touch (fun k => k = w.heap.size) w W ∧ w.heap.size < W.heap.size) := fun W t => ⟨(hT1.trans t).mono fun _ _ h => False.elim h, Nat.lt_of_lt_of_le (by simp) t.size⟩
  unfold SS.spotAt at hbd ⊢
  simp only at hbd ⊢
  have l0 : ((atF S.len S.ord p).1 : Int) < (S.pcs.length : Int) := by omega
  have l1 : (0 : Int) ≤ ((atF S.len S.ord p).1 : Int) := by omega
  have hln := hI.len_le (atF S.len S.ord p).1
  generalize S.len (atF S.len S.ord p).1 = ln at *
  generalize (S.pc (atF S.len S.ord p).1).run = xr at *
  generalize (S.pc (atF S.len S.ord p).1).pos = xp at *
  generalize (atF S.len S.ord p).1 = i at *
  generalize (atF S.len S.ord p).2 = wi at *
  generalize S.pcs.length = n at *
  have e1 : IntKind.u64.wrap wi = wi := by rw [IntKind.wrap_u64]; omega
  have e2 : IntKind.u64.wrap (xp + wi) = xp + wi := by rw [IntKind.wrap_u64]; omega
  clear h hI ha hb hc hbd hp hT1 hln
  go_enter Tryz.func37, Tryz.ntmps37
  go_wp2_with fail
  refine HA.out.mono ?_
  rintro e W2 ⟨rfl, t2⟩
  have HT2 : Hid (Touch (fun _ => False) (w.alloc zeroSO) W2) := t2
  clear t2 HA
  obtain ⟨⟨q1, q2, q3⟩, q4⟩ := HC.out W2 HT2.out
  obtain ⟨B0, hB0⟩ : ∃ m, Hid (m = w.heap.size) := ⟨_, Eq.refl _⟩
  rw [← hB0.out] at q4 HTr ⊢
  have r0 : W2.cell? ⟨B0, 0, none⟩ = some (iV 0) := by rw [cell_of_block q4]; rfl
  have r1 : W2.cell? ⟨B0, 1, none⟩ = some (u64 0) := by rw [cell_of_block q4]; rfl
  have z0 : W2.frozen? ⟨B0, 0, none⟩ = false := free_of_block q4
  have z1 : W2.frozen? ⟨B0, 1, none⟩ = false := free_of_block q4
  go_upto_region 4 with fail
  have HB1 : Hid (B0 < W2.heap.size) := lt_of_heap q4
  clear r0 r1 z0 z1 q1 q2 q3 q4 HC
  obtain ⟨W4, hW4⟩ : ∃ W, Hid (W = W2.alloc (.cells #[iV (xr : Int), u64 (xp + wi)] 64)) := ⟨_, Eq.refl _⟩
  have H4 := spot_laid (xr := xr) (xp := xp + wi) HT2.out
  rw [← hW4.out]
  rw [show W2.alloc (spO ⟨xr, xp + wi⟩) = W4 from hW4.out.symm, ← hB0.out] at H4
  obtain ⟨k0, k1, k2, t4⟩ := H4
  have HT4 : Hid (Touch (fun k => k = B0) w W4) := t4
  clear t4 hW4
  generalize W2.heap.size = m at *
  have r0 : W4.cell? ⟨B0, 0, none⟩ = some (iV 0) := by rw [cell_of_block k2]; rfl
  have r1 : W4.cell? ⟨B0, 1, none⟩ = some (u64 0) := by rw [cell_of_block k2]; rfl
  have z0 : W4.frozen? ⟨B0, 0, none⟩ = false := free_of_block k2
  have z1 : W4.frozen? ⟨B0, 1, none⟩ = false := free_of_block k2
  have HF : Hid (Touch (fun _ => False) w ((W4.setCell ⟨B0, 0, none⟩ (iV (xr : Int))).setCell ⟨B0, 1, none⟩ (u64 (xp + wi)))) := by
    refine ((HT4.out.setCell _ _ fun _ => rfl).setCell _ _ fun _ => rfl).mono fun k hk h => ?_
    have e : k = B0 := h
    have := hB0.out
    omega
  have u0 : (W4.setCell ⟨B0, 0, none⟩ (iV (xr : Int))).cell? ⟨B0, 1, none⟩ = some (u64 0) := by rw [cell_of_block (heap_setCell_same _ _ _ _ k2)]; rfl
  have v0 : ((W4.setCell ⟨B0, 0, none⟩ (iV (xr : Int))).setCell ⟨B0, 1, none⟩ (u64 (xp + wi))).cell? ⟨B0, 0, none⟩ = some (iV (xr : Int)) := by rw [cell_of_block (heap_setCell_same _ _ _ _ (heap_setCell_same _ _ _ _ k2))]; rfl
  have v1 : ((W4.setCell ⟨B0, 0, none⟩ (iV (xr : Int))).setCell ⟨B0, 1, none⟩ (u64 (xp + wi))).cell? ⟨B0, 1, none⟩ = some (u64 (xp + wi)) := by rw [cell_of_block (heap_setCell_same _ _ _ _ (heap_setCell_same _ _ _ _ k2))]; rfl
  clear k2
  go_wp2_with fail
  refine bodyPost_ret (v := .agg #[iV (xr : Int), u64 (xp + wi)]) (by simp [results, Tryz.results37, go_sem, v0, v1]) rfl ?_
  exact ⟨rfl, HF.out⟩
theorem spO_cells {W : World} {n xr : Nat} {xp : Int} (h : W.heap[n]? = some (spO ⟨xr, xp⟩)) : W.cell? ⟨n, 0, none⟩ = some (iV (xr : Int)) ∧ W.cell? ⟨n, 1, none⟩ = some (u64 xp) ∧ W.frozen? ⟨n, 0, none⟩ = false ∧ W.frozen? ⟨n, 1, none⟩ = false := ⟨by rw [cell_of_block h]; rfl, by rw [cell_of_block h]; rfl, free_of_block h, free_of_block h⟩
theorem fldClock (a b : Value) (W : World) : (Instr.field 28 (.agg #[a, b]) 1).run Tryz.prog W = .ok b W := by kernel_rfl
/-- Both cells of a spot's box laid anew. -/
theorem spO_set {W : World} {n xr yr : Nat} {xp yp : Int} (h : W.heap[n]? = some (spO ⟨xr, xp⟩)) : ((W.setCell ⟨n, 0, none⟩ (iV (yr : Int))).setCell ⟨n, 1, none⟩ (u64 yp)).heap[n]? = some (spO ⟨yr, yp⟩) :=
  heap_setCell_same _ _ _ _ (heap_setCell_same _ _ _ _ h)
theorem spO_set1 {W : World} {n xr : Nat} {xp yp : Int} (h : W.heap[n]? = some (spO ⟨xr, xp⟩)) : (W.setCell ⟨n, 1, none⟩ (u64 yp)).heap[n]? = some (spO ⟨xr, yp⟩) := heap_setCell_same _ _ _ _ h
/-- A new block may be laid anew. -/
theorem Touch.fresh {a b : World} (h : Touch (fun _ => False) a b) (n o : Nat) (v : Value) (hn : a.heap.size ≤ n) : Touch (fun _ => False) a (b.setCell ⟨n, o, none⟩ v) :=
  h.setCell _ _ fun h' => absurd h' (by simpa using hn)
end Go.Proofs.YtnilikomoapcaaaGreat
