/- Package seq: parentOf. -/
import Derived.Test.YtnilikomoapcaaaGreatPart11
import Derived.Test.YtnilikomoapcaaaGreatPart14
import Derived.Test.YtnilikomoapcaaaGreatPart9
import Derived.Test.YtnilikomoapcaaaGreatPart13
namespace Go.Proofs.YtnilikomoapcaaaGreat
open Go.RowKit
set_option linter.unusedVariables false
set_option linter.unusedSimpArgs false
set_option maxRecDepth 100000

set_option maxHeartbeats 16000000 in
theorem parentOf_any {w : World} {B : Bk} {S : SS} (h : SeqM w B S) (hI : Inv S) (u : Un) (hu : u.ok) (hl : (S.first (S.piece u.lc u.lk)).k ≤ u.lk ∧ u.lk ≤ 9007199254740992) (hr : ¬ (u.rc = 0 ∧ u.rk = 0) → (S.first (S.piece u.rc u.rk)).k ≤ u.rk ∧ u.rk ≤ 9007199254740992) :
    Calls Tryz.prog 26 #[sP B, .agg #[u64 (u).c, u64 (u).k, u64 (u).lc, u64 (u).lk, u64 (u).rc, u64 (u).rk]] w fun e w' => e = .returned (.tuple #[.agg #[iV (((S.parentOf u).1).run : Int), u64 ((S.parentOf u).1).pos], .bool (S.parentOf u).2]) ∧ Touch (fun _ => False) w w' := by
  have hpl := hI.spotOfP hl.1 hl.2
  obtain ⟨E, hE⟩ : ∃ E, Hid (E = (w.alloc (unO u)).alloc zeroSO) := ⟨_, Eq.refl _⟩
  have HTE : Hid (Touch (fun _ => False) w E) := by rw [hE.out]; exact ((Touch.refl _ _).alloc _).alloc _
  have HEB : Hid (E.heap[w.heap.size]? = some (unO u) ∧ E.heap[w.heap.size + 1]? = some (spO ⟨0, 0⟩)) := by rw [hE.out]; exact heap_two _ _ _
  have HL : Hid (∀ W, Touch (fun _ => False) E W → Calls Tryz.prog 49 #[sP B, .agg #[u64 u.lc, u64 u.lk]] W fun e w' => e = .returned (.agg #[iV ((S.spotOf u.lc u.lk).run : Int), u64 (S.spotOf u.lc u.lk).pos]) ∧ Touch (fun _ => False) W w') := fun W t => spotOf_any (h.keep0 (HTE.out.trans t)) hI u.lc u.lk hu.lk.1 hl.2 hl.1
  have HR : Hid (¬ (u.rc = 0 ∧ u.rk = 0) → ∀ W, Touch (fun _ => False) E W → Calls Tryz.prog 49 #[sP B, .agg #[u64 u.rc, u64 u.rk]] W fun e w' => e = .returned (.agg #[iV ((S.spotOf u.rc u.rk).run : Int), u64 (S.spotOf u.rc u.rk).pos]) ∧ Touch (fun _ => False) W w') := fun hz W t => spotOf_any (h.keep0 (HTE.out.trans t)) hI u.rc u.rk hu.rk.1 (hr hz).2 (hr hz).1
  have HCh : Hid (¬ (u.rc = 0 ∧ u.rk = 0) → ∀ W, Touch (fun _ => False) E W → Calls Tryz.prog 50 #[sP B, .agg #[iV ((S.spotOf u.lc u.lk).run : Int), u64 (S.spotOf u.lc u.lk).pos], .agg #[iV ((S.spotOf u.rc u.rk).run : Int), u64 (S.spotOf u.rc u.rk).pos]] W fun e w' => e = .returned (.tuple #[.agg #[iV (((childR S.runs (S.spotOf u.lc u.lk) (S.spotOf u.rc u.rk)).1).run : Int), u64 ((childR S.runs (S.spotOf u.lc u.lk) (S.spotOf u.rc u.rk)).1).pos], .bool (childR S.runs (S.spotOf u.lc u.lk) (S.spotOf u.rc u.rk)).2]) ∧ Touch (fun _ => False) W w') := fun hz W t => childOver_any (h.keep0 (HTE.out.trans t)).runs hI.down _ _ hpl.1 (hI.spotOfP (hr hz).1 (hr hz).2).1 ⟨hpl.2.1, by have := hpl.2.2; have := (hI.fst (S.spotOf u.lc u.lk).run).k; omega⟩
  have HC : Hid (∀ W, Touch (fun _ => False) E W → (W.cell? ⟨w.heap.size, 2, none⟩ = some (u64 u.lc) ∧ W.cell? ⟨w.heap.size, 3, none⟩ = some (u64 u.lk) ∧ W.cell? ⟨w.heap.size, 4, none⟩ = some (u64 u.rc) ∧ W.cell? ⟨w.heap.size, 5, none⟩ = some (u64 u.rk)) ∧ W.heap[w.heap.size + 1]? = some (spO ⟨0, 0⟩)) := fun W t => ⟨(unO_cells (heap_keep t HEB.out.1)).2.2, heap_keep t HEB.out.2⟩
  unfold SS.parentOf
  generalize childR S.runs (S.spotOf u.lc u.lk) (S.spotOf u.rc u.rk) = ch at *
  generalize S.spotOf u.lc u.lk = sl at *
  generalize S.spotOf u.rc u.rk = sr at *
  obtain ⟨⟨cr, cp⟩, bel⟩ := ch
  obtain ⟨lr, lp⟩ := sl
  obtain ⟨rr, rp⟩ := sr
  obtain ⟨uc, uk, ulc, ulk, urc, urk⟩ := u
  simp only at HL HR HCh HC hE ⊢
  obtain ⟨res, hres⟩ : ∃ r : Sp × Bool, Hid (r = if urc = 0 ∧ urk = 0 then (⟨lr, lp⟩, false) else if bel = true then (⟨rr, rp⟩, true) else (⟨lr, lp⟩, false)) := ⟨_, Eq.refl _⟩
  rw [← hres.out]
  clear h hI hu hl hr hpl
  obtain ⟨⟨a2, a3, a4, a5⟩, -⟩ := HC.out E (Touch.refl _ _)
  go_enter Tryz.func26, Tryz.ntmps26
  go_upto_region 1 with fail
  rw [← hE.out]
  clear hE HEB
  obtain ⟨n, hn⟩ : ∃ m, Hid (m = w.heap.size) := ⟨_, Eq.refl _⟩
  rw [← hn.out] at HC a2 a3 a4 a5 ⊢
  go_wp2_with fail
  refine (HL.out _ (Touch.refl _ E)).mono ?_
  rintro e W1 ⟨rfl, t1⟩
  clear a2 a3 a4 a5 HL
  obtain ⟨W2, hW2⟩ : ∃ W, Hid (W = W1.alloc (.cells #[iV (lr : Int), u64 lp] 64)) := ⟨_, Eq.refl _⟩
  have H2 : Hid (Touch (fun _ => False) E W2 ∧ W2.heap[W1.heap.size]? = some (spO ⟨lr, lp⟩)) := by rw [hW2.out]; exact ⟨t1.alloc _, heap_alloc_new _ _⟩
  clear t1
  go_upto_region 2 with fail
  rw [← hW2.out]
  clear hW2
  obtain ⟨m, hm⟩ : ∃ m, Hid (m = W1.heap.size) := ⟨_, Eq.refl _⟩
  rw [← hm.out] at H2 ⊢
  obtain ⟨⟨a2, a3, a4, a5⟩, -⟩ := HC.out W2 H2.out.1
  have HNb : Hid (∀ W, Touch (fun _ => False) E W → ∀ v u, Touch (fun _ => False) w ((W.setCell ⟨n + 1, 0, none⟩ v).setCell ⟨n + 1, 1, none⟩ u)) := fun W t v u => by
    have hb : w.heap.size ≤ n + 1 := by rw [hn.out]; omega
    exact ((HTE.out.trans t).fresh _ _ _ hb).fresh _ _ _ hb
  by_cases hz : urc = 0 ∧ urk = 0
  · have e1 : (urc == 0) = true := by simp [hz.1]
    have e2 : (urk == 0) = true := by simp [hz.2]
    have HX : Hid (res = (⟨lr, lp⟩, false)) := by rw [hres.out]; exact if_pos hz
    have k2 := (HC.out W2 H2.out.1).2
    obtain ⟨g0, g1, -, -⟩ := spO_cells H2.out.2
    obtain ⟨r0, r1, z0, z1⟩ := spO_cells k2
    have u0 : (W2.setCell ⟨n + 1, 0, none⟩ (iV (lr : Int))).cell? ⟨n + 1, 1, none⟩ = some (u64 0) := by rw [cell_of_block (heap_setCell_same _ _ _ _ k2)]; rfl
    obtain ⟨v0, v1, -, -⟩ := spO_cells (spO_set (yr := lr) (yp := lp) k2)
    have HF : Hid (Touch (fun _ => False) w ((W2.setCell ⟨n + 1, 0, none⟩ (iV (lr : Int))).setCell ⟨n + 1, 1, none⟩ (u64 lp))) := HNb.out _ H2.out.1 _ _
    clear hz k2
    go_wp2_with fail
    refine bodyPost_ret (v := .tuple #[.agg #[iV (lr : Int), u64 lp], .bool false]) (by simp [results, Tryz.results26, go_sem, v0, v1]) rfl ?_
    exact ⟨by (rw [HX.out] <;> rfl), HF.out⟩
  · have HR2 : Hid (∀ W, Touch (fun _ => False) E W → Calls Tryz.prog 49 #[sP B, .agg #[u64 urc, u64 urk]] W fun e w' => e = .returned (.agg #[iV (rr : Int), u64 rp]) ∧ Touch (fun _ => False) W w') := HR.out hz
    have HC2 : Hid (∀ W, Touch (fun _ => False) E W → Calls Tryz.prog 50 #[sP B, .agg #[iV (lr : Int), u64 lp], .agg #[iV (rr : Int), u64 rp]] W fun e w' => e = .returned (.tuple #[.agg #[iV (cr : Int), u64 cp], .bool bel]) ∧ Touch (fun _ => False) W w') := HCh.out hz
    have HX : Hid (res = if bel = true then (⟨rr, rp⟩, true) else (⟨lr, lp⟩, false)) := by rw [hres.out]; exact if_neg hz
    have hcs : (urc == 0) = false ∨ ((urc == 0) = true ∧ (urk == 0) = false) := by
      by_cases h6 : urc = 0
      · exact .inr ⟨by simp [h6], by simp; exact fun e => hz ⟨h6, e⟩⟩
      · exact .inl (by simp [h6])
    clear hz HR HCh
    rcases hcs with e1 | ⟨e1, e2⟩
    all_goals
      go_wp2_with fail
      refine (HR2.out _ H2.out.1).mono ?_
      rintro e W3 ⟨rfl, t3⟩
      obtain ⟨W4, hW4⟩ : ∃ W, Hid (W = W3.alloc (.cells #[iV (rr : Int), u64 rp] 64)) := ⟨_, Eq.refl _⟩
      have H4 : Hid (Touch (fun _ => False) E W4 ∧ W4.heap[W3.heap.size]? = some (spO ⟨rr, rp⟩) ∧ W4.heap[m]? = some (spO ⟨lr, lp⟩)) := by
        rw [hW4.out]
        exact ⟨(H2.out.1.trans t3).alloc _, heap_alloc_new _ _, heap_keep (t3.alloc _) H2.out.2⟩
      clear t3 a2 a3 a4 a5 e1
      (try clear e2)
      go_upto_region 5 with fail
      rw [← hW4.out]
      clear hW4
      obtain ⟨m3, hm3⟩ : ∃ m, Hid (m = W3.heap.size) := ⟨_, Eq.refl _⟩
      rw [← hm3.out] at H4 ⊢
      obtain ⟨g0, g1, -, -⟩ := spO_cells H4.out.2.1
      obtain ⟨l0, l1, -, -⟩ := spO_cells H4.out.2.2
      go_wp2_with fail
      refine (HC2.out _ H4.out.1).mono ?_
      rintro e W5 ⟨rfl, t5⟩
      obtain ⟨W6, hW6⟩ : ∃ W, Hid (W = W5.alloc (.cells #[iV (cr : Int), u64 cp] 64)) := ⟨_, Eq.refl _⟩
      have H6 : Hid (Touch (fun _ => False) E W6 ∧ W6.heap[m3]? = some (spO ⟨rr, rp⟩) ∧ W6.heap[m]? = some (spO ⟨lr, lp⟩)) := by
        rw [hW6.out]
        exact ⟨(H4.out.1.trans t5).alloc _, heap_keep (t5.alloc _) H4.out.2.1, heap_keep (t5.alloc _) H4.out.2.2⟩
      clear t5 g0 g1 l0 l1
      go_upto_region 6 with fail
      rw [← hW6.out]
      clear hW6
      have k2 := (HC.out W6 H6.out.1).2
      obtain ⟨g0, g1, -, -⟩ := spO_cells H6.out.2.1
      obtain ⟨l0, l1, -, -⟩ := spO_cells H6.out.2.2
      obtain ⟨r0, r1, z0, z1⟩ := spO_cells k2
      cases bel
      · have HY : Hid (res = (⟨lr, lp⟩, false)) := HX.out
        have u0 : (W6.setCell ⟨n + 1, 0, none⟩ (iV (lr : Int))).cell? ⟨n + 1, 1, none⟩ = some (u64 0) := by rw [cell_of_block (heap_setCell_same _ _ _ _ k2)]; rfl
        obtain ⟨v0, v1, -, -⟩ := spO_cells (spO_set (yr := lr) (yp := lp) k2)
        have HF : Hid (Touch (fun _ => False) w ((W6.setCell ⟨n + 1, 0, none⟩ (iV (lr : Int))).setCell ⟨n + 1, 1, none⟩ (u64 lp))) := HNb.out _ H6.out.1 _ _
        clear k2
        go_wp2_with fail
        refine bodyPost_ret (v := .tuple #[.agg #[iV (lr : Int), u64 lp], .bool false]) (by simp [results, Tryz.results26, go_sem, v0, v1]) rfl ?_
        exact ⟨by (rw [HY.out] <;> rfl), HF.out⟩
      · have HY : Hid (res = (⟨rr, rp⟩, true)) := HX.out
        have u0 : (W6.setCell ⟨n + 1, 0, none⟩ (iV (rr : Int))).cell? ⟨n + 1, 1, none⟩ = some (u64 0) := by rw [cell_of_block (heap_setCell_same _ _ _ _ k2)]; rfl
        obtain ⟨v0, v1, -, -⟩ := spO_cells (spO_set (yr := rr) (yp := rp) k2)
        have HF : Hid (Touch (fun _ => False) w ((W6.setCell ⟨n + 1, 0, none⟩ (iV (rr : Int))).setCell ⟨n + 1, 1, none⟩ (u64 rp))) := HNb.out _ H6.out.1 _ _
        clear k2
        go_wp2_with fail
        refine bodyPost_ret (v := .tuple #[.agg #[iV (rr : Int), u64 rp], .bool true]) (by simp [results, Tryz.results26, go_sem, v0, v1]) rfl ?_
        exact ⟨by (rw [HY.out] <;> rfl), HF.out⟩
end Go.Proofs.YtnilikomoapcaaaGreat

/- Package seq: hasAny. -/
namespace Go.Proofs.YtnilikomoapcaaaGreat
open Go.RowKit
set_option linter.unusedVariables false
set_option linter.unusedSimpArgs false
set_option maxRecDepth 100000

set_option maxHeartbeats 8000000 in
theorem hasAny_any {w : World} {B : Bk} {S : SS} (h : SeqM w B S) (hI : Inv S) (c k n : Int) (hc : 0 ≤ c) (hk : 0 ≤ k) (hn : 1 ≤ n) (hkn : k + (n - 1) ≤ 9007199254740991) :
    Calls Tryz.prog 24 #[sP B, idV c k, iV n] w fun e w' => e = .returned (.bool (S.hasAny c k n)) ∧ Touch (fun _ => False) w w' := by
  obtain ⟨kk, hkk⟩ : ∃ x, Hid (x = k + (n - 1)) := ⟨_, Eq.refl _⟩
  unfold SS.hasAny
  have e0 : IntKind.i64.wrap (n - 1) = n - 1 := by rw [IntKind.wrap_i64]; omega
  have e0b : IntKind.u64.wrap (n - 1) = n - 1 := by rw [IntKind.wrap_u64]; omega
  have e0c : IntKind.u64.wrap (k + (n - 1)) = kk := by rw [hkk.out, IntKind.wrap_u64]; omega
  have hkk2 : 0 ≤ kk ∧ kk ≤ 9007199254740991 := by rw [hkk.out]; omega
  rw [← hkk.out]
  have hpl := hI.piece_lt c kk
  have hle := hI.piece_le c kk hc hkk2.1
  have hfo := hI.firstOk hpl
  have hln := hI.len_le (S.piece c kk)
  have hT1 : Touch (fun _ => False) w (w.alloc (idO c k)) := (Touch.refl _ _).alloc _
  have HB : Hid (∀ W, Touch (fun _ => False) (w.alloc (idO c k)) W → W.cell? ⟨w.heap.size, 0, none⟩ = some (u64 c) ∧ W.cell? ⟨w.heap.size, 1, none⟩ = some (u64 k)) := fun W t => idO_cells (heap_keep t (heap_alloc_new w _))
  have HTr : Hid (∀ W, Touch (fun _ => False) (w.alloc (idO c k)) W → Touch (fun _ => False) w W) := fun W t => hT1.trans t
  have HP : Hid (Calls Tryz.prog 38 #[sP B, .agg #[u64 c, u64 kk]] (w.alloc (idO c k)) fun e w' => e = .returned (iV (S.piece c kk : Int)) ∧ Touch (fun _ => False) (w.alloc (idO c k)) w') := pieceOf_any (h.keep0 hT1) hI c kk
  have HC : Hid (∀ W, Touch (fun _ => False) (w.alloc (idO c k)) W → W.cell? ⟨B.b, 1, none⟩ = some (.slice (some ⟨B.gp, 0, none⟩) S.pcs.length B.kp) ∧ W.cell? ⟨B.gp, S.piece c kk * 2, none⟩ = some (iV ((S.pc (S.piece c kk)).run : Int)) ∧ W.cell? ⟨B.gp, S.piece c kk * 2 + 1, none⟩ = some (u64 (S.pc (S.piece c kk)).pos)) := fun W t => by
    have hW := h.keep0 (hT1.trans t)
    exact ⟨hW.pcs.cell, hW.pc hpl⟩
  have HU : Hid (∀ W, Touch (fun _ => False) (w.alloc (idO c k)) W → Calls Tryz.prog 36 #[sP B, .agg #[iV ((S.pc (S.piece c kk)).run : Int), u64 (S.pc (S.piece c kk)).pos]] W fun e w' => e = .returned (.agg #[u64 (S.first (S.piece c kk)).c, u64 (S.first (S.piece c kk)).k, u64 (S.first (S.piece c kk)).lc, u64 (S.first (S.piece c kk)).lk, u64 (S.first (S.piece c kk)).rc, u64 (S.first (S.piece c kk)).rk]) ∧ Touch (fun _ => False) W w') := fun W t => (h.keep0 (hT1.trans t)).unit (hI.spOk hpl)
  have HLn : Hid (∀ W, Touch (fun _ => False) (w.alloc (idO c k)) W → Calls Tryz.prog 39 #[rP B.b 2, iV (S.piece c kk : Int)] W fun e w' => e = .returned (iV (S.len (S.piece c kk))) ∧ w' = W) := fun W t => r_lengthOf (h.keep0 (hT1.trans t)).ord _ hpl
  have l0 : (S.piece c kk : Int) < (S.pcs.length : Int) := by omega
  have l1 : (0 : Int) ≤ (S.piece c kk : Int) := by omega
  generalize S.len (S.piece c kk) = ln at *
  generalize S.first (S.piece c kk) = u at *
  obtain ⟨fc, fk, ulc, ulk, urc, urk⟩ := u
  generalize (S.pc (S.piece c kk)).run = xr at *
  generalize (S.pc (S.piece c kk)).pos = xp at *
  generalize S.piece c kk = p at *
  generalize S.pcs.length = np at *
  simp only at HU hle hfo ⊢
  obtain ⟨res, hres⟩ : ∃ r, Hid (r = decide (fc = c ∧ k < fk + ln)) := ⟨_, Eq.refl _⟩
  rw [← hres.out]
  have hf0 := fldId
  clear h hI hpl hc hkn hkk hle
  go_enter Tryz.func24, Tryz.ntmps24
  go_wp2_with fail
  refine HP.out.mono ?_
  rintro e W2 ⟨rfl, t2⟩
  have HT2 : Hid (Touch (fun _ => False) (w.alloc (idO c k)) W2) := t2
  clear t2 HP e0 e0b e0c
  obtain ⟨q1, q2, q3⟩ := HC.out W2 HT2.out
  go_wp2_with fail
  refine (HU.out _ HT2.out).mono ?_
  rintro e W3 ⟨rfl, t3⟩
  have HT3 : Hid (Touch (fun _ => False) (w.alloc (idO c k)) W3) := HT2.out.trans t3
  clear t3 HU q1 q2 q3 HT2 HC
  go_upto_region 3 with fail
  obtain ⟨W4, hW4⟩ : ∃ W, Hid (W = W3.alloc (.cells #[u64 fc, u64 fk] 28)) := ⟨_, Eq.refl _⟩
  have HT4 : Hid (Touch (fun _ => False) (w.alloc (idO c k)) W4 ∧ W4.heap[W3.heap.size]? = some (idO fc fk)) := by rw [hW4.out]; exact ⟨HT3.out.alloc _, heap_alloc_new _ _⟩
  rw [← hW4.out]
  clear hW4
  obtain ⟨m, hm⟩ : ∃ m, Hid (m = W3.heap.size) := ⟨_, Eq.refl _⟩
  rw [← hm.out] at HT4 ⊢
  clear hm HT3
  obtain ⟨B0, hB0⟩ : ∃ m, Hid (m = w.heap.size) := ⟨_, Eq.refl _⟩
  rw [← hB0.out] at HB ⊢
  obtain ⟨b0, b1⟩ := HB.out W4 HT4.out.1
  obtain ⟨b2, b3⟩ := idO_cells HT4.out.2
  have HLq : Hid (∀ N, Calls Tryz.prog 39 #[rP B.b 2, iV (p : Int)] (W4.drewN N) fun e w' => e = .returned (iV ln) ∧ w' = W4.drewN N) := fun N => HLn.out _ (HT4.out.1.drewN N)
  by_cases hfc : fc = c
  · have e1 : (fc == c) = true := by simp [hfc]
    have e3 : IntKind.u64.wrap ln = ln := by rw [IntKind.wrap_u64]; omega
    have e2 : IntKind.u64.wrap (fk + ln) = fk + ln := by rw [IntKind.wrap_u64]; omega
    have hr : res = decide (k < fk + ln) := by rw [hres.out]; simp [hfc]
    have HR : Hid (res = decide (k < fk + ln)) := hr
    clear hr
    clear hfc hfo hln
    go_quiet (first | (go_at_call 39; exact Calls.quiet_of_same (HLq.out _)))
    go_wp2_with fail
    go_ret
    exact ⟨congrArg (fun x => Ending.returned (.bool x)) HR.out.symm, HTr.out _ (HT4.out.1.drewN _)⟩
  · have e1 : (fc == c) = false := by simp [hfc]
    have hr : res = false := by rw [hres.out]; simp [hfc]
    have HR : Hid (res = false) := hr
    clear hr
    clear hfc hfo hln
    go_quiet (fail)
    go_wp2_with fail
    go_ret
    exact ⟨congrArg (fun x => Ending.returned (.bool x)) HR.out.symm, HTr.out _ (HT4.out.1.drewN _)⟩
end Go.Proofs.YtnilikomoapcaaaGreat

/- Package seq: Run. -/
namespace Go.Proofs.YtnilikomoapcaaaGreat
open Go.RowKit
set_option linter.unusedVariables false
set_option linter.unusedSimpArgs false
set_option maxRecDepth 100000

/-- Where a unit comes to. -/
def SS.placeFor (S : SS) (u : Un) : Int := S.placeOf u (S.parentOf u).1 (S.parentOf u).2 (S.between u).1 (S.between u).2.1
theorem may_iff {S : SS} {u : Un} {n : Int} : S.may u n = true ↔ (numOk u.c = true ∧ numOk u.k = true) ∧ 1 ≤ n ∧ n - 1 ≤ 9007199254740991 - u.k ∧ S.hasAny u.c u.k n = false ∧ (S.between u).2.2 = true := by
  unfold SS.may
  simp only [Bool.and_eq_true, decide_eq_true_eq, Bool.not_eq_true']
  constructor
  · rintro ⟨⟨⟨⟨⟨a, b⟩, c⟩, d⟩, e⟩, f⟩
    exact ⟨⟨a, b⟩, c, d, e, f⟩
  · rintro ⟨⟨a, b⟩, c, d, e, f⟩
    exact ⟨⟨⟨⟨⟨a, b⟩, c⟩, d⟩, e⟩, f⟩
theorem Inv.parP {S : SS} (h : Inv S) {u : Un} (hu : u.ok) (hb : (S.between u).2.2 = true) : SpP S (S.parentOf u).1 := by
  obtain ⟨b1, b2, b3, b4, b5, b6⟩ := h.betw hu hb
  have l1 := h.there hu.lc hu.lk.1 b1
  unfold SS.parentOf
  split
  · exact h.spotOfP l1.2.1 l1.2.2
  · split
    · have r1 := h.there hu.rc hu.rk.1 b2
      exact h.spotOfP r1.2.1 r1.2.2
    · exact h.spotOfP l1.2.1 l1.2.2
theorem Inv.placeLe {S : SS} (h : Inv S) {u : Un} (hu : u.ok) (hb : (S.between u).2.2 = true) : 0 ≤ S.placeFor u ∧ S.placeFor u ≤ S.total := by
  obtain ⟨b1, b2, b3, b4, b5, b6⟩ := h.betw hu hb
  have hr := h.rightOf_le hu
  unfold SS.placeFor SS.placeOf
  have := bis_le (p := fun i => S.placeP u (S.parentOf u).1 (S.parentOf u).2 ((S.between u).1 + (i : Int))) ((S.between u).2.1 - (S.between u).1).toNat 0 ((S.between u).2.1 - (S.between u).1).toNat (Nat.zero_le _)
  rw [b3, b4] at this ⊢
  omega
set_option maxHeartbeats 32000000 in
theorem run_any {w : World} {B : Bk} {S : SS} (h : SeqM w B S) (hI : Inv S) (u : Un) (hu : u.ok) (n : Int) (hn : -1152921504606846976 ≤ n ∧ n ≤ 1152921504606846976) (hC : S.may u n = true → Inv (S.cut (S.placeFor u)) ∧ (S.cut (S.placeFor u)).total + n ≤ 1152921504606846976) :
    Calls Tryz.prog 9 #[sP B, .agg #[u64 (u).c, u64 (u).k, u64 (u).lc, u64 (u).lk, u64 (u).rc, u64 (u).rk], iV n] w fun e w' => e = .returned (.bool (S.may u n)) ∧ Laid w w' B (S.run u n) := by
  obtain ⟨E, hE⟩ : ∃ E, Hid (E = w.alloc (unO u)) := ⟨_, Eq.refl _⟩
  have HTE : Hid (Touch (fun _ => False) w E) := by rw [hE.out]; exact (Touch.refl _ _).alloc _
  have HEB : Hid (E.heap[w.heap.size]? = some (unO u)) := by rw [hE.out]; exact heap_alloc_new _ _
  have HRi : Hid (∀ W, Calls Tryz.prog 23 #[.agg #[u64 u.c, u64 u.k]] W fun e w' => e = .returned (.bool (numOk u.c && numOk u.k)) ∧ Touch (fun _ => False) W w') := fun W => (right_any u.c u.k W).mono fun e w' q => ⟨q.1, by rw [q.2]; exact (Touch.refl _ _).alloc _⟩
  have hnk : numOk u.k = true → 1 ≤ u.k ∧ u.k ≤ 9007199254740991 := fun h => by simpa [numOk] using h
  have hnc : numOk u.c = true → 1 ≤ u.c ∧ u.c ≤ 9007199254740991 := fun h => by simpa [numOk] using h
  have HHa : Hid (numOk u.k = true → 1 ≤ n → n - 1 ≤ 9007199254740991 - u.k → ∀ W, Touch (fun _ => False) E W → Calls Tryz.prog 24 #[sP B, .agg #[u64 u.c, u64 u.k], iV n] W fun e w' => e = .returned (.bool (S.hasAny u.c u.k n)) ∧ Touch (fun _ => False) W w') := fun a b c W t => hasAny_any (h.keep0 (HTE.out.trans t)) hI u.c u.k n hu.c hu.k.1 b (by omega)
  have HBe : Hid (∀ W, Touch (fun _ => False) E W → Calls Tryz.prog 25 #[sP B, .agg #[u64 (u).c, u64 (u).k, u64 (u).lc, u64 (u).lk, u64 (u).rc, u64 (u).rk]] W fun e w' => e = .returned (.tuple #[iV (S.between u).1, iV (S.between u).2.1, .bool (S.between u).2.2]) ∧ Touch (fun _ => False) W w') := fun W t => between_any (h.keep0 (HTE.out.trans t)) hI u hu
  have HPa : Hid ((S.between u).2.2 = true → ∀ W, Touch (fun _ => False) E W → Calls Tryz.prog 26 #[sP B, .agg #[u64 (u).c, u64 (u).k, u64 (u).lc, u64 (u).lk, u64 (u).rc, u64 (u).rk]] W fun e w' => e = .returned (.tuple #[.agg #[iV (((S.parentOf u).1).run : Int), u64 ((S.parentOf u).1).pos], .bool (S.parentOf u).2]) ∧ Touch (fun _ => False) W w') := fun hb W t => by
    obtain ⟨b1, b2, b3, b4, b5, b6⟩ := hI.betw hu hb
    have l1 := hI.there hu.lc hu.lk.1 b1
    exact parentOf_any (h.keep0 (HTE.out.trans t)) hI u hu ⟨l1.2.1, l1.2.2⟩ fun hz => by
      have r1 := hI.there hu.rc hu.rk.1 b2
      exact ⟨r1.2.1, r1.2.2⟩
  have HPl : Hid ((S.between u).2.2 = true → ∀ W, Touch (fun _ => False) E W → Calls Tryz.prog 28 #[sP B, .agg #[u64 (u).c, u64 (u).k, u64 (u).lc, u64 (u).lk, u64 (u).rc, u64 (u).rk], .agg #[iV (((S.parentOf u).1).run : Int), u64 ((S.parentOf u).1).pos], .bool (S.parentOf u).2, iV (S.between u).1, iV (S.between u).2.1] W fun e w' => e = .returned (iV (S.placeFor u)) ∧ Touch (fun _ => False) W w') := fun hb W t => by
    obtain ⟨b1, b2, b3, b4, b5, b6⟩ := hI.betw hu hb
    refine placeOf_any (h.keep0 (HTE.out.trans t)) hI u hu _ (hI.parP hu hb) _ _ _ ?_ ?_ ?_
    · rw [b3]; exact b6
    · rw [b3, b4]; exact b5
    · rw [b4]; exact hI.rightOf_le hu
  have HLa : Hid (S.may u n = true → ∀ W, Touch (fun _ => False) E W → Calls Tryz.prog 27 #[sP B, iV (S.placeFor u), .agg #[u64 (u).c, u64 (u).k, u64 (u).lc, u64 (u).lk, u64 (u).rc, u64 (u).rk], .agg #[iV (((S.parentOf u).1).run : Int), u64 ((S.parentOf u).1).pos], iV n] W fun e w' => e = .returned (.tuple #[]) ∧ Laid W w' B (S.run u n)) := fun hm W t => by
    have hm' := may_iff.1 hm
    have e : S.run u n = S.lay (S.placeFor u) u (S.parentOf u).1 n := by unfold SS.run; rw [if_pos hm]; rfl
    rw [e]
    have hb := hm'.2.2.2.2
    exact lay_any (h.keep0 (HTE.out.trans t)) hI _ (hC hm).1 (hI.placeLe hu hb) u hu (hnc hm'.1.1).1 _ (hI.parP hu hb).1 n ⟨by have := hm'.2.1; omega, by have := hm'.2.2.1; have := (hnk hm'.1.2).1; omega⟩ (hC hm).2
  have HNo : Hid (S.may u n = false → ∀ W, Touch (fun _ => False) w W → Laid w W B (S.run u n)) := fun hm W t => by
    have e : S.run u n = S := by unfold SS.run; rw [if_neg (by rw [hm]; simp)]
    rw [e]
    exact h.laid.more t
  have HMay : Hid (S.may u n = ((numOk u.c && numOk u.k) && decide (1 ≤ n) && decide (n - 1 ≤ 9007199254740991 - u.k) && !S.hasAny u.c u.k n && (S.between u).2.2)) := Eq.refl _
  have HBox : Hid (∀ k, w.heap.size ≤ k → ¬ B.has k) := fun k hk e => by have := h.lt e; omega
  have Hnk : Hid (numOk u.k = true → 1 ≤ u.k ∧ u.k ≤ 9007199254740991) := hnk
  have HMi : Hid (S.may u n = true ↔ _) := may_iff
  obtain ⟨sr, hsr⟩ : ∃ x, Hid (x = S.run u n) := ⟨_, Eq.refl _⟩
  rw [← hsr.out] at HLa HNo ⊢
  generalize S.may u n = may at *
  generalize S.placeFor u = pf at *
  generalize S.parentOf u = po at *
  generalize S.between u = bt at *
  generalize S.hasAny u.c u.k n = ha at *
  obtain ⟨⟨pr, pp⟩, left⟩ := po
  obtain ⟨lo, hi, bb⟩ := bt
  obtain ⟨uc, uk, ulc, ulk, urc, urk⟩ := u
  simp only at hE HEB HRi HHa HBe HPa HPl HLa HMay Hnk ⊢
  have HC6 : Hid (∀ W : World, W.heap[w.heap.size]? = some (unO ⟨uc, uk, ulc, ulk, urc, urk⟩) → W.cell? ⟨w.heap.size, 0, none⟩ = some (u64 uc) ∧ W.cell? ⟨w.heap.size, 1, none⟩ = some (u64 uk) ∧ W.cell? ⟨w.heap.size, 2, none⟩ = some (u64 ulc) ∧ W.cell? ⟨w.heap.size, 3, none⟩ = some (u64 ulk) ∧ W.cell? ⟨w.heap.size, 4, none⟩ = some (u64 urc) ∧ W.cell? ⟨w.heap.size, 5, none⟩ = some (u64 urk)) := fun W h => unO_cells h
  generalize numOk uc = nc at *
  obtain ⟨nk, hnkk⟩ : ∃ b, b = numOk uk := ⟨_, rfl⟩
  rw [← hnkk] at HRi HHa HMay Hnk
  have hukr := hu.k
  simp only at hukr
  clear h hI hu hC hnk hnc hsr HMi hnkk
  obtain ⟨a0, a1, a2, a3, a4, a5⟩ := HC6.out E HEB.out
  go_enter Tryz.func9, Tryz.ntmps9
  go_upto_region 1 with fail
  rw [← hE.out]
  clear hE
  obtain ⟨m, hm⟩ : ∃ m, Hid (m = w.heap.size) := ⟨_, Eq.refl _⟩
  rw [← hm.out] at HEB HC6 a0 a1 a2 a3 a4 a5 ⊢
  by_cases hr : (nc && nk) = true
  · rw [hr] at HRi HMay
    have hnk1 : nk = true := by simp only [Bool.and_eq_true] at hr; exact hr.2
    have huk := Hnk.out hnk1
    have HHb : Hid (1 ≤ n → n - 1 ≤ 9007199254740991 - uk → ∀ W, Touch (fun _ => False) E W → Calls Tryz.prog 24 #[sP B, .agg #[u64 uc, u64 uk], iV n] W fun e w' => e = .returned (.bool ha) ∧ Touch (fun _ => False) W w') := HHa.out hnk1
    clear hr hnk1 HHa
    have HK : Hid (∀ W, Touch (fun _ => False) E W → W.cell? ⟨m, 0, none⟩ = some (u64 uc) ∧ W.cell? ⟨m, 1, none⟩ = some (u64 uk) ∧ W.cell? ⟨m, 2, none⟩ = some (u64 ulc) ∧ W.cell? ⟨m, 3, none⟩ = some (u64 ulk) ∧ W.cell? ⟨m, 4, none⟩ = some (u64 urc) ∧ W.cell? ⟨m, 5, none⟩ = some (u64 urk)) := fun W t => HC6.out W (heap_keep t HEB.out)
    by_cases h1 : n < 1
    · have HX : Hid (may = false) := by rw [HMay.out, show decide (1 ≤ n) = false from by simp; omega]; exact Eq.refl _
      clear HMay HHb huk
      go_wp2_with fail
      refine (HRi.out _).mono ?_
      rintro e W1 ⟨rfl, t1⟩
      have HT : Hid (Touch (fun _ => False) w W1) := HTE.out.trans t1
      clear t1
      go_wp2_with fail
      go_ret
      exact ⟨congrArg (fun x => Ending.returned (.bool x)) HX.out.symm, HNo.out HX.out _ HT.out⟩
    · have e2 : IntKind.i64.wrap (n - 1) = n - 1 := by rw [IntKind.wrap_i64]; omega
      have e3 : IntKind.u64.wrap (n - 1) = n - 1 := by rw [IntKind.wrap_u64]; omega
      have e4 : IntKind.u64.wrap (9007199254740991 - uk) = 9007199254740991 - uk := by rw [IntKind.wrap_u64]; omega
      by_cases h2 : 9007199254740991 - uk < n - 1
      · have hx : may = false := by rw [HMay.out, show decide (n - 1 ≤ 9007199254740991 - uk) = false from by simp; omega]; simp only [Bool.and_false, Bool.false_and]
        have HX : Hid (may = false) := hx
        clear hx
        clear HMay HHb huk
        go_wp2_with fail
        refine (HRi.out _).mono ?_
        rintro e W1 ⟨rfl, t1⟩
        have HT1 : Hid (Touch (fun _ => False) E W1) := t1
        clear t1
        clear a0 a1 a2 a3 a4 a5
        obtain ⟨a0, a1, a2, a3, a4, a5⟩ := HK.out W1 HT1.out
        go_wp2_with fail
        go_ret
        exact ⟨congrArg (fun x => Ending.returned (.bool x)) HX.out.symm, HNo.out HX.out _ (HTE.out.trans HT1.out)⟩
      · have HH2 : Hid (∀ W, Touch (fun _ => False) E W → Calls Tryz.prog 24 #[sP B, .agg #[u64 uc, u64 uk], iV n] W fun e w' => e = .returned (.bool ha) ∧ Touch (fun _ => False) W w') := HHb.out (by omega) (by omega)
        have hx : may = (!ha && bb) := by
          rw [HMay.out, show decide (1 ≤ n) = true from by simp; omega, show decide (n - 1 ≤ 9007199254740991 - uk) = true from by simp; omega]
          simp only [Bool.true_and, Bool.and_true]
        have HM2 : Hid (may = (!ha && bb)) := hx
        clear hx
        clear HMay HHb huk
        go_wp2_with fail
        refine (HRi.out _).mono ?_
        rintro e W1 ⟨rfl, t1⟩
        have HT1 : Hid (Touch (fun _ => False) E W1) := t1
        clear t1 HRi
        clear a0 a1 a2 a3 a4 a5
        obtain ⟨a0, a1, a2, a3, a4, a5⟩ := HK.out W1 HT1.out
        go_wp2_with fail
        refine (HH2.out _ HT1.out).mono ?_
        rintro e W2 ⟨rfl, t2⟩
        have HT2 : Hid (Touch (fun _ => False) E W2) := HT1.out.trans t2
        clear t2 HH2
        clear a0 a1 a2 a3 a4 a5
        obtain ⟨a0, a1, a2, a3, a4, a5⟩ := HK.out W2 HT2.out
        cases ha
        · go_wp2_with fail
          refine (HBe.out _ HT2.out).mono ?_
          rintro e W3 ⟨rfl, t3⟩
          have HT3 : Hid (Touch (fun _ => False) E W3) := HT2.out.trans t3
          clear t3 HBe
          clear a0 a1 a2 a3 a4 a5
          obtain ⟨a0, a1, a2, a3, a4, a5⟩ := HK.out W3 HT3.out
          cases bb
          · have HX : Hid (may = false) := HM2.out
            go_wp2_with fail
            go_ret
            exact ⟨congrArg (fun x => Ending.returned (.bool x)) HX.out.symm, HNo.out HX.out _ (HTE.out.trans HT3.out)⟩
          · have HX : Hid (may = true) := HM2.out
            have HPa2 : Hid (∀ W, Touch (fun _ => False) E W → Calls Tryz.prog 26 #[sP B, .agg #[u64 uc, u64 uk, u64 ulc, u64 ulk, u64 urc, u64 urk]] W fun e w' => e = .returned (.tuple #[.agg #[iV (pr : Int), u64 pp], .bool left]) ∧ Touch (fun _ => False) W w') := HPa.out rfl
            have HPl2 : Hid (∀ W, Touch (fun _ => False) E W → Calls Tryz.prog 28 #[sP B, .agg #[u64 uc, u64 uk, u64 ulc, u64 ulk, u64 urc, u64 urk], .agg #[iV (pr : Int), u64 pp], .bool left, iV lo, iV hi] W fun e w' => e = .returned (iV pf) ∧ Touch (fun _ => False) W w') := HPl.out rfl
            have HLa2 : Hid (∀ W, Touch (fun _ => False) E W → Calls Tryz.prog 27 #[sP B, iV pf, .agg #[u64 uc, u64 uk, u64 ulc, u64 ulk, u64 urc, u64 urk], .agg #[iV (pr : Int), u64 pp], iV n] W fun e w' => e = .returned (.tuple #[]) ∧ Laid W w' B sr) := HLa.out HX.out
            clear HPa HPl HLa HNo
            go_wp2_with fail
            refine (HPa2.out _ HT3.out).mono ?_
            rintro e W4 ⟨rfl, t4⟩
            obtain ⟨W5, hW5⟩ : ∃ W, Hid (W = W4.alloc (.cells #[iV (pr : Int), u64 pp] 64)) := ⟨_, Eq.refl _⟩
            have H5 : Hid (Touch (fun _ => False) E W5 ∧ W5.heap[W4.heap.size]? = some (spO ⟨pr, pp⟩) ∧ w.heap.size ≤ W4.heap.size) := by
              rw [hW5.out]
              exact ⟨(HT3.out.trans t4).alloc _, heap_alloc_new _ _, Nat.le_trans HTE.out.size (HT3.out.trans t4).size⟩
            clear t4 HPa2 a0 a1 a2 a3 a4 a5
            go_upto_region 7 with fail
            rw [← hW5.out]
            clear hW5
            obtain ⟨q, hq⟩ : ∃ m, Hid (m = W4.heap.size) := ⟨_, Eq.refl _⟩
            rw [← hq.out] at H5 ⊢
            have HS : Hid (∀ W, Touch (fun _ => False) W5 W → (W.cell? ⟨m, 0, none⟩ = some (u64 uc) ∧ W.cell? ⟨m, 1, none⟩ = some (u64 uk) ∧ W.cell? ⟨m, 2, none⟩ = some (u64 ulc) ∧ W.cell? ⟨m, 3, none⟩ = some (u64 ulk) ∧ W.cell? ⟨m, 4, none⟩ = some (u64 urc) ∧ W.cell? ⟨m, 5, none⟩ = some (u64 urk)) ∧ W.cell? ⟨q, 0, none⟩ = some (iV (pr : Int)) ∧ W.cell? ⟨q, 1, none⟩ = some (u64 pp)) := fun W t => by
              have b := spO_cells (heap_keep t H5.out.2.1)
              exact ⟨HK.out W (H5.out.1.trans t), b.1, b.2.1⟩
            have HS2 : Hid (∀ W W', Touch (fun _ => False) W5 W → Touch B.has W W' → (W'.cell? ⟨m, 0, none⟩ = some (u64 uc) ∧ W'.cell? ⟨m, 1, none⟩ = some (u64 uk) ∧ W'.cell? ⟨m, 2, none⟩ = some (u64 ulc) ∧ W'.cell? ⟨m, 3, none⟩ = some (u64 ulk) ∧ W'.cell? ⟨m, 4, none⟩ = some (u64 urc) ∧ W'.cell? ⟨m, 5, none⟩ = some (u64 urk)) ∧ W'.cell? ⟨q, 0, none⟩ = some (iV (pr : Int)) ∧ W'.cell? ⟨q, 1, none⟩ = some (u64 pp)) := fun W W' t t' => by
              have hu := heap_keep (H5.out.1.trans t) HEB.out
              have hs := heap_keep t H5.out.2.1
              have hmm : w.heap.size ≤ m := by rw [hm.out]; exact Nat.le_refl _
              have b := spO_cells ((t'.block q (lt_of_heap hs) (HBox.out q H5.out.2.2)).trans hs)
              exact ⟨HC6.out W' ((t'.block m (lt_of_heap hu) (HBox.out m hmm)).trans hu), b.1, b.2.1⟩
            have s0 := HS.out _ (Touch.refl _ W5).drew
            go_region_held3 (fun W => (W.cell? ⟨m, 0, none⟩ = some (u64 uc) ∧ W.cell? ⟨m, 1, none⟩ = some (u64 uk) ∧ W.cell? ⟨m, 2, none⟩ = some (u64 ulc) ∧ W.cell? ⟨m, 3, none⟩ = some (u64 ulk) ∧ W.cell? ⟨m, 4, none⟩ = some (u64 urc) ∧ W.cell? ⟨m, 5, none⟩ = some (u64 urk)) ∧ W.cell? ⟨q, 0, none⟩ = some (iV (pr : Int)) ∧ W.cell? ⟨q, 1, none⟩ = some (u64 pp)) (first | assumption)
              (first
                | (go_at_call 28; (with_reducible refine (HPl2.out _ (H5.out.1.trans (Touch.refl _ W5).drew)).mono ?_); rintro e W6 ⟨rfl, t6⟩; have HT6 : Hid (Touch (fun _ => False) W5 W6) := (Touch.refl _ W5).drew.trans t6; have s6 := HS.out W6 HT6.out; clear t6)
                | (go_at_call 27; (with_reducible refine (HLa2.out _ (H5.out.1.trans HT6.out)).mono ?_); rintro e W7 ⟨rfl, l7⟩; have HF : Hid (Laid w W7 B sr) := l7.after0 (HTE.out.trans (H5.out.1.trans HT6.out)); obtain ⟨B7, m7, b7, f7, t7⟩ := l7; have s7 := HS2.out W6 W7 HT6.out t7; clear m7 b7 f7 t7))
            all_goals (try go_wp2_with fail)
            all_goals go_ret
            all_goals exact ⟨congrArg (fun x => Ending.returned (.bool x)) HX.out.symm, HF.out⟩
        · have HX : Hid (may = false) := HM2.out
          go_wp2_with fail
          go_ret
          exact ⟨congrArg (fun x => Ending.returned (.bool x)) HX.out.symm, HNo.out HX.out _ (HTE.out.trans HT2.out)⟩
  · have hr' : (nc && nk) = false := by simpa using hr
    rw [hr'] at HRi HMay
    have HX : Hid (may = false) := HMay.out
    clear hr hr' HMay
    go_wp2_with fail
    refine (HRi.out _).mono ?_
    rintro e W1 ⟨rfl, t1⟩
    have HT : Hid (Touch (fun _ => False) w W1) := HTE.out.trans t1
    clear t1
    go_wp2_with fail
    go_ret
    exact ⟨congrArg (fun x => Ending.returned (.bool x)) HX.out.symm, HNo.out HX.out _ HT.out⟩
end Go.Proofs.YtnilikomoapcaaaGreat
