/- Package seq: Len, rightOf. -/
import Derived.Test.YtnilikomoapcaaaGreatPart9
namespace Go.Proofs.YtnilikomoapcaaaGreat
open Go.RowKit
set_option linter.unusedVariables false
set_option linter.unusedSimpArgs false
set_option maxRecDepth 100000

set_option maxHeartbeats 4000000 in
theorem len_any {w : World} {B : Bk} {S : SS} (h : SeqM w B S) :
    Calls Tryz.prog 13 #[sP B] w fun e w' => e = .returned (iV S.total) ∧ Touch (fun _ => False) w w' := by
  have HL : Hid (Calls Tryz.prog 35 #[rP B.b 2] w fun e w' => e = .returned (iV S.total) ∧ Touch (fun _ => False) w w') := r_length h.ord
  generalize S.total = t at *
  clear h
  go_enter Tryz.func13, Tryz.ntmps13
  go_wp2_with fail
  refine HL.out.mono ?_
  rintro e w1 ⟨rfl, t1⟩
  go_wp2_with fail
  go_ret
  exact ⟨rfl, t1⟩
set_option maxHeartbeats 4000000 in
theorem rightOf_any {w : World} {B : Bk} {S : SS} (h : SeqM w B S) (hI : Inv S) (u : Un) (hu : u.ok) :
    Calls Tryz.prog 48 #[sP B, .agg #[u64 (u).c, u64 (u).k, u64 (u).lc, u64 (u).lk, u64 (u).rc, u64 (u).rk]] w fun e w' => e = .returned (iV (S.rightOf u)) ∧ Touch (fun _ => False) w w' := by
  have hT : Touch (fun _ => False) w (w.alloc (.cells #[u64 u.c, u64 u.k, u64 u.lc, u64 u.lk, u64 u.rc, u64 u.rk] 32)) := (Touch.refl _ _).alloc _
  have HL : Hid (Calls Tryz.prog 13 #[sP B] (w.alloc (.cells #[u64 u.c, u64 u.k, u64 u.lc, u64 u.lk, u64 u.rc, u64 u.rk] 32)) fun e w' => e = .returned (iV S.total) ∧ Touch (fun _ => False) (w.alloc (.cells #[u64 u.c, u64 u.k, u64 u.lc, u64 u.lk, u64 u.rc, u64 u.rk] 32)) w') := len_any (h.keep0 hT)
  have HF : Hid (Calls Tryz.prog 15 #[sP B, .agg #[u64 u.rc, u64 u.rk]] (w.alloc (.cells #[u64 u.c, u64 u.k, u64 u.lc, u64 u.lk, u64 u.rc, u64 u.rk] 32)) fun e w' => e = .returned (iV (S.find u.rc u.rk)) ∧ Touch (fun _ => False) (w.alloc (.cells #[u64 u.c, u64 u.k, u64 u.lc, u64 u.lk, u64 u.rc, u64 u.rk] 32)) w') := find_any (h.keep0 hT) hI u.rc u.rk hu.rc hu.rk.1 hu.rk.2
  have HT : Hid (Touch (fun _ => False) w (w.alloc (.cells #[u64 u.c, u64 u.k, u64 u.lc, u64 u.lk, u64 u.rc, u64 u.rk] 32))) := hT
  obtain ⟨uc, uk, ulc, ulk, urc, urk⟩ := u
  unfold SS.rightOf
  simp only at HL HF HT ⊢
  generalize S.find urc urk = fd at *
  generalize S.total = tt at *
  obtain ⟨res, hres⟩ : ∃ r, Hid (r = if urc = 0 ∧ urk = 0 then tt else fd) := ⟨_, Eq.refl _⟩
  rw [← hres.out]
  clear h hI hu hT
  by_cases h1 : urc = 0
  · by_cases h2 : urk = 0
    · have HR : Hid (res = tt) := by rw [hres.out]; exact if_pos ⟨h1, h2⟩
      have e1 : (urc == 0) = true := by simp [h1]
      have e2 : (urk == 0) = true := by simp [h2]
      clear h1 h2
      go_enter Tryz.func48, Tryz.ntmps48
      go_wp2_with fail
      refine HL.out.mono ?_
      rintro e w1 ⟨rfl, t1⟩
      go_wp2_with fail
      go_ret
      exact ⟨congrArg (fun x => Ending.returned (iV x)) HR.out.symm, HT.out.trans t1⟩
    · have HR : Hid (res = fd) := by rw [hres.out]; exact if_neg (fun h => h2 h.2)
      have e1 : (urc == 0) = true := by simp [h1]
      have e2 : (urk == 0) = false := by simp [h2]
      clear h1 h2
      go_enter Tryz.func48, Tryz.ntmps48
      go_wp2_with fail
      refine HF.out.mono ?_
      rintro e w1 ⟨rfl, t1⟩
      go_wp2_with fail
      go_ret
      exact ⟨congrArg (fun x => Ending.returned (iV x)) HR.out.symm, HT.out.trans t1⟩
  · have HR : Hid (res = fd) := by rw [hres.out]; exact if_neg (fun h => h1 h.1)
    have e1 : (urc == 0) = false := by simp [h1]
    clear h1
    go_enter Tryz.func48, Tryz.ntmps48
    go_wp2_with fail
    refine HF.out.mono ?_
    rintro e w1 ⟨rfl, t1⟩
    go_wp2_with fail
    go_ret
    exact ⟨congrArg (fun x => Ending.returned (iV x)) HR.out.symm, HT.out.trans t1⟩
end Go.Proofs.YtnilikomoapcaaaGreat

/- Package seq: between, isAhead. -/
namespace Go.Proofs.YtnilikomoapcaaaGreat
open Go.RowKit
set_option linter.unusedVariables false
set_option linter.unusedSimpArgs false
set_option maxRecDepth 100000

theorem Inv.find_bd {S : SS} (h : Inv S) (c k : Int) (hk : 0 ≤ k) (hc : 0 ≤ c) : -1 ≤ S.find c k ∧ S.find c k ≤ 9288674231451648 := by
  have h1 := h.ahead_le (S.piece c k)
  have h2 := h.len_le (S.piece c k)
  have h3 := h.piece_le c k hc hk
  unfold SS.find
  split
  · exact ⟨by omega, by omega⟩
  · next hn =>
    have a : (S.first (S.piece c k)).c = c := Decidable.byContradiction fun e => hn (.inl e)
    have b : ¬ S.len (S.piece c k) ≤ k - (S.first (S.piece c k)).k := fun e => hn (.inr e)
    exact ⟨by omega, by omega⟩
theorem unO_cells {W : World} {n : Nat} {u : Un} (h : W.heap[n]? = some (unO u)) : W.cell? ⟨n, 0, none⟩ = some (u64 u.c) ∧ W.cell? ⟨n, 1, none⟩ = some (u64 u.k) ∧ W.cell? ⟨n, 2, none⟩ = some (u64 u.lc) ∧ W.cell? ⟨n, 3, none⟩ = some (u64 u.lk) ∧ W.cell? ⟨n, 4, none⟩ = some (u64 u.rc) ∧ W.cell? ⟨n, 5, none⟩ = some (u64 u.rk) :=
  ⟨by rw [cell_of_block h]; rfl, by rw [cell_of_block h]; rfl, by rw [cell_of_block h]; rfl, by rw [cell_of_block h]; rfl, by rw [cell_of_block h]; rfl, by rw [cell_of_block h]; rfl⟩
set_option maxHeartbeats 8000000 in
theorem between_any {w : World} {B : Bk} {S : SS} (h : SeqM w B S) (hI : Inv S) (u : Un) (hu : u.ok) :
    Calls Tryz.prog 25 #[sP B, .agg #[u64 (u).c, u64 (u).k, u64 (u).lc, u64 (u).lk, u64 (u).rc, u64 (u).rk]] w fun e w' => e = .returned (.tuple #[iV (S.between u).1, iV (S.between u).2.1, .bool (S.between u).2.2]) ∧ Touch (fun _ => False) w w' := by
  obtain ⟨E, hE⟩ : ∃ E, Hid (E = w.alloc (unO u)) := ⟨_, Eq.refl _⟩
  have HTE : Hid (Touch (fun _ => False) w E) := by rw [hE.out]; exact (Touch.refl _ _).alloc _
  have HEB : Hid (E.heap[w.heap.size]? = some (unO u)) := by rw [hE.out]; exact heap_alloc_new _ _
  have HC : Hid (∀ W, Touch (fun _ => False) E W → W.cell? ⟨w.heap.size, 0, none⟩ = some (u64 u.c) ∧ W.cell? ⟨w.heap.size, 1, none⟩ = some (u64 u.k) ∧ W.cell? ⟨w.heap.size, 2, none⟩ = some (u64 u.lc) ∧ W.cell? ⟨w.heap.size, 3, none⟩ = some (u64 u.lk) ∧ W.cell? ⟨w.heap.size, 4, none⟩ = some (u64 u.rc) ∧ W.cell? ⟨w.heap.size, 5, none⟩ = some (u64 u.rk)) := fun W t => unO_cells (heap_keep t HEB.out)
  have HF : Hid (∀ W, Touch (fun _ => False) E W → Calls Tryz.prog 15 #[sP B, .agg #[u64 u.lc, u64 u.lk]] W fun e w' => e = .returned (iV (S.find u.lc u.lk)) ∧ Touch (fun _ => False) W w') := fun W t => find_any (h.keep0 (HTE.out.trans t)) hI u.lc u.lk hu.lc hu.lk.1 hu.lk.2
  have HR : Hid (∀ W, Touch (fun _ => False) E W → Calls Tryz.prog 48 #[sP B, .agg #[u64 (u).c, u64 (u).k, u64 (u).lc, u64 (u).lk, u64 (u).rc, u64 (u).rk]] W fun e w' => e = .returned (iV (S.rightOf u)) ∧ Touch (fun _ => False) W w') := fun W t => rightOf_any (h.keep0 (HTE.out.trans t)) hI u hu
  have hfb := hI.find_bd u.lc u.lk hu.lk.1 hu.lc
  unfold SS.between
  generalize S.find u.lc u.lk = fd at *
  generalize S.rightOf u = rt at *
  obtain ⟨uc, uk, ulc, ulk, urc, urk⟩ := u
  simp only at HC HF HR ⊢
  have e0 : IntKind.i64.wrap (fd + 1) = fd + 1 := by rw [IntKind.wrap_i64]; omega
  obtain ⟨res, hres⟩ : ∃ r : Int × Int × Bool, Hid (r = if (fd + 1 = 0 ∧ ¬ (ulc = 0 ∧ ulk = 0)) ∨ rt < fd + 1 then (0, 0, false) else (fd + 1, rt, true)) := ⟨_, Eq.refl _⟩
  rw [← hres.out]
  have S0 := HC.out _ (Touch.refl _ E).drew
  clear h hI hu hfb
  go_enter Tryz.func25, Tryz.ntmps25
  go_upto_region 1 with fail
  rw [← hE.out]
  clear hE HEB
  obtain ⟨n, hn⟩ : ∃ m, Hid (m = w.heap.size) := ⟨_, Eq.refl _⟩
  rw [← hn.out] at S0 HC ⊢
  go_cut [4, 5] (fun t s wx => t = iV (fd + 1) ∧ s = iV rt ∧ Hid (Touch (fun _ => False) E wx))
  case first =>
    go_wp2_with fail
    go_region_held3 (fun W => W.cell? ⟨n, 0, none⟩ = some (u64 uc) ∧ W.cell? ⟨n, 1, none⟩ = some (u64 uk) ∧ W.cell? ⟨n, 2, none⟩ = some (u64 ulc) ∧ W.cell? ⟨n, 3, none⟩ = some (u64 ulk) ∧ W.cell? ⟨n, 4, none⟩ = some (u64 urc) ∧ W.cell? ⟨n, 5, none⟩ = some (u64 urk)) (first | assumption)
      (first
        | (go_at_call 15; (with_reducible refine (HF.out _ (Touch.refl _ E).drew).mono ?_); rintro e w1 ⟨rfl, t1⟩; have HT1 : Hid (Touch (fun _ => False) E w1) := (Touch.refl _ E).drew.trans t1; have S1 := HC.out w1 HT1.out; clear t1)
        | (go_at_call 48; (with_reducible refine (HR.out _ HT1.out).mono ?_); rintro e w2 ⟨rfl, t2⟩; have HT2 : Hid (Touch (fun _ => False) E w2) := HT1.out.trans t2; have S2 := HC.out w2 HT2.out; clear t2))
    all_goals (try go_wp2_with fail)
    all_goals go_meet
    all_goals (case rel => exact ⟨rfl, rfl, HT2.out⟩)
  case rest =>
    obtain ⟨rfl, rfl, HT⟩ := hcut
    obtain ⟨wf, hwf⟩ : ∃ we, we = wc := ⟨_, rfl⟩
    subst hwf
    obtain ⟨-, -, k2, k3, -, -⟩ := HC.out _ HT.out
    clear S0 HF HR
    have HT' : Hid (Touch (fun _ => False) w wf) := HTE.out.trans HT.out
    by_cases h1 : fd + 1 = 0
    · have e1 : (fd + 1 == 0) = true := by simp [h1]
      by_cases h2 : ulc = 0
      · have e2 : (ulc == 0) = true := by simp [h2]
        by_cases h3 : ulk = 0
        · have e3 : (ulk == 0) = true := by simp [h3]
          by_cases h4 : rt < fd + 1
          · have HX : Hid (res = (0, 0, false)) := by rw [hres.out]; exact if_pos (.inr h4)
            clear h1 h2 h3
            go_wp2_with fail
            refine bodyPost_ret (v := .tuple #[iV 0, iV 0, .bool false]) (by simp [results, Tryz.results25, go_sem]) rfl ?_
            exact ⟨by rw [HX.out], HT'.out⟩
          · have HX : Hid (res = (fd + 1, rt, true)) := by rw [hres.out]; exact if_neg (fun h => h.elim (fun h => h.2 ⟨h2, h3⟩) h4)
            clear h1 h2 h3
            go_wp2_with fail
            refine bodyPost_ret (v := .tuple #[iV (fd + 1), iV rt, .bool true]) (by simp [results, Tryz.results25, go_sem]) rfl ?_
            exact ⟨by rw [HX.out], HT'.out⟩
        · have e3 : (ulk == 0) = false := by simp [h3]
          have HX : Hid (res = (0, 0, false)) := by rw [hres.out]; exact if_pos (.inl ⟨h1, fun h => h3 h.2⟩)
          clear h1 h2 h3
          go_wp2_with fail
          refine bodyPost_ret (v := .tuple #[iV 0, iV 0, .bool false]) (by simp [results, Tryz.results25, go_sem]) rfl ?_
          exact ⟨by rw [HX.out], HT'.out⟩
      · have e2 : (ulc == 0) = false := by simp [h2]
        have HX : Hid (res = (0, 0, false)) := by rw [hres.out]; exact if_pos (.inl ⟨h1, fun h => h2 h.1⟩)
        clear h1 h2
        go_wp2_with fail
        refine bodyPost_ret (v := .tuple #[iV 0, iV 0, .bool false]) (by simp [results, Tryz.results25, go_sem]) rfl ?_
        exact ⟨by rw [HX.out], HT'.out⟩
    · have e1 : (fd + 1 == 0) = false := by simp [h1]
      by_cases h4 : rt < fd + 1
      · have HX : Hid (res = (0, 0, false)) := by rw [hres.out]; exact if_pos (.inr h4)
        clear h1
        go_wp2_with fail
        refine bodyPost_ret (v := .tuple #[iV 0, iV 0, .bool false]) (by simp [results, Tryz.results25, go_sem]) rfl ?_
        exact ⟨by rw [HX.out], HT'.out⟩
      · have HX : Hid (res = (fd + 1, rt, true)) := by rw [hres.out]; exact if_neg (fun h => h.elim (fun h => h1 h.1) h4)
        clear h1
        go_wp2_with fail
        refine bodyPost_ret (v := .tuple #[iV (fd + 1), iV rt, .bool true]) (by simp [results, Tryz.results25, go_sem]) rfl ?_
        exact ⟨by rw [HX.out], HT'.out⟩
end Go.Proofs.YtnilikomoapcaaaGreat
