/- Package seq: isAhead. -/
import Derived.Test.YtcolbgbmnmkogabSeqU9
namespace Go.Proofs.Ytcolbgbmnmkogab
open Go.RowKit
set_option linter.unusedVariables false
set_option linter.unusedSimpArgs false
set_option maxRecDepth 100000

set_option maxHeartbeats 8000000 in
theorem isAhead_any {w : World} {B : Bk} {S : SS} (h : SeqM w B S) (hI : Inv S) (u o : Un) (hu : u.ok) (ho : o.ok) :
    Calls Try.prog 65 #[sP B, .agg #[u64 (u).c, u64 (u).k, u64 (u).lc, u64 (u).lk, u64 (u).rc, u64 (u).rk], .agg #[u64 (o).c, u64 (o).k, u64 (o).lc, u64 (o).lk, u64 (o).rc, u64 (o).rk]] w fun e w' => e = .returned (.bool (S.isAhead u o)) ∧ Touch (fun _ => False) w w' := by
  obtain ⟨E, hE⟩ : ∃ E, Hid (E = (w.alloc (unO u)).alloc (unO o)) := ⟨_, Eq.refl _⟩
  have HTE : Hid (Touch (fun _ => False) w E) := by rw [hE.out]; exact ((Touch.refl _ _).alloc _).alloc _
  have HEB : Hid (E.heap[w.heap.size]? = some (unO u) ∧ E.heap[w.heap.size + 1]? = some (unO o)) := by rw [hE.out]; exact heap_two _ _ _
  have HC : Hid (∀ W, Touch (fun _ => False) E W → (W.cell? ⟨w.heap.size, 0, none⟩ = some (u64 u.c) ∧ W.cell? ⟨w.heap.size, 1, none⟩ = some (u64 u.k) ∧ W.cell? ⟨w.heap.size, 2, none⟩ = some (u64 u.lc) ∧ W.cell? ⟨w.heap.size, 3, none⟩ = some (u64 u.lk) ∧ W.cell? ⟨w.heap.size, 4, none⟩ = some (u64 u.rc) ∧ W.cell? ⟨w.heap.size, 5, none⟩ = some (u64 u.rk)) ∧ W.cell? ⟨w.heap.size + 1, 0, none⟩ = some (u64 o.c) ∧ W.cell? ⟨w.heap.size + 1, 1, none⟩ = some (u64 o.k) ∧ W.cell? ⟨w.heap.size + 1, 2, none⟩ = some (u64 o.lc) ∧ W.cell? ⟨w.heap.size + 1, 3, none⟩ = some (u64 o.lk) ∧ W.cell? ⟨w.heap.size + 1, 4, none⟩ = some (u64 o.rc) ∧ W.cell? ⟨w.heap.size + 1, 5, none⟩ = some (u64 o.rk)) := fun W t => ⟨unO_cells (heap_keep t HEB.out.1), unO_cells (heap_keep t HEB.out.2)⟩
  have HR : Hid (∀ W, Touch (fun _ => False) E W → Calls Try.prog 55 #[sP B, .agg #[u64 (u).c, u64 (u).k, u64 (u).lc, u64 (u).lk, u64 (u).rc, u64 (u).rk]] W fun e w' => e = .returned (iV (S.rightOf u)) ∧ Touch (fun _ => False) W w') := fun W t => rightOf_any (h.keep0 (HTE.out.trans t)) hI u hu
  have HO : Hid (∀ W, Touch (fun _ => False) E W → Calls Try.prog 55 #[sP B, .agg #[u64 (o).c, u64 (o).k, u64 (o).lc, u64 (o).lk, u64 (o).rc, u64 (o).rk]] W fun e w' => e = .returned (iV (S.rightOf o)) ∧ Touch (fun _ => False) W w') := fun W t => rightOf_any (h.keep0 (HTE.out.trans t)) hI o ho
  unfold SS.isAhead
  generalize S.rightOf u = ru at *
  generalize S.rightOf o = ro at *
  obtain ⟨uc, uk, ulc, ulk, urc, urk⟩ := u
  obtain ⟨oc, ok, olc, olk, orc, ork⟩ := o
  simp only at HC HO HR ⊢
  have HLs : Hid (∀ W, Calls Try.prog 50 #[.agg #[u64 uc, u64 uk], .agg #[u64 oc, u64 ok]] W fun e w' => e = .returned (.bool (lessI uc uk oc ok)) ∧ Touch (fun _ => False) W w') := fun W => less_touch _ _ _ _ _
  generalize lessI uc uk oc ok = ls at *
  obtain ⟨res, hres⟩ : ∃ r, Hid (r = if urc = orc ∧ urk = ork then ls else decide (ro < ru)) := ⟨_, Eq.refl _⟩
  rw [← hres.out]
  have S0 := HC.out _ (Touch.refl _ E).drew
  obtain ⟨⟨a0, a1, a2, a3, a4, a5⟩, b0, b1, b2, b3, b4, b5⟩ := HC.out _ (Touch.refl _ E)
  clear h hI hu ho
  go_enter Try.func65, Try.ntmps65
  go_upto_region 1 with fail
  rw [← hE.out]
  clear hE HEB
  obtain ⟨n, hn⟩ : ∃ m, Hid (m = w.heap.size) := ⟨_, Eq.refl _⟩
  rw [← hn.out] at a0 a1 a2 a3 a4 a5 b0 b1 b2 b3 b4 b5 S0 HC ⊢
  by_cases h1 : urc = orc
  · have e1 : (urc == orc) = true := by simp [h1]
    by_cases h2 : urk = ork
    · have e2 : (urk == ork) = true := by simp [h2]
      have HX : Hid (res = ls) := by rw [hres.out]; exact if_pos ⟨h1, h2⟩
      clear h1 h2
      go_wp2_with fail
      refine (HLs.out _).mono ?_
      rintro e w1 ⟨rfl, t1⟩
      go_wp2_with fail
      go_ret
      exact ⟨congrArg (fun x => Ending.returned (.bool x)) HX.out.symm, HTE.out.trans t1⟩
    · have e2 : (urk == ork) = false := by simp [h2]
      have HX : Hid (res = decide (ro < ru)) := by rw [hres.out]; exact if_neg (fun h => h2 h.2)
      clear h1 h2
      go_upto_region 3 with fail
      clear a0 a1 a2 a3 a4 a5 b0 b1 b2 b3 b4 b5
      go_region_held3 (fun W => (W.cell? ⟨n, 0, none⟩ = some (u64 uc) ∧ W.cell? ⟨n, 1, none⟩ = some (u64 uk) ∧ W.cell? ⟨n, 2, none⟩ = some (u64 ulc) ∧ W.cell? ⟨n, 3, none⟩ = some (u64 ulk) ∧ W.cell? ⟨n, 4, none⟩ = some (u64 urc) ∧ W.cell? ⟨n, 5, none⟩ = some (u64 urk)) ∧ W.cell? ⟨n + 1, 0, none⟩ = some (u64 oc) ∧ W.cell? ⟨n + 1, 1, none⟩ = some (u64 ok) ∧ W.cell? ⟨n + 1, 2, none⟩ = some (u64 olc) ∧ W.cell? ⟨n + 1, 3, none⟩ = some (u64 olk) ∧ W.cell? ⟨n + 1, 4, none⟩ = some (u64 orc) ∧ W.cell? ⟨n + 1, 5, none⟩ = some (u64 ork)) (first | assumption)
        (first
          | (go_at_call 55; first
            | ((with_reducible refine (HR.out _ (Touch.refl _ E).drew).mono ?_); rintro e w1 ⟨rfl, t1⟩; have HT1 : Hid (Touch (fun _ => False) E w1) := (Touch.refl _ E).drew.trans t1; have S1 := HC.out w1 HT1.out; clear t1)
            | ((with_reducible refine (HO.out _ HT1.out).mono ?_); rintro e w2 ⟨rfl, t2⟩; have HT2 : Hid (Touch (fun _ => False) E w2) := HT1.out.trans t2; have S2 := HC.out w2 HT2.out; clear t2)))
      all_goals (try go_wp2_with fail)
      all_goals go_ret
      all_goals exact ⟨congrArg (fun x => Ending.returned (.bool x)) HX.out.symm, HTE.out.trans HT2.out⟩
  · have e1 : (urc == orc) = false := by simp [h1]
    have HX : Hid (res = decide (ro < ru)) := by rw [hres.out]; exact if_neg (fun h => h1 h.1)
    clear h1
    go_upto_region 3 with fail
    clear a0 a1 a2 a3 a4 a5 b0 b1 b2 b3 b4 b5
    go_region_held3 (fun W => (W.cell? ⟨n, 0, none⟩ = some (u64 uc) ∧ W.cell? ⟨n, 1, none⟩ = some (u64 uk) ∧ W.cell? ⟨n, 2, none⟩ = some (u64 ulc) ∧ W.cell? ⟨n, 3, none⟩ = some (u64 ulk) ∧ W.cell? ⟨n, 4, none⟩ = some (u64 urc) ∧ W.cell? ⟨n, 5, none⟩ = some (u64 urk)) ∧ W.cell? ⟨n + 1, 0, none⟩ = some (u64 oc) ∧ W.cell? ⟨n + 1, 1, none⟩ = some (u64 ok) ∧ W.cell? ⟨n + 1, 2, none⟩ = some (u64 olc) ∧ W.cell? ⟨n + 1, 3, none⟩ = some (u64 olk) ∧ W.cell? ⟨n + 1, 4, none⟩ = some (u64 orc) ∧ W.cell? ⟨n + 1, 5, none⟩ = some (u64 ork)) (first | assumption)
      (first
        | (go_at_call 55; first
          | ((with_reducible refine (HR.out _ (Touch.refl _ E).drew).mono ?_); rintro e w1 ⟨rfl, t1⟩; have HT1 : Hid (Touch (fun _ => False) E w1) := (Touch.refl _ E).drew.trans t1; have S1 := HC.out w1 HT1.out; clear t1)
          | ((with_reducible refine (HO.out _ HT1.out).mono ?_); rintro e w2 ⟨rfl, t2⟩; have HT2 : Hid (Touch (fun _ => False) E w2) := HT1.out.trans t2; have S2 := HC.out w2 HT2.out; clear t2)))
    all_goals (try go_wp2_with fail)
    all_goals go_ret
    all_goals exact ⟨congrArg (fun x => Ending.returned (.bool x)) HX.out.symm, HTE.out.trans HT2.out⟩
end Go.Proofs.Ytcolbgbmnmkogab
