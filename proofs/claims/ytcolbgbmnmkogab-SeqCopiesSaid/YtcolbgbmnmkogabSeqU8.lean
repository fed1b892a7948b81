/- Package seq: Len, rightOf. -/
import Derived.Test.YtcolbgbmnmkogabSeqU3
namespace Go.Proofs.Ytcolbgbmnmkogab
open Go.RowKit
set_option linter.unusedVariables false
set_option linter.unusedSimpArgs false
set_option maxRecDepth 100000

set_option maxHeartbeats 4000000 in
theorem len_any {w : World} {B : Bk} {S : SS} (h : SeqM w B S) :
    Calls Try.prog 13 #[sP B] w fun e w' => e = .returned (iV S.total) ∧ Touch (fun _ => False) w w' := by
  have HL : Hid (Calls Try.prog 27 #[rP B.b 2] w fun e w' => e = .returned (iV S.total) ∧ Touch (fun _ => False) w w') := r_length h.ord
  generalize S.total = t at *
  clear h
  go_enter Try.func13, Try.ntmps13
  go_wp2_with fail
  refine HL.out.mono ?_
  rintro e w1 ⟨rfl, t1⟩
  go_wp2_with fail
  go_ret
  exact ⟨rfl, t1⟩
set_option maxHeartbeats 4000000 in
theorem rightOf_any {w : World} {B : Bk} {S : SS} (h : SeqM w B S) (hI : Inv S) (u : Un) (hu : u.ok) :
    Calls Try.prog 55 #[sP B, .agg #[u64 (u).c, u64 (u).k, u64 (u).lc, u64 (u).lk, u64 (u).rc, u64 (u).rk]] w fun e w' => e = .returned (iV (S.rightOf u)) ∧ Touch (fun _ => False) w w' := by
  have hT : Touch (fun _ => False) w (w.alloc (.cells #[u64 u.c, u64 u.k, u64 u.lc, u64 u.lk, u64 u.rc, u64 u.rk] 33)) := (Touch.refl _ _).alloc _
  have HL : Hid (Calls Try.prog 13 #[sP B] (w.alloc (.cells #[u64 u.c, u64 u.k, u64 u.lc, u64 u.lk, u64 u.rc, u64 u.rk] 33)) fun e w' => e = .returned (iV S.total) ∧ Touch (fun _ => False) (w.alloc (.cells #[u64 u.c, u64 u.k, u64 u.lc, u64 u.lk, u64 u.rc, u64 u.rk] 33)) w') := len_any (h.keep0 hT)
  have HF : Hid (Calls Try.prog 14 #[sP B, .agg #[u64 u.rc, u64 u.rk]] (w.alloc (.cells #[u64 u.c, u64 u.k, u64 u.lc, u64 u.lk, u64 u.rc, u64 u.rk] 33)) fun e w' => e = .returned (iV (S.find u.rc u.rk)) ∧ Touch (fun _ => False) (w.alloc (.cells #[u64 u.c, u64 u.k, u64 u.lc, u64 u.lk, u64 u.rc, u64 u.rk] 33)) w') := find_any (h.keep0 hT) hI u.rc u.rk hu.rc hu.rk.1 hu.rk.2
  have HT : Hid (Touch (fun _ => False) w (w.alloc (.cells #[u64 u.c, u64 u.k, u64 u.lc, u64 u.lk, u64 u.rc, u64 u.rk] 33))) := hT
  obtain ⟨uc, uk, ulc, ulk, urc, urk⟩ := u
  unfold SS.rightOf
  simp only at HL HF HT ⊢
  generalize S.find urc urk = fd at *
  generalize S.total = tt at *
  obtain ⟨res, hres⟩ : ∃ r, Hid (r = if urc = 0 ∧ urk = 0 then tt else fd) := ⟨_, Eq.refl _⟩
  rw [← hres.out]
  clear h hI hu hT
  by_cases h1 : urc = 0
  · by_cases h2 : urk = 0
    · have HR : Hid (res = tt) := by rw [hres.out]; exact if_pos ⟨h1, h2⟩
      have e1 : (urc == 0) = true := by simp [h1]
      have e2 : (urk == 0) = true := by simp [h2]
      clear h1 h2
      go_enter Try.func55, Try.ntmps55
      go_wp2_with fail
      refine HL.out.mono ?_
      rintro e w1 ⟨rfl, t1⟩
      go_wp2_with fail
      go_ret
      exact ⟨congrArg (fun x => Ending.returned (iV x)) HR.out.symm, HT.out.trans t1⟩
    · have HR : Hid (res = fd) := by rw [hres.out]; exact if_neg (fun h => h2 h.2)
      have e1 : (urc == 0) = true := by simp [h1]
      have e2 : (urk == 0) = false := by simp [h2]
      clear h1 h2
      go_enter Try.func55, Try.ntmps55
      go_wp2_with fail
      refine HF.out.mono ?_
      rintro e w1 ⟨rfl, t1⟩
      go_wp2_with fail
      go_ret
      exact ⟨congrArg (fun x => Ending.returned (iV x)) HR.out.symm, HT.out.trans t1⟩
  · have HR : Hid (res = fd) := by rw [hres.out]; exact if_neg (fun h => h1 h.1)
    have e1 : (urc == 0) = false := by simp [h1]
    clear h1
    go_enter Try.func55, Try.ntmps55
    go_wp2_with fail
    refine HF.out.mono ?_
    rintro e w1 ⟨rfl, t1⟩
    go_wp2_with fail
    go_ret
    exact ⟨congrArg (fun x => Ending.returned (iV x)) HR.out.symm, HT.out.trans t1⟩
end Go.Proofs.Ytcolbgbmnmkogab
