/- Package seq: unit. -/
import Derived.Test.YtcolbgbmnmkogabSeqA
namespace Go.Proofs.Ytcolbgbmnmkogab
open Go.RowKit
set_option linter.unusedVariables false
set_option linter.unusedSimpArgs false
set_option maxRecDepth 100000

theorem cell_keep {w W : World} (t : Touch (fun _ => False) w W) {b o : Nat} {v : Value} (h : w.cell? ⟨b, o, none⟩ = some v) : W.cell? ⟨b, o, none⟩ = some v := by
  rw [World.cell?_of_block (t.block _ (World.block_lt_of_cell? _ _ h) id)]; exact h
theorem heap_keep {w W : World} (t : Touch (fun _ => False) w W) {b : Nat} {o : Obj} (h : w.heap[b]? = some o) : W.heap[b]? = some o := (t.block _ (lt_of_heap h) id).trans h
abbrev zeroUO : Obj := .cells #[u64 0, u64 0, u64 0, u64 0, u64 0, u64 0] 33
abbrev unO (u : Un) : Obj := .cells #[u64 u.c, u64 u.k, u64 u.lc, u64 u.lk, u64 u.rc, u64 u.rk] 33
abbrev spO (x : Sp) : Obj := .cells #[iV (x.run : Int), u64 x.pos] 47
set_option maxHeartbeats 4000000 in
theorem unit_any {w : World} {b g cap : Nat} {R : List Rn} (h : RunsAt w b 0 g cap R) (x : Sp) (hx : x.run < R.length) (h0 : 0 ≤ x.pos) (hk : 0 ≤ (rn R x.run).first.k) (hb : (rn R x.run).first.k + x.pos ≤ 18014398509481984) :
    Calls Try.prog 25 #[.pointer (some ⟨b, 0, none⟩), spV x] w fun e w' => e = .returned (unV (unitR R x)) ∧ Touch (fun _ => False) w w' := by
  have HC : Hid (∀ W, Touch (fun _ => False) w W → W.cell? ⟨b, 0, none⟩ = some (.slice (some ⟨g, 0, none⟩) R.length cap) ∧ RnAt W g x.run (rn R x.run)) := fun W t => ⟨(h.keep t id id).cell, (h.keep t id id).rn x.run hx⟩
  obtain ⟨xr, xp⟩ := x
  have l0 : (xr : Int) < (R.length : Int) := by simp only at hx; omega
  have l1 : (0 : Int) ≤ (xr : Int) := by omega
  simp only at h0 hk hb HC hx
  unfold unitR
  simp only
  generalize rn R xr = r at *
  obtain ⟨⟨uc, uk, ulc, ulk, urc, urk⟩, rp, rf, rd⟩ := r
  simp only at hk hb HC ⊢
  have HT1 : Hid (Touch (fun _ => False) w ((w.alloc (.cells #[iV (xr : Int), u64 xp] 47)).alloc zeroUO)) := ((Touch.refl _ _).alloc _).alloc _
  obtain ⟨hc, c0, c1, c2, c3, c4, c5, -, -, -, -, -⟩ := HC.out _ HT1.out
  obtain ⟨hd, d0, d1, d2, d3, d4, d5, -, -, -, -, -⟩ := HC.out _ (HT1.out.alloc zeroUO)
  clear h hx HC
  by_cases hp : xp = 0
  · subst hp
    rw [if_pos rfl]
    clear h0 hk hb
    go_enter Try.func25, Try.ntmps25
    go_upto_region 1 with fail
    go_region
    go_wp2_with fail
    refine bodyPost_ret (v := .agg #[u64 uc, u64 uk, u64 ulc, u64 ulk, u64 urc, u64 urk]) (by simp [results, Try.results25, go_sem]) rfl ?_
    exact ⟨rfl, ((((Touch.refl _ _).alloc _).alloc _).alloc _).drew⟩
  · rw [if_neg hp]
    have e1 : (xp == 0) = false := by simp [hp]
    have e2 : IntKind.u64.wrap (uk + xp) = uk + xp := by rw [IntKind.wrap_u64]; omega
    have e3 : IntKind.u64.wrap (uk + xp - 1) = uk + xp - 1 := by rw [IntKind.wrap_u64]; omega
    clear h0 hk hb hp
    go_enter Try.func25, Try.ntmps25
    go_upto_region 1 with fail
    go_region
    go_wp2_with fail
    refine bodyPost_ret (v := .agg #[u64 uc, u64 (uk + xp), u64 uc, u64 (uk + xp - 1), u64 urc, u64 urk]) (by simp [results, Try.results25, go_sem]) rfl ?_
    exact ⟨rfl, ((((Touch.refl _ _).alloc _).alloc _).alloc _).drew⟩
end Go.Proofs.Ytcolbgbmnmkogab
