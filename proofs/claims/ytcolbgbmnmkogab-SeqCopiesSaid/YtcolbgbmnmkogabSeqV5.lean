/- Package seq: placeOf. -/
import Derived.Test.YtcolbgbmnmkogabSeqV4
namespace Go.Proofs.Ytcolbgbmnmkogab
open Go.RowKit
set_option linter.unusedVariables false
set_option linter.unusedSimpArgs false
set_option maxRecDepth 100000

theorem heap_five (w : World) (a b c d e : Obj) : ((((((w.alloc a).alloc b).alloc c).alloc d).alloc e).heap[w.heap.size]? = some a ∧ (((((w.alloc a).alloc b).alloc c).alloc d).alloc e).heap[w.heap.size + 1]? = some b ∧ (((((w.alloc a).alloc b).alloc c).alloc d).alloc e).heap[w.heap.size + 1 + 1]? = some c ∧ (((((w.alloc a).alloc b).alloc c).alloc d).alloc e).heap[w.heap.size + 1 + 1 + 1]? = some d ∧ (((((w.alloc a).alloc b).alloc c).alloc d).alloc e).heap[w.heap.size + 1 + 1 + 1 + 1]? = some e) := by
  have h1 := heap_two w a b
  have h3 := heap_two ((w.alloc a).alloc b) c d
  have s2 : ((w.alloc a).alloc b).heap.size = w.heap.size + 1 + 1 := by simp
  have s4 : ((((w.alloc a).alloc b).alloc c).alloc d).heap.size = w.heap.size + 1 + 1 + 1 + 1 := by simp
  have h5 := heap_alloc_new ((((w.alloc a).alloc b).alloc c).alloc d) e
  rw [s2] at h3
  rw [s4] at h5
  have t : Touch (fun _ => False) ((w.alloc a).alloc b) (((((w.alloc a).alloc b).alloc c).alloc d).alloc e) := (((Touch.refl _ _).alloc _).alloc _).alloc _
  have t4 : Touch (fun _ => False) ((((w.alloc a).alloc b).alloc c).alloc d) (((((w.alloc a).alloc b).alloc c).alloc d).alloc e) := (Touch.refl _ _).alloc _
  exact ⟨heap_keep t h1.1, heap_keep t h1.2, heap_keep t4 h3.1, heap_keep t4 h3.2, h5⟩
set_option maxHeartbeats 8000000 in
theorem placeOf_any {w : World} {B : Bk} {S : SS} (h : SeqM w B S) (hI : Inv S) (u : Un) (hu : u.ok) (p : Sp) (hp : SpP S p) (left : Bool) (lo hi : Int) (hlo : 0 ≤ lo) (hlh : lo ≤ hi) (hhi : hi ≤ S.total) :
    Calls Try.prog 37 #[sP B, .agg #[u64 (u).c, u64 (u).k, u64 (u).lc, u64 (u).lk, u64 (u).rc, u64 (u).rk], .agg #[iV ((p).run : Int), u64 (p).pos], .bool left, iV lo, iV hi] w fun e w' => e = .returned (iV (S.placeOf u p left lo hi)) ∧ Touch (fun _ => False) w w' := by
  have hsm := hI.smax
  obtain ⟨E, hE⟩ : ∃ E, Hid (E = ((((w.alloc (.cells #[sP B] 24)).alloc (unO u)).alloc (spO p)).alloc (.cells #[.bool left] 4)).alloc (.cells #[iV lo] 3)) := ⟨_, Eq.refl _⟩
  have HTE : Hid (Touch (fun _ => False) w E) := by rw [hE.out]; exact (((((Touch.refl _ _).alloc _).alloc _).alloc _).alloc _).alloc _
  have HEB : Hid (E.heap[w.heap.size]? = some (.cells #[sP B] 24) ∧ E.heap[w.heap.size + 1]? = some (unO u) ∧ E.heap[w.heap.size + 1 + 1]? = some (spO p) ∧ E.heap[w.heap.size + 1 + 1 + 1]? = some (.cells #[.bool left] 4) ∧ E.heap[w.heap.size + 1 + 1 + 1 + 1]? = some (.cells #[iV lo] 3)) := by rw [hE.out]; exact heap_five _ _ _ _ _ _
  obtain ⟨n, hn⟩ : ∃ n : Nat, Hid (n = (hi - lo).toNat) := ⟨_, Eq.refl _⟩
  have hnI : (n : Int) = hi - lo := by rw [hn.out]; omega
  obtain ⟨r, hr⟩ : ∃ r, Hid (r = bis (fun i => S.placeP u p left (lo + (i : Int))) n 0 n) := ⟨_, Eq.refl _⟩
  have hrl : r ≤ n := by rw [hr.out]; exact (bis_le _ _ _ (Nat.zero_le _)).2
  have HS : Hid (∀ W, Touch (fun _ => False) E W → Calls Try.prog 63 #[iV (hi - lo), .func (.func 64) #[] #[.pointer (some ⟨w.heap.size, 0, none⟩), .pointer (some ⟨w.heap.size + 1 + 1, 0, none⟩), .pointer (some ⟨w.heap.size + 1 + 1 + 1 + 1, 0, none⟩), .pointer (some ⟨w.heap.size + 1 + 1 + 1, 0, none⟩), .pointer (some ⟨w.heap.size + 1, 0, none⟩)]] W fun e w' => e = .returned (iV (r : Int)) ∧ Touch (fun _ => False) W w') := fun W t => by
    rw [← hnI, hr.out]
    refine search_any n (by omega) _ _ _ _ _ _ fun W' i t' hi' => ?_
    have tt := t.trans t'
    exact place1_any (h.keep0 (HTE.out.trans tt)) hI u hu p hp left lo i hlo (by omega) _ _ _ _ _ (heap_keep tt HEB.out.1) (heap_keep tt HEB.out.2.2.1) (heap_keep tt HEB.out.2.2.2.2) (heap_keep tt HEB.out.2.2.2.1) (heap_keep tt HEB.out.2.1)
  have HC : Hid (∀ W, Touch (fun _ => False) E W → W.cell? ⟨w.heap.size + 1 + 1 + 1 + 1, 0, none⟩ = some (iV lo)) := fun W t => by rw [cell_of_block (heap_keep t HEB.out.2.2.2.2)]; rfl
  have HR : Hid (S.placeOf u p left lo hi = lo + (r : Int)) := by rw [hr.out, hn.out]; exact Eq.refl _
  rw [HR.out]
  have e1 : IntKind.i64.wrap (hi - lo) = hi - lo := by rw [IntKind.wrap_i64]; omega
  have e2 : IntKind.i64.wrap (lo + (r : Int)) = lo + (r : Int) := by rw [IntKind.wrap_i64]; omega
  obtain ⟨uc, uk, ulc, ulk, urc, urk⟩ := u
  obtain ⟨pr, pp⟩ := p
  simp only at hE ⊢
  clear h hI hu hp hlo hlh hhi hsm hn hnI hr hrl HR
  go_enter Try.func37, Try.ntmps37
  go_upto_region 1 with fail
  rw [← hE.out]
  clear hE HEB
  obtain ⟨n0, hn0⟩ : ∃ m, Hid (m = w.heap.size) := ⟨_, Eq.refl _⟩
  rw [← hn0.out] at HS HC ⊢
  have s0 := HC.out _ (Touch.refl _ E).drew
  go_region_held3 (fun W => W.cell? ⟨n0 + 1 + 1 + 1 + 1, 0, none⟩ = some (iV lo)) (first | assumption)
    (first
      | (go_at_call 63; (with_reducible refine (HS.out _ (Touch.refl _ E).drew).mono ?_); rintro e w1 ⟨rfl, t1⟩; have HT1 : Hid (Touch (fun _ => False) E w1) := (Touch.refl _ E).drew.trans t1; have s1 := HC.out w1 HT1.out; clear t1))
  all_goals (try go_wp2_with fail)
  all_goals go_ret
  all_goals exact ⟨rfl, HTE.out.trans HT1.out⟩
end Go.Proofs.Ytcolbgbmnmkogab
