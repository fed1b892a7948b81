/- The rows that ids.blend goes through. -/
import Derived.Test.YtdblfabbmpdoiaaGreatRowT
import Derived.Deep.RegionHeld3
import Derived.BigQuiet
import Derived.Deep.QuietTactic
namespace Go.Proofs.YtdblfabbmpdoiaaGreat
open Go.RowKit Go.Maps
set_option linter.unusedVariables false
set_option linter.unusedSimpArgs false
set_option maxRecDepth 100000

/-- Where a row stands. -/
def hd : List Tn → Tn
  | [] => ⟨9007199254740992, 0, 0, 0⟩
  | x :: _ => x
abbrev rwO (x : Tn) (rv : Value) : Obj := .cells #[.int .u64 x.c, .int .u64 x.f, .int .u64 x.t, .int .u64 x.n, rv] 129
/-- The row at r has L ahead of it; the turns lie since W0. -/
structure Rw (W0 w : World) (r : Nat) (L : List Tn) : Prop where
  new : W0.heap.size ≤ r
  ex : ∃ rv, w.heap[r]? = some (rwO (hd L) rv) ∧ SlT W0 rv L.tail
abbrev rp (r : Nat) : Value := .pointer (some ⟨r, 0, none⟩)
theorem Rw.on {W0 w w' : World} {r : Nat} {L : List Tn} {S : Nat → Prop} (h : Rw W0 w r L) (t : Touch S w w') (hs : ¬ S r) : Rw W0 w' r L := by
  obtain ⟨rv, h1, h2⟩ := h.ex
  exact ⟨h.new, rv, (t.block r (lt_of_heap h1) hs).trans h1, h2⟩
theorem Rw.lt {W0 w : World} {r : Nat} {L : List Tn} (h : Rw W0 w r L) : r < w.heap.size := by
  obtain ⟨rv, h1, h2⟩ := h.ex
  exact lt_of_heap h1
set_option maxHeartbeats 400000 in
theorem endOfRow_any (w : World) : Calls Tryz.prog 96 #[] w fun e w' => e = .returned (tnV ⟨9007199254740992, 0, 0, 0⟩) ∧ w' = w.alloc (tnO ⟨9007199254740992, 0, 0, 0⟩) := by
  go_enter Tryz.func96, Tryz.ntmps96
  go_wp2_with fail
  exact bodyPost_ret (v := tnV ⟨9007199254740992, 0, 0, 0⟩) (by simp [results, Tryz.results96, go_sem]) rfl ⟨rfl, rfl⟩
theorem rw_set4 {w : World} {r : Nat} {x : Tn} {rv : Value} (h : w.heap[r]? = some (rwO x rv)) (y : Tn) : ((((w.setCell ⟨r, 0, none⟩ (.int .u64 y.c)).setCell ⟨r, 1, none⟩ (.int .u64 y.f)).setCell ⟨r, 2, none⟩ (.int .u64 y.t)).setCell ⟨r, 3, none⟩ (.int .u64 y.n)).heap[r]? = some (rwO y rv) := by
  have h1 := heap_setCell_same _ _ 0 (.int .u64 y.c) h
  have h2 := heap_setCell_same _ _ 1 (.int .u64 y.f) h1
  have h3 := heap_setCell_same _ _ 2 (.int .u64 y.t) h2
  have h4 := heap_setCell_same _ _ 3 (.int .u64 y.n) h3
  exact h4
end Go.Proofs.YtdblfabbmpdoiaaGreat

/- The contract of the row's next. -/
namespace Go.Proofs.YtdblfabbmpdoiaaGreat
open Go.RowKit Go.Maps
set_option linter.unusedVariables false
set_option linter.unusedSimpArgs false
set_option maxRecDepth 100000
set_option maxHeartbeats 1600000 in
theorem next_any (W0 w : World) (r : Nat) (x : Tn) (rv : Value) (R : List Tn) (hn : W0.heap.size ≤ r) (hc : w.heap[r]? = some (rwO x rv)) (hs : SlT W0 rv R) (t0 : Touch (fun _ => False) W0 w) (hl : R.length ≤ 1073741824) :
    Calls Tryz.prog 95 #[rp r] w fun e w' => e = .returned (.tuple #[]) ∧ Rw W0 w' r R ∧ Touch (fun k => k = r) w w' := by
  have k0 : w.cell? ⟨r, 0, none⟩ = some (.int .u64 x.c) := by rw [cell_of_block hc]; rfl
  have k1 : w.cell? ⟨r, 1, none⟩ = some (.int .u64 x.f) := by rw [cell_of_block hc]; rfl
  have k2 : w.cell? ⟨r, 2, none⟩ = some (.int .u64 x.t) := by rw [cell_of_block hc]; rfl
  have k3 : w.cell? ⟨r, 3, none⟩ = some (.int .u64 x.n) := by rw [cell_of_block hc]; rfl
  have k4 : w.cell? ⟨r, 4, none⟩ = some rv := by rw [cell_of_block hc]; rfl
  have he := fun W => endOfRow_any W
  cases R with
  | nil =>
    obtain ⟨ao, cap, rfl, h1, h2, h3⟩ := hs.shape
    simp only [List.length_nil] at *
    have hlt := lt_of_heap hc
    have b1 : (w.alloc (tnO ⟨9007199254740992, 0, 0, 0⟩)).heap[r]? = some (rwO x (.slice ao 0 cap)) := (Below.heap_alloc _ _ _ hlt).trans hc
    have f0 := free_of_block (i := 0) hc
    have f1 := free_of_block (i := 1) hc
    have f2 := free_of_block (i := 2) hc
    have f3 := free_of_block (i := 3) hc
    have HP : Hid (∀ w', w' = ((((w.setCell ⟨r, 0, none⟩ (.int .u64 9007199254740992)).setCell ⟨r, 1, none⟩ (.int .u64 0)).setCell ⟨r, 2, none⟩ (.int .u64 0)).setCell ⟨r, 3, none⟩ (.int .u64 0)).alloc (tnO ⟨9007199254740992, 0, 0, 0⟩) → Rw W0 w' r [] ∧ Touch (fun k => k = r) w w') := by
      rintro w' rfl
      have t : Touch (fun k => k = r) w ((((w.setCell ⟨r, 0, none⟩ (.int .u64 9007199254740992)).setCell ⟨r, 1, none⟩ (.int .u64 0)).setCell ⟨r, 2, none⟩ (.int .u64 0)).setCell ⟨r, 3, none⟩ (.int .u64 0)) := ((((Touch.refl (fun k => k = r) w).setCell ⟨r, 0, none⟩ _ fun _ => rfl).setCell ⟨r, 1, none⟩ _ fun _ => rfl).setCell ⟨r, 2, none⟩ _ fun _ => rfl).setCell ⟨r, 3, none⟩ _ fun _ => rfl
      exact ⟨⟨hn, .slice ao 0 cap, (Below.heap_alloc _ _ _ (by simp only [size_setCell]; exact hlt)).trans (rw_set4 hc ⟨9007199254740992, 0, 0, 0⟩), hs⟩, t.alloc _⟩
    clear hs b1
    go_enter Tryz.func95, Tryz.ntmps95
    go_wp2_with (go_at_call 96; refine (he _).mono ?_; rintro e w' ⟨rfl, rfl⟩)
    refine bodyPost_ret (results_none rfl _ _ _) rfl ?_
    exact ⟨rfl, HP.out _ rfl⟩
  | cons y R =>
    obtain ⟨b, o, cap, rfl, hcap, hcm, hb0, hrow⟩ := (hs.touch t0).row (by simp)
    have hb : b ≠ r := by
      obtain ⟨b', o', cap', e, _, _, hb', _⟩ := hs.row (by simp)
      simp only [Value.slice.injEq, Option.some.injEq, Addr.mk.injEq] at e
      obtain ⟨⟨rfl, _, _⟩, _, _⟩ := e
      omega
    obtain ⟨c0, c1, c2, c3⟩ := hrow 0 (by simp)
    simp only [Nat.zero_mul, Nat.add_zero, List.getElem_cons_zero] at c0 c1 c2 c3
    have hs1 := hs.from 1 (by simp)
    have hsl : ∀ W, (Instr.slice 95 (.slice (some ⟨b, o, none⟩) (y :: R).length cap) (some (.int .i64 (1 : Int))) none none).run Tryz.prog W = .ok (.slice (if cap = 1 then some ⟨b, o, none⟩ else (some (⟨b, o, none⟩ : Addr)).map (·.add (1 * 4))) ((y :: R).length - 1) (cap - 1)) W := fun W => sliceT_from (some ⟨b, o, none⟩) (y :: R).length cap 1 (by simp) W
    have hrl : (y :: R).length = R.length + 1 := by simp
    rw [hrl] at hs1 hsl hs k4 hc hcap hl
    generalize (if cap = 1 then some ⟨b, o, none⟩ else (some (⟨b, o, none⟩ : Addr)).map (·.add (1 * 4))) = ao1 at hs1 hsl
    have hn1 : R.length + 1 - 1 = R.length := by omega
    rw [hn1] at hs1 hsl
    generalize cap - 1 = cap1 at *
    have HS : Hid (SlT W0 (.slice ao1 R.length cap1) R) := hs1
    have f0 := free_of_block (i := 0) hc
    have f1 := free_of_block (i := 1) hc
    have f2 := free_of_block (i := 2) hc
    have f3 := free_of_block (i := 3) hc
    have f4 := free_of_block (i := 4) hc
    have HP : Hid (∀ w', w' = ((((w.setCell ⟨r, 0, none⟩ (.int .u64 y.c)).setCell ⟨r, 1, none⟩ (.int .u64 y.f)).setCell ⟨r, 2, none⟩ (.int .u64 y.t)).setCell ⟨r, 3, none⟩ (.int .u64 y.n)).setCell ⟨r, 4, none⟩ (.slice ao1 R.length cap1) → Rw W0 w'.drew r (y :: R) ∧ Touch (fun k => k = r) w w'.drew) := by
      rintro w' rfl
      refine ⟨⟨hn, .slice ao1 R.length cap1, ?_, hs1⟩, ((((((Touch.refl (fun k => k = r) w).setCell ⟨r, 0, none⟩ _ fun _ => rfl).setCell ⟨r, 1, none⟩ _ fun _ => rfl).setCell ⟨r, 2, none⟩ _ fun _ => rfl).setCell ⟨r, 3, none⟩ _ fun _ => rfl).setCell ⟨r, 4, none⟩ _ fun _ => rfl).drew⟩
      have := heap_setCell_same _ _ 4 (.slice ao1 R.length cap1) (rw_set4 hc y)
      exact this
    clear hs hs1 hrow hn1 hrl he
    go_enter Tryz.func95, Tryz.ntmps95
    go_wp2_with fail
    go_region
    all_goals (try go_wp2_with fail)
    all_goals (try go_end0)
    all_goals exact ⟨rfl, HP.out _ rfl⟩
end Go.Proofs.YtdblfabbmpdoiaaGreat

/- The contracts of the row's more, start, change, take, and of rowOf. -/
namespace Go.Proofs.YtdblfabbmpdoiaaGreat
open Go.RowKit Go.Maps
set_option linter.unusedVariables false
set_option linter.unusedSimpArgs false
set_option maxRecDepth 100000

set_option maxHeartbeats 800000 in
theorem start_any (x : Tn) (rv : Value) (r : Nat) (w : World) (hc : w.heap[r]? = some (rwO x rv)) :
    Calls Tryz.prog 83 #[rp r] w fun e w' => e = .returned (idV x.c x.f) ∧ Touch (fun _ => False) w w' := by
  have k0 : w.cell? ⟨r, 0, none⟩ = some (.int .u64 x.c) := by rw [cell_of_block hc]; rfl
  have k1 : w.cell? ⟨r, 1, none⟩ = some (.int .u64 x.f) := by rw [cell_of_block hc]; rfl
  have hlt := lt_of_heap hc
  have HT : Hid (Touch (fun _ => False) w ((w.alloc (idO x.c x.f)).drew)) := ((Touch.refl _ w).alloc _).drew
  clear hc
  go_enter Tryz.func83, Tryz.ntmps83
  go_wp2_with fail
  go_region
  all_goals (try go_wp2_with fail)
  all_goals exact bodyPost_ret (v := idV x.c x.f) (by simp [results, Tryz.results83, go_sem]) rfl ⟨rfl, HT.out⟩

def chg (x : Tn) (c k : Int) : Int := if x.c ≠ c then 9007199254740992 else if k < x.f then x.f else x.t
set_option maxHeartbeats 1600000 in
theorem change_any (x : Tn) (rv : Value) (r : Nat) (c k : Int) (w : World) (hc : w.heap[r]? = some (rwO x rv)) :
    Calls Tryz.prog 85 #[rp r, idV c k] w fun e w' => e = .returned (u64 (chg x c k)) ∧ Touch (fun _ => False) w w' := by
  have k0 : w.cell? ⟨r, 0, none⟩ = some (.int .u64 x.c) := by rw [cell_of_block hc]; rfl
  have k1 : w.cell? ⟨r, 1, none⟩ = some (.int .u64 x.f) := by rw [cell_of_block hc]; rfl
  have k2 : w.cell? ⟨r, 2, none⟩ = some (.int .u64 x.t) := by rw [cell_of_block hc]; rfl
  have hlt := lt_of_heap hc
  have HT : Hid (∀ q, Touch (fun _ => False) w ((w.alloc (idO c k)).drewN q)) := fun q => ⟨rfl, rfl, rfl, ((Touch.refl (fun _ => False) w).alloc _).size, ((Touch.refl (fun _ => False) w).alloc (idO c k)).block⟩
  clear hc
  unfold chg
  obtain ⟨xc, xf, xt, xn⟩ := x
  simp only at *
  by_cases h1 : xc = c
  · subst h1
    rw [if_neg (by simp)]
    by_cases h2 : k < xf
    · rw [if_pos h2]
      go_enter Tryz.func85, Tryz.ntmps85
      go_wp2_with fail
      go_quiet (fail)
      go_wp2_with fail
      go_quiet (fail)
      go_wp2_with fail
      go_ret
      exact ⟨rfl, HT.out _⟩
    · rw [if_neg h2]
      go_enter Tryz.func85, Tryz.ntmps85
      go_wp2_with fail
      go_quiet (fail)
      go_wp2_with fail
      go_quiet (fail)
      go_wp2_with fail
      go_ret
      exact ⟨rfl, HT.out _⟩
  · rw [if_pos h1]
    go_enter Tryz.func85, Tryz.ntmps85
    go_wp2_with fail
    go_quiet (fail)
    go_wp2_with fail
    go_ret
    exact ⟨rfl, HT.out _⟩
end Go.Proofs.YtdblfabbmpdoiaaGreat
