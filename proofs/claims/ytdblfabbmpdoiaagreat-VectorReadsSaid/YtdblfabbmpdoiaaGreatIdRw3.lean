/- The contracts of the row's more and take, and of rowOf. -/
import Derived.Test.YtdblfabbmpdoiaaGreatPart3
namespace Go.Proofs.YtdblfabbmpdoiaaGreat
open Go.RowKit Go.Maps
set_option linter.unusedVariables false
set_option linter.unusedSimpArgs false
set_option maxRecDepth 100000

theorem Rw.of {W0 w w' : World} {r : Nat} {x : Tn} {rv : Value} {S : Nat → Prop} (hc : w.heap[r]? = some (rwO x rv)) (t : Touch S w w') (hs : ¬ S r) : w'.heap[r]? = some (rwO x rv) := (t.block r (lt_of_heap hc) hs).trans hc
set_option maxHeartbeats 1600000 in
theorem more_any (x : Tn) (rv : Value) (r : Nat) (w : World) (hc : w.heap[r]? = some (rwO x rv)) (b : Bool) (hb : (b = true ∧ x.c ≠ 9007199254740992) ∨ (b = false ∧ x = ⟨9007199254740992, 0, 0, 0⟩)) :
    Calls Tryz.prog 82 #[rp r] w fun e w' => e = .returned (.bool b) ∧ Touch (fun _ => False) w w' := by
  have he := fun W => endOfRow_any W
  have hlt := lt_of_heap hc
  have k0 : w.cell? ⟨r, 0, none⟩ = some (.int .u64 x.c) := by rw [cell_of_block hc]; rfl
  have k1 : w.cell? ⟨r, 1, none⟩ = some (.int .u64 x.f) := by rw [cell_of_block hc]; rfl
  have k2 : w.cell? ⟨r, 2, none⟩ = some (.int .u64 x.t) := by rw [cell_of_block hc]; rfl
  have k3 : w.cell? ⟨r, 3, none⟩ = some (.int .u64 x.n) := by rw [cell_of_block hc]; rfl
  have HT : Hid (Touch (fun _ => False) w ((w.alloc (tnO ⟨9007199254740992, 0, 0, 0⟩)).drew)) := ((Touch.refl _ w).alloc _).drew
  clear hc
  obtain ⟨xc, xf, xt, xn⟩ := x
  simp only at *
  rcases hb with ⟨rfl, hne⟩ | ⟨rfl, e⟩
  · go_enter Tryz.func82, Tryz.ntmps82
    go_wp2_with fail
    go_region_with (go_at_call 96; (with_reducible refine (he _).mono ?_); rintro e w' ⟨rfl, rfl⟩)
    all_goals (try go_wp2_with fail)
    all_goals go_ret
    all_goals exact ⟨rfl, HT.out⟩
  · cases e
    go_enter Tryz.func82, Tryz.ntmps82
    go_wp2_with fail
    go_region_with (go_at_call 96; (with_reducible refine (he _).mono ?_); rintro e w' ⟨rfl, rfl⟩)
    all_goals (try go_wp2_with fail)
    all_goals go_ret
    all_goals exact ⟨rfl, HT.out⟩

set_option maxHeartbeats 1600000 in
theorem rowOf_any (W0 : World) (L : List Tn) (v : Value) (w : World) (t0 : Touch (fun _ => False) W0 w) (hs : SlT W0 v L) (hl : L.length ≤ 1073741824) :
    Calls Tryz.prog 81 #[v] w fun e w' => e = .returned (rp w.heap.size) ∧ Rw W0 w' w.heap.size L ∧ Touch (fun _ => False) w w' := by
  have hN := next_any W0 (w.alloc (rwO ⟨0, 0, 0, 0⟩ v)) w.heap.size ⟨0, 0, 0, 0⟩ v L t0.size (heap_alloc_new w _) hs (t0.alloc _) hl
  have HT : Hid (∀ w', Touch (fun k => k = w.heap.size) (w.alloc (rwO ⟨0, 0, 0, 0⟩ v)) w' → Touch (fun _ => False) w w') := fun w' t => ((Touch.refl (fun _ => False) w).alloc _).then t (fun k hk e => by omega)
  obtain ⟨ao, cap, rfl, _⟩ := hs
  go_enter Tryz.func81, Tryz.ntmps81
  go_wp2_with fail
  refine hN.mono ?_
  rintro e w1 ⟨rfl, hR, ht⟩
  have HR : Hid (Rw W0 w1 w.heap.size L ∧ Touch (fun _ => False) w w1) := ⟨hR, HT.out _ ht⟩
  clear hR ht HT hN
  go_wp2_with fail
  go_ret
  exact ⟨rfl, HR.out⟩

set_option maxHeartbeats 1600000 in
theorem take_no (x : Tn) (rv : Value) (r : Nat) (c k to : Int) (w : World) (hc : w.heap[r]? = some (rwO x rv)) (hne : ¬ (x.c = c ∧ x.f = k)) :
    Calls Tryz.prog 86 #[rp r, idV c k, u64 to] w fun e w' => e = .returned (u64 0) ∧ Touch (fun _ => False) w w' := by
  have b1 : (w.alloc (idO c k)).heap[r]? = some (rwO x rv) := (Below.heap_alloc _ _ _ (lt_of_heap hc)).trans hc
  have bd : (w.alloc (idO c k)).drew.heap[r]? = some (rwO x rv) := b1
  have HB : Hid ((w.alloc (idO c k)).heap[w.heap.size]? = some (idO c k)) := heap_alloc_new w _
  have HS1 := start_any x rv r _ b1
  have HS2 := start_any x rv r _ bd
  have HK : Hid (∀ W, Touch (fun _ => False) (w.alloc (idO c k)) W → W.cell? ⟨w.heap.size, 0, none⟩ = some (u64 c) ∧ W.cell? ⟨w.heap.size, 1, none⟩ = some (u64 k)) := fun W t => by
    have := (t.block _ (lt_of_heap HB.out) id).trans HB.out
    exact ⟨by rw [cell_of_block this]; rfl, by rw [cell_of_block this]; rfl⟩
  have S0 := HK.out _ (Touch.refl _ _)
  have S1 := HK.out _ (Touch.refl _ _).drew
  have HT : Hid (∀ W, Touch (fun _ => False) (w.alloc (idO c k)) W → Touch (fun _ => False) w W) := fun W t => ((Touch.refl _ w).alloc _).trans t
  clear hc b1 bd HB
  obtain ⟨xc, xf, xt, xn⟩ := x
  simp only at *
  by_cases h1 : xc = c
  · subst h1
    have h2 : ¬ xf = k := fun h => hne ⟨rfl, h⟩
    clear hne
    go_enter Tryz.func86, Tryz.ntmps86
    go_wp2_with fail
    go_region_held3 (fun W => W.cell? ⟨w.heap.size, 0, none⟩ = some (u64 xc) ∧ W.cell? ⟨w.heap.size, 1, none⟩ = some (u64 k)) (first | assumption)
      (first | (go_at_call 83; first | ((with_reducible refine HS1.mono ?_); rintro e w1 ⟨rfl, t1⟩; have S2 := HK.out w1 t1; have T1 : Hid (Touch (fun _ => False) w w1) := HT.out _ t1; clear t1) | ((with_reducible refine HS2.mono ?_); rintro e w1 ⟨rfl, t1⟩; have S2 := HK.out w1 ((Touch.refl _ _).drew.trans t1); have T1 : Hid (Touch (fun _ => False) w w1) := HT.out _ ((Touch.refl _ _).drew.trans t1); clear t1)))
    all_goals (try go_wp2_with fail)
    all_goals go_ret
    all_goals exact ⟨rfl, T1.out⟩
  · clear hne
    go_enter Tryz.func86, Tryz.ntmps86
    go_wp2_with fail
    go_region_held3 (fun W => W.cell? ⟨w.heap.size, 0, none⟩ = some (u64 c) ∧ W.cell? ⟨w.heap.size, 1, none⟩ = some (u64 k)) (first | assumption)
      (first | (go_at_call 83; first | ((with_reducible refine HS1.mono ?_); rintro e w1 ⟨rfl, t1⟩; have S2 := HK.out w1 t1; have T1 : Hid (Touch (fun _ => False) w w1) := HT.out _ t1; clear t1) | ((with_reducible refine HS2.mono ?_); rintro e w1 ⟨rfl, t1⟩; have S2 := HK.out w1 ((Touch.refl _ _).drew.trans t1); have T1 : Hid (Touch (fun _ => False) w w1) := HT.out _ ((Touch.refl _ _).drew.trans t1); clear t1)))
    all_goals (try go_wp2_with fail)
    all_goals go_ret
    all_goals exact ⟨rfl, T1.out⟩

set_option maxHeartbeats 1600000 in
theorem take_yes (W0 : World) (x : Tn) (L : List Tn) (r : Nat) (to : Int) (w : World) (h : Rw W0 w r (x :: L)) (t0 : Touch (fun _ => False) W0 w) (hl : L.length ≤ 1073741824) :
    Calls Tryz.prog 86 #[rp r, idV x.c x.f, u64 to] w fun e w' => e = .returned (u64 x.n) ∧ Rw W0 w' r (cutL x L to) ∧ Touch (fun k => k = r) w w' := by
  obtain ⟨rv, hc, hsl⟩ := h.ex
  have hn := h.new
  simp only [hd, List.tail_cons] at hc hsl
  obtain ⟨c, hcc⟩ : ∃ c, c = x.c := ⟨_, rfl⟩
  obtain ⟨k, hkk⟩ : ∃ k, k = x.f := ⟨_, rfl⟩
  rw [← hcc, ← hkk]
  have b1 : (w.alloc (idO c k)).heap[r]? = some (rwO x rv) := (Below.heap_alloc _ _ _ (lt_of_heap hc)).trans hc
  have bd : (w.alloc (idO c k)).drew.heap[r]? = some (rwO x rv) := b1
  have HB : Hid ((w.alloc (idO c k)).heap[w.heap.size]? = some (idO c k)) := heap_alloc_new w _
  have HS1 := start_any x rv r _ b1
  have HS2 := start_any x rv r _ bd
  have HK : Hid (∀ W, Touch (fun _ => False) (w.alloc (idO c k)) W → W.cell? ⟨w.heap.size, 0, none⟩ = some (u64 c) ∧ W.cell? ⟨w.heap.size, 1, none⟩ = some (u64 k)) := fun W t => by
    have := (t.block _ (lt_of_heap HB.out) id).trans HB.out
    exact ⟨by rw [cell_of_block this]; rfl, by rw [cell_of_block this]; rfl⟩
  have S0 := HK.out _ (Touch.refl _ _)
  have S1 := HK.out _ (Touch.refl _ _).drew
  have HT : Hid (∀ W, Touch (fun _ => False) (w.alloc (idO c k)) W → Touch (fun _ => False) w W) := fun W t => ((Touch.refl _ w).alloc _).trans t
  have HC : Hid (w.heap[r]? = some (rwO x rv) ∧ SlT W0 rv L ∧ Touch (fun _ => False) W0 w ∧ L.length ≤ 1073741824) := ⟨hc, hsl, t0, hl⟩
  clear hc b1 bd HB hsl h t0 hl
  obtain ⟨xc, xf, xt, xn⟩ := x
  simp only at *
  subst hcc hkk
  go_enter Tryz.func86, Tryz.ntmps86
  go_wp2_with fail
  go_region_held3 (fun W => W.cell? ⟨w.heap.size, 0, none⟩ = some (u64 c) ∧ W.cell? ⟨w.heap.size, 1, none⟩ = some (u64 k)) (first | assumption)
    (first | (go_at_call 83; first | ((with_reducible refine HS1.mono ?_); rintro e w1 ⟨rfl, t1⟩; have S2 := HK.out w1 t1; have T1 : Hid (Touch (fun _ => False) w w1) := HT.out _ t1; clear t1) | ((with_reducible refine HS2.mono ?_); rintro e w1 ⟨rfl, t1⟩; have S2 := HK.out w1 ((Touch.refl _ _).drew.trans t1); have T1 : Hid (Touch (fun _ => False) w w1) := HT.out _ ((Touch.refl _ _).drew.trans t1); clear t1)))
  have hc1 : w1.heap[r]? = some (rwO ⟨c, k, xt, xn⟩ rv) := (T1.out.block r (lt_of_heap HC.out.1) id).trans HC.out.1
  have k1 : w1.cell? ⟨r, 1, none⟩ = some (.int .u64 k) := by rw [cell_of_block hc1]; rfl
  have k2 : w1.cell? ⟨r, 2, none⟩ = some (.int .u64 xt) := by rw [cell_of_block hc1]; rfl
  have k3 : w1.cell? ⟨r, 3, none⟩ = some (.int .u64 xn) := by rw [cell_of_block hc1]; rfl
  have f1 := free_of_block (i := 1) hc1
  have hc2 : (w1.setCell ⟨r, 1, none⟩ (.int .u64 to)).heap[r]? = some (rwO ⟨c, to, xt, xn⟩ rv) := by rw [heap_setCell_same _ _ _ _ hc1]; rfl
  have T2 : Touch (fun k => k = r) w (w1.setCell ⟨r, 1, none⟩ (.int .u64 to)) := (T1.out.mono fun _ _ e => e.elim).setCell _ _ fun _ => rfl
  have T02 : Touch (fun _ => False) W0 (w1.setCell ⟨r, 1, none⟩ (.int .u64 to)) := (HC.out.2.2.1.trans T1.out).setCell _ _ fun hlt => absurd hlt (Nat.not_lt.2 hn)
  by_cases ht : to = xt
  · subst ht
    have HN : ∀ q, Calls Tryz.prog 95 #[rp r] ((w1.setCell ⟨r, 1, none⟩ (.int .u64 to)).drewN q) fun e w' => e = .returned (.tuple #[]) ∧ Rw W0 w' r L ∧ Touch (fun k => k = r) ((w1.setCell ⟨r, 1, none⟩ (.int .u64 to)).drewN q) w' := fun q => next_any W0 _ r ⟨c, to, to, xn⟩ rv L hn hc2 HC.out.2.1 ⟨T02.os, T02.tape, T02.output, T02.size, T02.block⟩ HC.out.2.2.2
    have HE : Hid (∀ q w', Rw W0 w' r L → Touch (fun k => k = r) ((w1.setCell ⟨r, 1, none⟩ (.int .u64 to)).drewN q) w' → Rw W0 w' r (cutL ⟨c, k, to, xn⟩ L to) ∧ Touch (fun k => k = r) w w') := fun q w' h1 h2 => by
      refine ⟨by unfold cutL; rw [if_pos rfl]; exact h1, T2.trans (Touch.trans ?_ h2)⟩
      exact ⟨rfl, rfl, rfl, Nat.le_refl _, fun _ _ _ => rfl⟩
    clear hc1 hc2 T2 T02 HC HS1 HS2 S0 S1 S2
    go_wp2_with fail
    go_quiet (fail)
    go_wp2_with fail
    refine (HN _).mono ?_
    rintro e w3 ⟨rfl, h1, h2⟩
    have HQ : Hid _ := HE.out _ w3 h1 h2
    clear h1 h2 HE HN
    go_wp2_with fail
    go_ret
    exact ⟨rfl, HQ.out⟩
  · have HQ : Hid (∀ q, Rw W0 ((w1.setCell ⟨r, 1, none⟩ (.int .u64 to)).drewN q) r (cutL ⟨c, k, xt, xn⟩ L to) ∧ Touch (fun k => k = r) w ((w1.setCell ⟨r, 1, none⟩ (.int .u64 to)).drewN q)) := fun q => by
      refine ⟨?_, ⟨T2.os, T2.tape, T2.output, T2.size, T2.block⟩⟩
      unfold cutL; rw [if_neg ht]
      exact ⟨hn, rv, hc2, HC.out.2.1⟩
    clear hc1 hc2 T2 T02 HC HS1 HS2 S0 S1 S2
    go_wp2_with fail
    go_quiet (fail)
    go_wp2_with fail
    go_ret
    exact ⟨rfl, HQ.out _⟩
end Go.Proofs.YtdblfabbmpdoiaaGreat
