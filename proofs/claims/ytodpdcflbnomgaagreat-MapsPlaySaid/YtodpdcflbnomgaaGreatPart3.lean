/- Package maps: where a range begins; the search by halves among ranges. -/
import Derived.Test.YtodpdcflbnomgaaGreatPart2
import Derived.Test.YtodpdcflbnomgaaGreatRowR
import Derived.Deep.RegionHeld3
import Derived.Deep.LoopGhost
import Derived.Deep.Cut
import Derived.Deep.CutBlock
import Derived.BigQuiet
namespace Go.Proofs.YtodpdcflbnomgaaGreat
open Go.RowKit
set_option linter.unusedVariables false
set_option linter.unusedSimpArgs false
set_option maxRecDepth 100000

/-- beginsAt, as a function. -/
def begC (r : Rg) (c k : Int) : Int := if lessI r.c r.f c k = true then -1 else if lessI c k r.c r.f = true then 1 else 0
set_option maxHeartbeats 4000000 in
theorem begins_any (r : Rg) (c k : Int) (w : World) :
    Calls Tryz.prog 46 #[rgV r, idV c k] w fun e w' => e = .returned (.int .i64 (begC r c k)) ∧ Touch (fun _ => False) w w' := by
  have HL : Hid (∀ a b c d W, Calls Tryz.prog 68 #[idV a b, idV c d] W fun e w' => e = .returned (.bool (lessI a b c d)) ∧ Touch (fun _ => False) W w') := fun a b c d W => (less_any a b c d W).mono fun e w' q => ⟨q.1, by rw [q.2]; exact ((Touch.refl _ _).alloc _).alloc _⟩
  obtain ⟨R, hR⟩ : ∃ R, Hid (R = begC r c k) := ⟨_, Eq.refl _⟩
  rw [← hR.out]
  unfold begC at hR
  obtain ⟨rc, rf, rt⟩ := r
  simp only at hR ⊢
  obtain ⟨E, hE⟩ : ∃ E, Hid (E = ((w.alloc (rgO ⟨rc, rf, rt⟩)).alloc (idO c k)).alloc (idO rc rf)) := ⟨_, Eq.refl _⟩
  have HTE : Hid (Touch (fun _ => False) w E) := by rw [hE.out]; exact (((Touch.refl _ _).alloc _).alloc _).alloc _
  have b1 : E.heap[w.heap.size + 1]? = some (idO c k) := by
    have := heap_alloc_new (w.alloc (rgO ⟨rc, rf, rt⟩)) (idO c k)
    rw [World.size_alloc] at this
    rw [hE.out]; exact (Below.heap_alloc _ _ _ (by simp)).trans this
  have b2 : E.heap[w.heap.size + 1 + 1]? = some (idO rc rf) := by
    have := heap_alloc_new ((w.alloc (rgO ⟨rc, rf, rt⟩)).alloc (idO c k)) (idO rc rf)
    rw [World.size_alloc, World.size_alloc] at this
    rw [hE.out]; exact this
  have HB : Hid (E.heap[w.heap.size + 1]? = some (idO c k) ∧ E.heap[w.heap.size + 1 + 1]? = some (idO rc rf)) := ⟨b1, b2⟩
  have c0 : E.cell? ⟨w.heap.size + 1, 0, none⟩ = some (.int .u64 c) := by rw [cell_of_block b1]; rfl
  have c1 : E.cell? ⟨w.heap.size + 1, 1, none⟩ = some (.int .u64 k) := by rw [cell_of_block b1]; rfl
  have d0 : E.cell? ⟨w.heap.size + 1 + 1, 0, none⟩ = some (.int .u64 rc) := by rw [cell_of_block b2]; rfl
  have d1 : E.cell? ⟨w.heap.size + 1 + 1, 1, none⟩ = some (.int .u64 rf) := by rw [cell_of_block b2]; rfl
  clear b1 b2
  go_enter Tryz.func46, Tryz.ntmps46
  go_upto_block 0 with fail
  rw [← hE.out]
  clear hE
  generalize hx : lessI rc rf c k = x at hR
  generalize hy : lessI c k rc rf = y at hR
  have HX : Hid (lessI rc rf c k = x ∧ lessI c k rc rf = y) := ⟨hx, hy⟩
  clear hx hy
  go_wp2_with fail
  refine (HL.out _ _ _ _ _).mono ?_
  rintro e W1 ⟨rfl, t1⟩
  rw [HX.out.1]
  have HT : Hid (Touch (fun _ => False) w W1) := HTE.out.trans t1
  have e1 : W1.heap[w.heap.size + 1]? = some (idO c k) := (t1.block _ (lt_of_heap HB.out.1) id).trans HB.out.1
  have e2 : W1.heap[w.heap.size + 1 + 1]? = some (idO rc rf) := (t1.block _ (lt_of_heap HB.out.2) id).trans HB.out.2
  have g0 : W1.cell? ⟨w.heap.size + 1, 0, none⟩ = some (.int .u64 c) := by rw [cell_of_block e1]; rfl
  have g1 : W1.cell? ⟨w.heap.size + 1, 1, none⟩ = some (.int .u64 k) := by rw [cell_of_block e1]; rfl
  have f0 : W1.cell? ⟨w.heap.size + 1 + 1, 0, none⟩ = some (.int .u64 rc) := by rw [cell_of_block e2]; rfl
  have f1 : W1.cell? ⟨w.heap.size + 1 + 1, 1, none⟩ = some (.int .u64 rf) := by rw [cell_of_block e2]; rfl
  clear t1 e1 e2 c0 c1 d0 d1
  cases x with
  | true =>
    go_wp2_with fail
    go_ret
    exact ⟨by rw [hR.out]; rfl, HT.out⟩
  | false =>
    go_wp2_with fail
    refine (HL.out _ _ _ _ _).mono ?_
    rintro e W2 ⟨rfl, t2⟩
    rw [HX.out.2]
    have HT2 : Hid (Touch (fun _ => False) w W2) := HT.out.trans t2
    clear t2 g0 g1 f0 f1
    cases y with
    | true =>
      go_wp2_with fail
      go_ret
      exact ⟨by rw [hR.out]; rfl, HT2.out⟩
    | false =>
      go_wp2_with fail
      go_ret
      exact ⟨by rw [hR.out]; rfl, HT2.out⟩
end Go.Proofs.YtodpdcflbnomgaaGreat

/- slices.BinarySearchFunc at ranges and beginsAt. -/
namespace Go.Proofs.YtodpdcflbnomgaaGreat
open Go.RowKit
set_option linter.unusedVariables false
set_option linter.unusedSimpArgs false
set_option maxRecDepth 100000

/-- The search by halves: p says that a place is too low. -/
def bsH (p : Nat → Bool) : Nat → Nat → Nat → Nat
  | 0, i, _ => i
  | f + 1, i, j => if i < j then (if p ((i + j) / 2) then bsH p f ((i + j) / 2 + 1) j else bsH p f i ((i + j) / 2)) else i
theorem bsH_succ (p : Nat → Bool) (f i j : Nat) : bsH p (f + 1) i j = if i < j then (if p ((i + j) / 2) then bsH p f ((i + j) / 2 + 1) j else bsH p f i ((i + j) / 2)) else i := rfl
theorem bsH_fuel {p : Nat → Bool} : ∀ (f g i j : Nat), j - i ≤ f → j - i ≤ g → bsH p f i j = bsH p g i j
  | 0, 0, i, j, _, _ => rfl
  | 0, g + 1, i, j, h, _ => by rw [bsH_succ, if_neg (by omega)]; rfl
  | f + 1, 0, i, j, _, h => by rw [bsH_succ, if_neg (by omega)]; rfl
  | f + 1, g + 1, i, j, h1, h2 => by
    rw [bsH_succ, bsH_succ]
    by_cases h : i < j
    · rw [if_pos h, if_pos h]
      cases p ((i + j) / 2) with
      | true => rw [if_pos rfl, if_pos rfl]; exact bsH_fuel f g _ _ (by omega) (by omega)
      | false => rw [if_neg (by simp), if_neg (by simp)]; exact bsH_fuel f g _ _ (by omega) (by omega)
    · rw [if_neg h, if_neg h]
theorem bsH_le {p : Nat → Bool} : ∀ (f i j : Nat), i ≤ j → i ≤ bsH p f i j ∧ bsH p f i j ≤ j
  | 0, i, j, h => ⟨Nat.le_refl _, h⟩
  | f + 1, i, j, h => by
    rw [bsH_succ]
    by_cases hl : i < j
    · rw [if_pos hl]
      cases p ((i + j) / 2) with
      | true => rw [if_pos rfl]; have := bsH_le (p := p) f ((i + j) / 2 + 1) j (by omega); omega
      | false => rw [if_neg (by simp)]; have := bsH_le (p := p) f i ((i + j) / 2) (by omega); omega
    · rw [if_neg hl]; omega
/-- Where too low ones all stand ahead of the others, the search answers how many there are. -/
theorem bsH_cut {p : Nat → Bool} : ∀ (f i j m : Nat), j - i ≤ f → i ≤ m → m ≤ j → (∀ t, t < m → p t = true) → (∀ t, m ≤ t → t < j → p t = false) → bsH p f i j = m
  | 0, i, j, m, h, h1, h2, _, _ => by show i = m; omega
  | f + 1, i, j, m, h, h1, h2, ht, hf => by
    rw [bsH_succ]
    by_cases hl : i < j
    · rw [if_pos hl]
      by_cases hc : (i + j) / 2 < m
      · rw [if_pos (ht _ hc)]
        exact bsH_cut f _ j m (by omega) (by omega) h2 ht hf
      · rw [if_neg (by rw [hf _ (by omega) (by omega)]; simp)]
        exact bsH_cut f i _ m (by omega) h1 (by omega) ht fun t a b => hf t a (by omega)
    · rw [if_neg hl]; omega
abbrev lowR (l : List Rg) (c k : Int) (h : Nat) : Bool := decide (begC (l.getD h ⟨0, 0, 0⟩) c k < 0)
/-- What the search answers. -/
def bsI (l : List Rg) (c k : Int) : Nat := bsH (lowR l c k) l.length 0 l.length
def bsF (l : List Rg) (c k : Int) : Bool := decide (bsI l c k < l.length) && decide (begC (l.getD (bsI l c k) ⟨0, 0, 0⟩) c k = 0)
set_option maxHeartbeats 16000000 in
theorem bsearch_any (l : List Rg) (v : Value) (c k : Int) (w : World) (hs : SlR w v l) (hll : l.length ≤ 1073741824) :
    Calls Tryz.prog 45 #[v, idV c k, .func (.func 46) #[] #[]] w fun e w' => e = .returned (.tuple #[.int .i64 (bsI l c k : Int), .bool (bsF l c k)]) ∧ Touch (fun _ => False) w w' := by
  have HSl : Hid (SlR w v l) := hs
  have HCx : Hid (∀ r W, Calls Tryz.prog 46 #[rgV r, idV c k] W fun e w' => e = .returned (.int .i64 (begC r c k)) ∧ Touch (fun _ => False) W w') := fun r W => begins_any r c k W
  obtain ⟨ao, cap, rfl, h1, h2, h3⟩ := hs.shape
  clear hs
  obtain ⟨I, hI⟩ : ∃ I, Hid (I = bsI l c k) := ⟨_, Eq.refl _⟩
  obtain ⟨F, hF⟩ : ∃ F, Hid (F = bsF l c k) := ⟨_, Eq.refl _⟩
  rw [← hI.out, ← hF.out]
  obtain ⟨E, hE⟩ : ∃ E, Hid (E = w.alloc (idO c k)) := ⟨_, Eq.refl _⟩
  have HTE : Hid (Touch (fun _ => False) w E) := by rw [hE.out]; exact (Touch.refl _ _).alloc _
  have HB : Hid (E.heap[w.heap.size]? = some (idO c k)) := by rw [hE.out]; exact heap_alloc_new _ _
  have HBX : Hid (∀ W, Touch (fun _ => False) E W → W.cell? ⟨w.heap.size, 0, none⟩ = some (.int .u64 c) ∧ W.cell? ⟨w.heap.size, 1, none⟩ = some (.int .u64 k)) := fun W t => by
    have := (t.block _ (lt_of_heap HB.out) id).trans HB.out
    exact ⟨by rw [cell_of_block this]; rfl, by rw [cell_of_block this]; rfl⟩
  obtain ⟨N, hN⟩ : ∃ N, N = l.length := ⟨_, rfl⟩
  have HN : Hid (N = l.length) := hN
  rw [← hN] at h2 hll ⊢
  clear hN
  go_enter Tryz.func45, Tryz.ntmps45
  go_upto_region 2 with fail
  rw [← hE.out]
  clear hE HB
  go_wp2_with fail
  go_loopg [9, 10] N (fun gk s9 s10 wx => ∃ i j : Nat, s9 = .int .i64 (i : Int) ∧ s10 = .int .i64 (j : Int) ∧ i ≤ j ∧ j ≤ N ∧ Hid (j - i = gk) ∧ Hid (Touch (fun _ => False) E wx ∧ I = bsH (lowR l c k) gk i j))
  case atStart => exact ⟨0, N, rfl, rfl, Nat.zero_le _, Nat.le_refl _, Nat.sub_zero _, Touch.refl _ _, by rw [hI.out, HN.out]; rfl⟩
  case round =>
    obtain ⟨i, j, rfl, rfl, hij, hjn, hgk, HI⟩ := hrel
    obtain ⟨W0, hW0⟩ : ∃ X, X = wr := ⟨_, rfl⟩
    subst hW0
    by_cases hlt : i < j
    · obtain ⟨h, hh⟩ : ∃ h, Hid (h = (i + j) / 2) := ⟨_, Eq.refl _⟩
      have hb : i ≤ h ∧ h < j := by rw [hh.out]; omega
      have eh : ((i : Int) + (j : Int)) / 2 = (h : Int) := by rw [hh.out]; omega
      have hhl : h < l.length := by rw [← HN.out]; omega
      have hne : l ≠ [] := by rintro rfl; simp at hhl
      obtain ⟨b1, o1, cp, e, _, _, _, _⟩ := (HSl.out.touch (HTE.out.trans HI.out.1)).row hne
      obtain ⟨rfl, _, rfl⟩ : ao = some ⟨b1, o1, none⟩ ∧ True ∧ cap = cp := by simpa using e
      have HK : Hid (∀ W, Touch (fun _ => False) W0 W → W.cell? ⟨b1, o1 + h * 3, none⟩ = some (.int .u64 l[h].c) ∧ W.cell? ⟨b1, o1 + h * 3 + 1, none⟩ = some (.int .u64 l[h].f) ∧ W.cell? ⟨b1, o1 + h * 3 + 2, none⟩ = some (.int .u64 l[h].t) ∧ W.cell? ⟨w.heap.size, 0, none⟩ = some (.int .u64 c) ∧ W.cell? ⟨w.heap.size, 1, none⟩ = some (.int .u64 k)) := fun W t => by
        obtain ⟨b', o', cp', e', _, _, hb', hrow'⟩ := (HSl.out.touch (HTE.out.trans (HI.out.1.trans t))).row hne
        simp only [Value.slice.injEq, Option.some.injEq, Addr.mk.injEq] at e'
        obtain ⟨⟨rfl, rfl, _⟩, _, _⟩ := e'
        obtain ⟨q1, q2, q3⟩ := hrow' h hhl
        obtain ⟨q4, q5⟩ := HBX.out W (HI.out.1.trans t)
        exact ⟨q1, q2, q3, q4, q5⟩
      have HC := HCx.out l[h]
      have HP : Hid (lowR l c k h = decide (begC l[h] c k < 0)) := by
        show decide (begC (l.getD h ⟨0, 0, 0⟩) c k < 0) = _
        rw [List.getD_eq_getElem?_getD, List.getElem?_eq_getElem hhl]; rfl
      obtain ⟨g', hg⟩ : ∃ g', gk = g' + 1 := ⟨gk - 1, by have := hgk.out; omega⟩
      have HR : Hid (I = if lowR l c k h then bsH (lowR l c k) g' (h + 1) j else bsH (lowR l c k) g' i h) := by
        have := HI.out.2
        rw [hg, bsH_succ, if_pos hlt, ← hh.out] at this
        exact this
      have HG : Hid (j - i = g' + 1 ∧ gk = g' + 1) := ⟨by rw [← hg]; exact hgk.out, hg⟩
      have l1 : (i : Int) < (j : Int) := by omega
      have hjI : (j : Int) ≤ 1073741824 := by omega
      have i3 : (h : Int) < (N : Int) := by omega
      have i4 : (0 : Int) ≤ (h : Int) := by omega
      have HW : Hid (Touch (fun _ => False) E W0) := HI.out.1
      clear hgk hh HI e hg hne
      generalize begC l[h] c k = B at *
      generalize l[h] = x at *
      obtain ⟨xc, xf, xt⟩ := x
      simp only at HK HC
      have HCh : Hid (∀ W, Calls Tryz.prog 46 #[rgV ⟨xc, xf, xt⟩, idV c k] W fun e w' => e = .returned (.int .i64 B) ∧ Touch (fun _ => False) W w') := HC
      clear HC
      have S0 := HK.out W0 (Touch.refl _ _)
      have S1 := HK.out W0.drew (Touch.refl _ _).drew
      by_cases hB : B < 0
      · have HLo : Hid (lowR l c k h = true) := by rw [Hid, HP.out]; simpa using hB
        clear HP
        go_wp2_with fail
        go_region_held3 (fun W => W.cell? ⟨b1, o1 + h * 3, none⟩ = some (.int .u64 xc) ∧ W.cell? ⟨b1, o1 + h * 3 + 1, none⟩ = some (.int .u64 xf) ∧ W.cell? ⟨b1, o1 + h * 3 + 2, none⟩ = some (.int .u64 xt) ∧ W.cell? ⟨w.heap.size, 0, none⟩ = some (.int .u64 c) ∧ W.cell? ⟨w.heap.size, 1, none⟩ = some (.int .u64 k)) (first | assumption)
          (first | (go_at_call 46; (with_reducible refine (HCh.out _).mono ?_); rintro e w' ⟨rfl, hT⟩; have TT : Touch (fun _ => False) W0 w' := (by first | exact hT | exact (Touch.refl _ _).drew.trans hT); have S9 := HK.out _ TT; clear hT))
        all_goals (try go_wp2_with fail)
        all_goals (go_roundg (j - (h + 1)))
        all_goals (first | (case measure => have := HG.out.1; have := HG.out.2; omega) | skip)
        all_goals exact ⟨h + 1, j, by go_num, rfl, by omega, hjn, rfl, HW.out.trans (by assumption), by have := HG.out.1; rw [HR.out, if_pos HLo.out]; exact bsH_fuel _ _ _ _ (by omega) (by omega)⟩
      · have HLo : Hid (lowR l c k h = false) := by rw [Hid, HP.out]; simpa using hB
        have hB' : 0 ≤ B := by omega
        clear HP
        go_wp2_with fail
        go_region_held3 (fun W => W.cell? ⟨b1, o1 + h * 3, none⟩ = some (.int .u64 xc) ∧ W.cell? ⟨b1, o1 + h * 3 + 1, none⟩ = some (.int .u64 xf) ∧ W.cell? ⟨b1, o1 + h * 3 + 2, none⟩ = some (.int .u64 xt) ∧ W.cell? ⟨w.heap.size, 0, none⟩ = some (.int .u64 c) ∧ W.cell? ⟨w.heap.size, 1, none⟩ = some (.int .u64 k)) (first | assumption)
          (first | (go_at_call 46; (with_reducible refine (HCh.out _).mono ?_); rintro e w' ⟨rfl, hT⟩; have TT : Touch (fun _ => False) W0 w' := (by first | exact hT | exact (Touch.refl _ _).drew.trans hT); have S9 := HK.out _ TT; clear hT))
        all_goals (try go_wp2_with fail)
        all_goals (go_roundg (h - i))
        all_goals (first | (case measure => have := HG.out.1; have := HG.out.2; omega) | skip)
        all_goals exact ⟨i, h, rfl, rfl, by omega, by omega, rfl, HW.out.trans (by assumption), by have := HG.out.1; rw [HR.out, if_neg (by rw [HLo.out]; simp)]; exact bsH_fuel _ _ _ _ (by omega) (by omega)⟩
    · have HX : Hid (I = i) := by
        rw [HI.out.2]
        cases gk with
        | zero => rfl
        | succ g' => rw [bsH_succ]; exact if_neg hlt
      have HW : Hid (Touch (fun _ => False) E W0) := HI.out.1
      have l1 : ¬ (i : Int) < (j : Int) := by omega
      have hFB : Hid (F = (decide (i < l.length) && decide (begC (l.getD i ⟨0, 0, 0⟩) c k = 0))) := by rw [Hid, hF.out, bsF, ← hI.out, HX.out]
      clear HI hgk
      by_cases hin : i < N
      · have hhl : i < l.length := by rw [← HN.out]; omega
        have hne : l ≠ [] := by rintro rfl; simp at hhl
        obtain ⟨b1, o1, cp, e, _, _, _, _⟩ := (HSl.out.touch (HTE.out.trans HW.out)).row hne
        obtain ⟨rfl, _, rfl⟩ : ao = some ⟨b1, o1, none⟩ ∧ True ∧ cap = cp := by simpa using e
        have HK : Hid (∀ W, Touch (fun _ => False) W0 W → W.cell? ⟨b1, o1 + i * 3, none⟩ = some (.int .u64 l[i].c) ∧ W.cell? ⟨b1, o1 + i * 3 + 1, none⟩ = some (.int .u64 l[i].f) ∧ W.cell? ⟨b1, o1 + i * 3 + 2, none⟩ = some (.int .u64 l[i].t) ∧ W.cell? ⟨w.heap.size, 0, none⟩ = some (.int .u64 c) ∧ W.cell? ⟨w.heap.size, 1, none⟩ = some (.int .u64 k)) := fun W t => by
          obtain ⟨b', o', cp', e', _, _, hb', hrow'⟩ := (HSl.out.touch (HTE.out.trans (HW.out.trans t))).row hne
          simp only [Value.slice.injEq, Option.some.injEq, Addr.mk.injEq] at e'
          obtain ⟨⟨rfl, rfl, _⟩, _, _⟩ := e'
          obtain ⟨q1, q2, q3⟩ := hrow' i hhl
          obtain ⟨q4, q5⟩ := HBX.out W (HW.out.trans t)
          exact ⟨q1, q2, q3, q4, q5⟩
        have HC := HCx.out l[i]
        have HFC : Hid (F = decide (begC l[i] c k = 0)) := by
          rw [Hid, hFB.out, List.getD_eq_getElem?_getD, List.getElem?_eq_getElem hhl]
          simp [hhl]
        have i3 : (i : Int) < (N : Int) := by omega
        have i4 : (0 : Int) ≤ (i : Int) := by omega
        clear hFB e hne hF
        generalize begC l[i] c k = B at *
        generalize l[i] = x at *
        obtain ⟨xc, xf, xt⟩ := x
        simp only at HK HC
        have HCh : Hid (∀ W, Calls Tryz.prog 46 #[rgV ⟨xc, xf, xt⟩, idV c k] W fun e w' => e = .returned (.int .i64 B) ∧ Touch (fun _ => False) W w') := HC
        clear HC
        have S0 := HK.out W0 (Touch.refl _ _)
        have S1 := HK.out W0.drew (Touch.refl _ _).drew
        have hBB : (B == 0) = F := by rw [HFC.out]; rfl
        clear HFC
        go_wp2_with fail
        go_region_held3 (fun W => W.cell? ⟨b1, o1 + i * 3, none⟩ = some (.int .u64 xc) ∧ W.cell? ⟨b1, o1 + i * 3 + 1, none⟩ = some (.int .u64 xf) ∧ W.cell? ⟨b1, o1 + i * 3 + 2, none⟩ = some (.int .u64 xt) ∧ W.cell? ⟨w.heap.size, 0, none⟩ = some (.int .u64 c) ∧ W.cell? ⟨w.heap.size, 1, none⟩ = some (.int .u64 k)) (first | assumption)
          (first | (go_at_call 46; (with_reducible refine (HCh.out _).mono ?_); rintro e w' ⟨rfl, hT⟩; have TT : Touch (fun _ => False) W0 w' := (by first | exact hT | exact (Touch.refl _ _).drew.trans hT); have S9 := HK.out _ TT; clear hT))
        all_goals (try go_wp2_with fail)
        all_goals refine bodyPost_ret (v := .tuple #[.int .i64 (i : Int), .bool F]) (by simp [results, Tryz.results45, go_sem, *]) rfl ?_
        all_goals exact ⟨by rw [HX.out], HTE.out.trans (HW.out.trans (by assumption))⟩
      · have HFC : Hid (F = false) := by
          rw [Hid, hFB.out]
          have : ¬ i < l.length := by rw [← HN.out]; exact hin
          simp [this]
        have i3 : (N : Int) ≤ (i : Int) := by omega
        clear hFB hF
        have hd : decide ((i : Int) < (N : Int)) = false := by simp; omega
        go_wp2_with fail
        go_quiet (fail)
        have HT1 : Hid (Touch (fun _ => False) w (W0.drewN nq)) := (HTE.out.trans HW.out).trans ⟨rfl, rfl, rfl, Nat.le_refl _, fun _ _ _ => rfl⟩
        go_wp2_with fail
        refine bodyPost_ret (v := .tuple #[.int .i64 (i : Int), .bool false]) (by simp [results, Tryz.results45, go_sem]) rfl ?_
        exact ⟨by rw [HX.out, HFC.out], HT1.out⟩
end Go.Proofs.YtodpdcflbnomgaaGreat
