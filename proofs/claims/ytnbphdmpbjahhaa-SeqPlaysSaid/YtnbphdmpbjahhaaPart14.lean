/- Package seq: isAhead. -/
import Derived.Test.YtnbphdmpbjahhaaPart11
namespace Go.Proofs.Ytnbphdmpbjahhaa
open Go.RowKit
set_option linter.unusedVariables false
set_option linter.unusedSimpArgs false
set_option maxRecDepth 100000

set_option maxHeartbeats 8000000 in
theorem isAhead_any {w : World} {B : Bk} {S : SS} (h : SeqM w B S) (hI : Inv S) (u o : Un) (hu : u.ok) (ho : o.ok) :
    Calls Try.prog 62 #[sP B, .agg #[u64 (u).c, u64 (u).k, u64 (u).lc, u64 (u).lk, u64 (u).rc, u64 (u).rk], .agg #[u64 (o).c, u64 (o).k, u64 (o).lc, u64 (o).lk, u64 (o).rc, u64 (o).rk]] w fun e w' => e = .returned (.bool (S.isAhead u o)) ∧ Touch (fun _ => False) w w' := by
  obtain ⟨E, hE⟩ : ∃ E, Hid (E = (w.alloc (unO u)).alloc (unO o)) := ⟨_, Eq.refl _⟩
  have HTE : Hid (Touch (fun _ => False) w E) := by rw [hE.out]; exact ((Touch.refl _ _).alloc _).alloc _
  have HEB : Hid (E.heap[w.heap.size]? = some (unO u) ∧ E.heap[w.heap.size + 1]? = some (unO o)) := by rw [hE.out]; exact heap_two _ _ _
  have HC : Hid (∀ W, Touch (fun _ => False) E W → (W.cell? ⟨w.heap.size, 0, none⟩ = some (u64 u.c) ∧ W.cell? ⟨w.heap.size, 1, none⟩ = some (u64 u.k) ∧ W.cell? ⟨w.heap.size, 2, none⟩ = some (u64 u.lc) ∧ W.cell? ⟨w.heap.size, 3, none⟩ = some (u64 u.lk) ∧ W.cell? ⟨w.heap.size, 4, none⟩ = some (u64 u.rc) ∧ W.cell? ⟨w.heap.size, 5, none⟩ = some (u64 u.rk)) ∧ W.cell? ⟨w.heap.size + 1, 0, none⟩ = some (u64 o.c) ∧ W.cell? ⟨w.heap.size + 1, 1, none⟩ = some (u64 o.k) ∧ W.cell? ⟨w.heap.size + 1, 2, none⟩ = some (u64 o.lc) ∧ W.cell? ⟨w.heap.size + 1, 3, none⟩ = some (u64 o.lk) ∧ W.cell? ⟨w.heap.size + 1, 4, none⟩ = some (u64 o.rc) ∧ W.cell? ⟨w.heap.size + 1, 5, none⟩ = some (u64 o.rk)) := fun W t => ⟨unO_cells (heap_keep t HEB.out.1), unO_cells (heap_keep t HEB.out.2)⟩
  have HR : Hid (∀ W, Touch (fun _ => False) E W → Calls Try.prog 52 #[sP B, .agg #[u64 (u).c, u64 (u).k, u64 (u).lc, u64 (u).lk, u64 (u).rc, u64 (u).rk]] W fun e w' => e = .returned (iV (S.rightOf u)) ∧ Touch (fun _ => False) W w') := fun W t => rightOf_any (h.keep0 (HTE.out.trans t)) hI u hu
  have HO : Hid (∀ W, Touch (fun _ => False) E W → Calls Try.prog 52 #[sP B, .agg #[u64 (o).c, u64 (o).k, u64 (o).lc, u64 (o).lk, u64 (o).rc, u64 (o).rk]] W fun e w' => e = .returned (iV (S.rightOf o)) ∧ Touch (fun _ => False) W w') := fun W t => rightOf_any (h.keep0 (HTE.out.trans t)) hI o ho
  unfold SS.isAhead
  generalize S.rightOf u = ru at *
  generalize S.rightOf o = ro at *
  obtain ⟨uc, uk, ulc, ulk, urc, urk⟩ := u
  obtain ⟨oc, ok, olc, olk, orc, ork⟩ := o
  simp only at HC HO HR ⊢
  have HLs : Hid (∀ W, Calls Try.prog 69 #[.agg #[u64 uc, u64 uk], .agg #[u64 oc, u64 ok]] W fun e w' => e = .returned (.bool (lessI uc uk oc ok)) ∧ Touch (fun _ => False) W w') := fun W => less_touch _ _ _ _ _
  generalize lessI uc uk oc ok = ls at *
  obtain ⟨res, hres⟩ : ∃ r, Hid (r = if urc = orc ∧ urk = ork then ls else decide (ro < ru)) := ⟨_, Eq.refl _⟩
  rw [← hres.out]
  have S0 := HC.out _ (Touch.refl _ E).drew
  obtain ⟨⟨a0, a1, a2, a3, a4, a5⟩, b0, b1, b2, b3, b4, b5⟩ := HC.out _ (Touch.refl _ E)
  clear h hI hu ho
  go_enter Try.func62, Try.ntmps62
  go_upto_region 1 with fail
  rw [← hE.out]
  clear hE HEB
  obtain ⟨n, hn⟩ : ∃ m, Hid (m = w.heap.size) := ⟨_, Eq.refl _⟩
  rw [← hn.out] at a0 a1 a2 a3 a4 a5 b0 b1 b2 b3 b4 b5 S0 HC ⊢
  by_cases h1 : urc = orc
  · have e1 : (urc == orc) = true := by simp [h1]
    by_cases h2 : urk = ork
    · have e2 : (urk == ork) = true := by simp [h2]
      have HX : Hid (res = ls) := by rw [hres.out]; exact if_pos ⟨h1, h2⟩
      clear h1 h2
      go_wp2_with fail
      refine (HLs.out _).mono ?_
      rintro e w1 ⟨rfl, t1⟩
      go_wp2_with fail
      go_ret
      exact ⟨congrArg (fun x => Ending.returned (.bool x)) HX.out.symm, HTE.out.trans t1⟩
    · have e2 : (urk == ork) = false := by simp [h2]
      have HX : Hid (res = decide (ro < ru)) := by rw [hres.out]; exact if_neg (fun h => h2 h.2)
      clear h1 h2
      go_upto_region 3 with fail
      clear a0 a1 a2 a3 a4 a5 b0 b1 b2 b3 b4 b5
      go_region_held3 (fun W => (W.cell? ⟨n, 0, none⟩ = some (u64 uc) ∧ W.cell? ⟨n, 1, none⟩ = some (u64 uk) ∧ W.cell? ⟨n, 2, none⟩ = some (u64 ulc) ∧ W.cell? ⟨n, 3, none⟩ = some (u64 ulk) ∧ W.cell? ⟨n, 4, none⟩ = some (u64 urc) ∧ W.cell? ⟨n, 5, none⟩ = some (u64 urk)) ∧ W.cell? ⟨n + 1, 0, none⟩ = some (u64 oc) ∧ W.cell? ⟨n + 1, 1, none⟩ = some (u64 ok) ∧ W.cell? ⟨n + 1, 2, none⟩ = some (u64 olc) ∧ W.cell? ⟨n + 1, 3, none⟩ = some (u64 olk) ∧ W.cell? ⟨n + 1, 4, none⟩ = some (u64 orc) ∧ W.cell? ⟨n + 1, 5, none⟩ = some (u64 ork)) (first | assumption)
        (first
          | (go_at_call 52; first
            | ((with_reducible refine (HR.out _ (Touch.refl _ E).drew).mono ?_); rintro e w1 ⟨rfl, t1⟩; have HT1 : Hid (Touch (fun _ => False) E w1) := (Touch.refl _ E).drew.trans t1; have S1 := HC.out w1 HT1.out; clear t1)
            | ((with_reducible refine (HO.out _ HT1.out).mono ?_); rintro e w2 ⟨rfl, t2⟩; have HT2 : Hid (Touch (fun _ => False) E w2) := HT1.out.trans t2; have S2 := HC.out w2 HT2.out; clear t2)))
      all_goals (try go_wp2_with fail)
      all_goals go_ret
      all_goals exact ⟨congrArg (fun x => Ending.returned (.bool x)) HX.out.symm, HTE.out.trans HT2.out⟩
  · have e1 : (urc == orc) = false := by simp [h1]
    have HX : Hid (res = decide (ro < ru)) := by rw [hres.out]; exact if_neg (fun h => h1 h.1)
    clear h1
    go_upto_region 3 with fail
    clear a0 a1 a2 a3 a4 a5 b0 b1 b2 b3 b4 b5
    go_region_held3 (fun W => (W.cell? ⟨n, 0, none⟩ = some (u64 uc) ∧ W.cell? ⟨n, 1, none⟩ = some (u64 uk) ∧ W.cell? ⟨n, 2, none⟩ = some (u64 ulc) ∧ W.cell? ⟨n, 3, none⟩ = some (u64 ulk) ∧ W.cell? ⟨n, 4, none⟩ = some (u64 urc) ∧ W.cell? ⟨n, 5, none⟩ = some (u64 urk)) ∧ W.cell? ⟨n + 1, 0, none⟩ = some (u64 oc) ∧ W.cell? ⟨n + 1, 1, none⟩ = some (u64 ok) ∧ W.cell? ⟨n + 1, 2, none⟩ = some (u64 olc) ∧ W.cell? ⟨n + 1, 3, none⟩ = some (u64 olk) ∧ W.cell? ⟨n + 1, 4, none⟩ = some (u64 orc) ∧ W.cell? ⟨n + 1, 5, none⟩ = some (u64 ork)) (first | assumption)
      (first
        | (go_at_call 52; first
          | ((with_reducible refine (HR.out _ (Touch.refl _ E).drew).mono ?_); rintro e w1 ⟨rfl, t1⟩; have HT1 : Hid (Touch (fun _ => False) E w1) := (Touch.refl _ E).drew.trans t1; have S1 := HC.out w1 HT1.out; clear t1)
          | ((with_reducible refine (HO.out _ HT1.out).mono ?_); rintro e w2 ⟨rfl, t2⟩; have HT2 : Hid (Touch (fun _ => False) E w2) := HT1.out.trans t2; have S2 := HC.out w2 HT2.out; clear t2)))
    all_goals (try go_wp2_with fail)
    all_goals go_ret
    all_goals exact ⟨congrArg (fun x => Ending.returned (.bool x)) HX.out.symm, HTE.out.trans HT2.out⟩
end Go.Proofs.Ytnbphdmpbjahhaa

/- Package seq: placeOf's question. -/
namespace Go.Proofs.Ytnbphdmpbjahhaa
open Go.RowKit
set_option linter.unusedVariables false
set_option linter.unusedSimpArgs false
set_option maxRecDepth 100000

set_option maxHeartbeats 16000000 in
theorem place1_any {w : World} {B : Bk} {S : SS} (h : SeqM w B S) (hI : Inv S) (u : Un) (hu : u.ok) (p : Sp) (hp : SpP S p) (left : Bool) (lo : Int) (i : Nat) (hlo : 0 ≤ lo) (hi : lo + (i : Int) ≤ 281474976710656) (bs bp bf bl bu : Nat)
    (Hs : w.heap[bs]? = some (.cells #[sP B] 24)) (Hp : w.heap[bp]? = some (spO p)) (Hf : w.heap[bf]? = some (.cells #[iV lo] 3)) (Hl : w.heap[bl]? = some (.cells #[.bool left] 4)) (Hu : w.heap[bu]? = some (unO u)) :
    Calls Try.prog 61 #[iV (i : Int), .pointer (some ⟨bs, 0, none⟩), .pointer (some ⟨bp, 0, none⟩), .pointer (some ⟨bf, 0, none⟩), .pointer (some ⟨bl, 0, none⟩), .pointer (some ⟨bu, 0, none⟩)] w fun e w' => e = .returned (.bool (S.placeP u p left (lo + (i : Int)))) ∧ Touch (fun _ => False) w w' := by
  have hsx := hI.spotAtOk (lo + (i : Int))
  have hch := hI.childOk hp hsx.1.1
  have HSa : Hid (∀ W, Touch (fun _ => False) w W → Calls Try.prog 50 #[sP B, iV (lo + (i : Int))] W fun e w' => e = .returned (.agg #[iV ((S.spotAt (lo + (i : Int))).run : Int), u64 (S.spotAt (lo + (i : Int))).pos]) ∧ Touch (fun _ => False) W w') := fun W t => spotAt_any (h.keep0 t) hI _ ⟨by omega, by omega⟩
  have HCh : Hid (∀ W, Touch (fun _ => False) w W → Calls Try.prog 54 #[sP B, .agg #[iV ((p).run : Int), u64 (p).pos], .agg #[iV ((S.spotAt (lo + (i : Int))).run : Int), u64 (S.spotAt (lo + (i : Int))).pos]] W fun e w' => e = .returned (.tuple #[.agg #[iV (((childR S.runs p (S.spotAt (lo + (i : Int)))).1).run : Int), u64 ((childR S.runs p (S.spotAt (lo + (i : Int)))).1).pos], .bool (childR S.runs p (S.spotAt (lo + (i : Int)))).2]) ∧ Touch (fun _ => False) W w') := fun W t => childOver_any (h.keep0 t).runs hI.down p _ hp.1 hsx.1.1 ⟨hp.2.1, by have := hp.2.2; have := (hI.fst p.run).k; omega⟩
  have HUn : Hid (∀ W, Touch (fun _ => False) w W → Calls Try.prog 46 #[sP B, .agg #[iV (((childR S.runs p (S.spotAt (lo + (i : Int)))).1).run : Int), u64 ((childR S.runs p (S.spotAt (lo + (i : Int)))).1).pos]] W fun e w' => e = .returned (.agg #[u64 (S.unit (childR S.runs p (S.spotAt (lo + (i : Int)))).1).c, u64 (S.unit (childR S.runs p (S.spotAt (lo + (i : Int)))).1).k, u64 (S.unit (childR S.runs p (S.spotAt (lo + (i : Int)))).1).lc, u64 (S.unit (childR S.runs p (S.spotAt (lo + (i : Int)))).1).lk, u64 (S.unit (childR S.runs p (S.spotAt (lo + (i : Int)))).1).rc, u64 (S.unit (childR S.runs p (S.spotAt (lo + (i : Int)))).1).rk]) ∧ Touch (fun _ => False) W w') := fun W t => (h.keep0 t).unit hch
  have HAh : Hid (∀ W, Touch (fun _ => False) w W → Calls Try.prog 62 #[sP B, .agg #[u64 (u).c, u64 (u).k, u64 (u).lc, u64 (u).lk, u64 (u).rc, u64 (u).rk], .agg #[u64 (S.unit (childR S.runs p (S.spotAt (lo + (i : Int)))).1).c, u64 (S.unit (childR S.runs p (S.spotAt (lo + (i : Int)))).1).k, u64 (S.unit (childR S.runs p (S.spotAt (lo + (i : Int)))).1).lc, u64 (S.unit (childR S.runs p (S.spotAt (lo + (i : Int)))).1).lk, u64 (S.unit (childR S.runs p (S.spotAt (lo + (i : Int)))).1).rc, u64 (S.unit (childR S.runs p (S.spotAt (lo + (i : Int)))).1).rk]] W fun e w' => e = .returned (.bool (S.isAhead u (S.unit (childR S.runs p (S.spotAt (lo + (i : Int)))).1))) ∧ Touch (fun _ => False) W w') := fun W t => isAhead_any (h.keep0 t) hI u _ hu (hI.unitOk hch)
  have HC : Hid (∀ W, Touch (fun _ => False) w W → W.cell? ⟨bs, 0, none⟩ = some (sP B) ∧ W.cell? ⟨bp, 0, none⟩ = some (iV (p.run : Int)) ∧ W.cell? ⟨bp, 1, none⟩ = some (u64 p.pos) ∧ W.cell? ⟨bf, 0, none⟩ = some (iV lo)) := fun W t => by
    have a := spO_cells (heap_keep t Hp)
    exact ⟨by rw [cell_of_block (heap_keep t Hs)]; rfl, a.1, a.2.1, by rw [cell_of_block (heap_keep t Hf)]; rfl⟩
  have HC2 : Hid (∀ W, Touch (fun _ => False) w W → W.cell? ⟨bs, 0, none⟩ = some (sP B) ∧ W.cell? ⟨bl, 0, none⟩ = some (.bool left) ∧ W.cell? ⟨bu, 0, none⟩ = some (u64 u.c) ∧ W.cell? ⟨bu, 1, none⟩ = some (u64 u.k) ∧ W.cell? ⟨bu, 2, none⟩ = some (u64 u.lc) ∧ W.cell? ⟨bu, 3, none⟩ = some (u64 u.lk) ∧ W.cell? ⟨bu, 4, none⟩ = some (u64 u.rc) ∧ W.cell? ⟨bu, 5, none⟩ = some (u64 u.rk)) := fun W t => by
    exact ⟨by rw [cell_of_block (heap_keep t Hs)]; rfl, by rw [cell_of_block (heap_keep t Hl)]; rfl, unO_cells (heap_keep t Hu)⟩
  unfold SS.placeP
  have e1 : IntKind.i64.wrap (lo + (i : Int)) = lo + (i : Int) := by rw [IntKind.wrap_i64]; omega
  generalize S.isAhead u (S.unit (childR S.runs p (S.spotAt (lo + (i : Int)))).1) = ia at *
  generalize S.unit (childR S.runs p (S.spotAt (lo + (i : Int)))).1 = o at *
  generalize childR S.runs p (S.spotAt (lo + (i : Int))) = ch at *
  generalize S.spotAt (lo + (i : Int)) = sx at *
  obtain ⟨⟨cr, cp⟩, bel⟩ := ch
  obtain ⟨sr, sp⟩ := sx
  obtain ⟨pr, pp⟩ := p
  obtain ⟨uc, uk, ulc, ulk, urc, urk⟩ := u
  obtain ⟨oc, ok, olc, olk, orc, ork⟩ := o
  simp only at HSa HCh HUn HAh HC HC2 ⊢
  obtain ⟨res, hres⟩ : ∃ r, Hid (r = if bel = true then ia else !left) := ⟨_, Eq.refl _⟩
  rw [← hres.out]
  clear h hI hu hp hi hlo Hs Hp Hf Hl Hu hsx hch
  go_enter Try.func61, Try.ntmps61
  go_upto_region 1 with fail
  go_cut [8, 9] (fun t s wx => ∃ m, t = .pointer (some ⟨m, 0, none⟩) ∧ s = .bool bel ∧ Hid (Touch (fun _ => False) w wx ∧ wx.heap[m]? = some (spO ⟨cr, cp⟩)))
  case first =>
    have s0 := HC.out _ (Touch.refl _ w).drew
    have s0a := HC.out _ ((Touch.refl _ w).alloc zeroSO)
    have s0b := HC.out _ ((Touch.refl _ w).alloc zeroSO).drew
    go_wp2_with fail
    go_region_held3 (fun W => W.cell? ⟨bs, 0, none⟩ = some (sP B) ∧ W.cell? ⟨bp, 0, none⟩ = some (iV (pr : Int)) ∧ W.cell? ⟨bp, 1, none⟩ = some (u64 pp) ∧ W.cell? ⟨bf, 0, none⟩ = some (iV lo)) (first | assumption)
      (first
        | (go_at_call 50; first
          | ((with_reducible refine (HSa.out _ (Touch.refl _ w).drew).mono ?_); rintro e w1 ⟨rfl, t1⟩; have HT1 : Hid (Touch (fun _ => False) w w1) := (Touch.refl _ w).drew.trans t1; have s1 := HC.out w1 HT1.out; have s1a := HC.out _ (HT1.out.alloc zeroSO); clear t1)
          | ((with_reducible refine (HSa.out _ ((Touch.refl _ w).alloc zeroSO).drew).mono ?_); rintro e w1 ⟨rfl, t1⟩; have HT1 : Hid (Touch (fun _ => False) w w1) := ((Touch.refl _ w).alloc zeroSO).drew.trans t1; have HZ1 : Hid (w1.heap[w.heap.size]? = some (spO ⟨0, 0⟩)) := heap_keep ((Touch.refl _ (w.alloc zeroSO)).drew.trans t1) (heap_alloc_new w zeroSO); have s1 := HC.out w1 HT1.out; clear t1))
        | (go_at_call 54; first
          | ((with_reducible refine (HCh.out _ HT1.out).mono ?_); rintro e w2 ⟨rfl, t2⟩; have HT2 : Hid (Touch (fun _ => False) w w2) := HT1.out.trans t2; have s2 := HC.out w2 HT2.out; have s2a := HC.out _ (HT2.out.alloc zeroSO); have s2b := HC.out _ (HT2.out.alloc (.cells #[iV (cr : Int), u64 cp] 62)); (try (have HZ2 : Hid (w2.heap[w.heap.size]? = some (spO ⟨0, 0⟩)) := heap_keep t2 HZ1.out; obtain ⟨k0, k1, k2, k3⟩ := spO_cells HZ2.out; have s2c := HC.out _ ((HT2.out.fresh w.heap.size 0 (iV (cr : Int)) (Nat.le_refl _)).fresh w.heap.size 1 (u64 cp) (Nat.le_refl _)))); clear t2)
          | ((with_reducible refine (HCh.out _ (HT1.out.alloc zeroSO)).mono ?_); rintro e w2 ⟨rfl, t2⟩; have HT2 : Hid (Touch (fun _ => False) w w2) := (HT1.out.alloc zeroSO).trans t2; have s2 := HC.out w2 HT2.out; have HZ3 : Hid (w2.heap[w1.heap.size]? = some (spO ⟨0, 0⟩)) := heap_keep t2 (heap_alloc_new w1 zeroSO); obtain ⟨k0, k1, k2, k3⟩ := spO_cells HZ3.out; have s2c := HC.out _ ((HT2.out.fresh w1.heap.size 0 (iV (cr : Int)) HT1.out.size).fresh w1.heap.size 1 (u64 cp) HT1.out.size); clear t2)))
    all_goals (try go_wp2_with fail)
    all_goals go_meet
    all_goals (case rel => first | exact ⟨_, rfl, rfl, HT2.out.alloc _, heap_alloc_new _ _⟩ | exact ⟨_, rfl, rfl, (HT2.out.fresh _ _ _ (Nat.le_refl _)).fresh _ _ _ (Nat.le_refl _), spO_set HZ2.out⟩ | exact ⟨_, rfl, rfl, (HT2.out.fresh _ _ _ HT1.out.size).fresh _ _ _ HT1.out.size, spO_set HZ3.out⟩)
  case rest =>
    obtain ⟨m, rfl, rfl, HB⟩ := hcut
    obtain ⟨we, hwe⟩ : ∃ we, we = wc := ⟨_, rfl⟩
    subst hwe
    clear HSa HCh HC
    have HM : Hid (∀ W, Touch (fun _ => False) we W → (W.cell? ⟨m, 0, none⟩ = some (iV (cr : Int)) ∧ W.cell? ⟨m, 1, none⟩ = some (u64 cp) ∧ W.cell? ⟨bs, 0, none⟩ = some (sP B) ∧ W.cell? ⟨bu, 0, none⟩ = some (u64 uc) ∧ W.cell? ⟨bu, 1, none⟩ = some (u64 uk) ∧ W.cell? ⟨bu, 2, none⟩ = some (u64 ulc) ∧ W.cell? ⟨bu, 3, none⟩ = some (u64 ulk) ∧ W.cell? ⟨bu, 4, none⟩ = some (u64 urc) ∧ W.cell? ⟨bu, 5, none⟩ = some (u64 urk)) ∧ Touch (fun _ => False) w W) := fun W t => by
      have a := spO_cells (heap_keep t HB.out.2)
      have b := HC2.out W (HB.out.1.trans t)
      exact ⟨⟨a.1, a.2.1, b.1, b.2.2⟩, HB.out.1.trans t⟩
    cases bel
    · have HX : Hid (res = !left) := hres.out
      obtain ⟨-, k1, -⟩ := HC2.out we HB.out.1
      go_wp2_with fail
      go_ret
      exact ⟨congrArg (fun x => Ending.returned (.bool x)) HX.out.symm, HB.out.1⟩
    · have HX : Hid (res = ia) := hres.out
      have s0 := (HM.out _ (Touch.refl _ we).drew).1
      go_upto_region 4 with fail
      go_region_held3 (fun W => W.cell? ⟨m, 0, none⟩ = some (iV (cr : Int)) ∧ W.cell? ⟨m, 1, none⟩ = some (u64 cp) ∧ W.cell? ⟨bs, 0, none⟩ = some (sP B) ∧ W.cell? ⟨bu, 0, none⟩ = some (u64 uc) ∧ W.cell? ⟨bu, 1, none⟩ = some (u64 uk) ∧ W.cell? ⟨bu, 2, none⟩ = some (u64 ulc) ∧ W.cell? ⟨bu, 3, none⟩ = some (u64 ulk) ∧ W.cell? ⟨bu, 4, none⟩ = some (u64 urc) ∧ W.cell? ⟨bu, 5, none⟩ = some (u64 urk)) (first | assumption)
        (first
          | (go_at_call 46; (with_reducible refine (HUn.out _ HB.out.1.drew).mono ?_); rintro e w1 ⟨rfl, t1⟩; have HT1 : Hid (Touch (fun _ => False) we w1) := (Touch.refl _ we).drew.trans t1; have s1 := (HM.out w1 HT1.out).1; clear t1)
          | (go_at_call 62; (with_reducible refine (HAh.out _ (HB.out.1.trans HT1.out)).mono ?_); rintro e w2 ⟨rfl, t2⟩; have HT2 : Hid (Touch (fun _ => False) we w2) := HT1.out.trans t2; have s2 := (HM.out w2 HT2.out).1; clear t2))
      all_goals (try go_wp2_with fail)
      all_goals go_ret
      all_goals exact ⟨congrArg (fun x => Ending.returned (.bool x)) HX.out.symm, HB.out.1.trans HT2.out⟩
end Go.Proofs.Ytnbphdmpbjahhaa
