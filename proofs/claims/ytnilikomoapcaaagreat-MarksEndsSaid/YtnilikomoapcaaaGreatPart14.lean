/- Package seq: isAhead. -/
import Derived.Test.YtnilikomoapcaaaGreatPart10
import Derived.Test.YtnilikomoapcaaaGreatPart11
import Derived.Test.YtnilikomoapcaaaGreatPart9
namespace Go.Proofs.YtnilikomoapcaaaGreat
open Go.RowKit
set_option linter.unusedVariables false
set_option linter.unusedSimpArgs false
set_option maxRecDepth 100000

set_option maxHeartbeats 8000000 in
theorem isAhead_any {w : World} {B : Bk} {S : SS} (h : SeqM w B S) (hI : Inv S) (u o : Un) (hu : u.ok) (ho : o.ok) :
    Calls Tryz.prog 58 #[sP B, .agg #[u64 (u).c, u64 (u).k, u64 (u).lc, u64 (u).lk, u64 (u).rc, u64 (u).rk], .agg #[u64 (o).c, u64 (o).k, u64 (o).lc, u64 (o).lk, u64 (o).rc, u64 (o).rk]] w fun e w' => e = .returned (.bool (S.isAhead u o)) ∧ Touch (fun _ => False) w w' := by
  obtain ⟨E, hE⟩ : ∃ E, Hid (E = (w.alloc (unO u)).alloc (unO o)) := ⟨_, Eq.refl _⟩
  have HTE : Hid (Touch (fun _ => False) w E) := by rw [hE.out]; exact ((Touch.refl _ _).alloc _).alloc _
  have HEB : Hid (E.heap[w.heap.size]? = some (unO u) ∧ E.heap[w.heap.size + 1]? = some (unO o)) := by rw [hE.out]; exact heap_two _ _ _
  have HC : Hid (∀ W, Touch (fun _ => False) E W → (W.cell? ⟨w.heap.size, 0, none⟩ = some (u64 u.c) ∧ W.cell? ⟨w.heap.size, 1, none⟩ = some (u64 u.k) ∧ W.cell? ⟨w.heap.size, 2, none⟩ = some (u64 u.lc) ∧ W.cell? ⟨w.heap.size, 3, none⟩ = some (u64 u.lk) ∧ W.cell? ⟨w.heap.size, 4, none⟩ = some (u64 u.rc) ∧ W.cell? ⟨w.heap.size, 5, none⟩ = some (u64 u.rk)) ∧ W.cell? ⟨w.heap.size + 1, 0, none⟩ = some (u64 o.c) ∧ W.cell? ⟨w.heap.size + 1, 1, none⟩ = some (u64 o.k) ∧ W.cell? ⟨w.heap.size + 1, 2, none⟩ = some (u64 o.lc) ∧ W.cell? ⟨w.heap.size + 1, 3, none⟩ = some (u64 o.lk) ∧ W.cell? ⟨w.heap.size + 1, 4, none⟩ = some (u64 o.rc) ∧ W.cell? ⟨w.heap.size + 1, 5, none⟩ = some (u64 o.rk)) := fun W t => ⟨unO_cells (heap_keep t HEB.out.1), unO_cells (heap_keep t HEB.out.2)⟩
  have HR : Hid (∀ W, Touch (fun _ => False) E W → Calls Tryz.prog 48 #[sP B, .agg #[u64 (u).c, u64 (u).k, u64 (u).lc, u64 (u).lk, u64 (u).rc, u64 (u).rk]] W fun e w' => e = .returned (iV (S.rightOf u)) ∧ Touch (fun _ => False) W w') := fun W t => rightOf_any (h.keep0 (HTE.out.trans t)) hI u hu
  have HO : Hid (∀ W, Touch (fun _ => False) E W → Calls Tryz.prog 48 #[sP B, .agg #[u64 (o).c, u64 (o).k, u64 (o).lc, u64 (o).lk, u64 (o).rc, u64 (o).rk]] W fun e w' => e = .returned (iV (S.rightOf o)) ∧ Touch (fun _ => False) W w') := fun W t => rightOf_any (h.keep0 (HTE.out.trans t)) hI o ho
  unfold SS.isAhead
  generalize S.rightOf u = ru at *
  generalize S.rightOf o = ro at *
  obtain ⟨uc, uk, ulc, ulk, urc, urk⟩ := u
  obtain ⟨oc, ok, olc, olk, orc, ork⟩ := o
  simp only at HC HO HR ⊢
  have HLs : Hid (∀ W, Calls Tryz.prog 43 #[.agg #[u64 uc, u64 uk], .agg #[u64 oc, u64 ok]] W fun e w' => e = .returned (.bool (lessI uc uk oc ok)) ∧ Touch (fun _ => False) W w') := fun W => less_touch _ _ _ _ _
  generalize lessI uc uk oc ok = ls at *
  obtain ⟨res, hres⟩ : ∃ r, Hid (r = if urc = orc ∧ urk = ork then ls else decide (ro < ru)) := ⟨_, Eq.refl _⟩
  rw [← hres.out]
  have S0 := HC.out _ (Touch.refl _ E).drew
  obtain ⟨⟨a0, a1, a2, a3, a4, a5⟩, b0, b1, b2, b3, b4, b5⟩ := HC.out _ (Touch.refl _ E)
  clear h hI hu ho
  go_enter Tryz.func58, Tryz.ntmps58
  go_upto_region 1 with fail
  rw [← hE.out]
  clear hE HEB
  obtain ⟨n, hn⟩ : ∃ m, Hid (m = w.heap.size) := ⟨_, Eq.refl _⟩
  rw [← hn.out] at a0 a1 a2 a3 a4 a5 b0 b1 b2 b3 b4 b5 S0 HC ⊢
  by_cases h1 : urc = orc
  · have e1 : (urc == orc) = true := by simp [h1]
    by_cases h2 : urk = ork
    · have e2 : (urk == ork) = true := by simp [h2]
      have HX : Hid (res = ls) := by rw [hres.out]; exact if_pos ⟨h1, h2⟩
      clear h1 h2
      go_wp2_with fail
      refine (HLs.out _).mono ?_
      rintro e w1 ⟨rfl, t1⟩
      go_wp2_with fail
      go_ret
      exact ⟨congrArg (fun x => Ending.returned (.bool x)) HX.out.symm, HTE.out.trans t1⟩
    · have e2 : (urk == ork) = false := by simp [h2]
      have HX : Hid (res = decide (ro < ru)) := by rw [hres.out]; exact if_neg (fun h => h2 h.2)
      clear h1 h2
      go_upto_region 3 with fail
      clear a0 a1 a2 a3 a4 a5 b0 b1 b2 b3 b4 b5
      go_region_held3 (fun W => (W.cell? ⟨n, 0, none⟩ = some (u64 uc) ∧ W.cell? ⟨n, 1, none⟩ = some (u64 uk) ∧ W.cell? ⟨n, 2, none⟩ = some (u64 ulc) ∧ W.cell? ⟨n, 3, none⟩ = some (u64 ulk) ∧ W.cell? ⟨n, 4, none⟩ = some (u64 urc) ∧ W.cell? ⟨n, 5, none⟩ = some (u64 urk)) ∧ W.cell? ⟨n + 1, 0, none⟩ = some (u64 oc) ∧ W.cell? ⟨n + 1, 1, none⟩ = some (u64 ok) ∧ W.cell? ⟨n + 1, 2, none⟩ = some (u64 olc) ∧ W.cell? ⟨n + 1, 3, none⟩ = some (u64 olk) ∧ W.cell? ⟨n + 1, 4, none⟩ = some (u64 orc) ∧ W.cell? ⟨n + 1, 5, none⟩ = some (u64 ork)) (first | assumption)
        (first
          | (go_at_call 48; first
            | ((with_reducible refine (HR.out _ (Touch.refl _ E).drew).mono ?_); rintro e w1 ⟨rfl, t1⟩; have HT1 : Hid (Touch (fun _ => False) E w1) := (Touch.refl _ E).drew.trans t1; have S1 := HC.out w1 HT1.out; clear t1)
            | ((with_reducible refine (HO.out _ HT1.out).mono ?_); rintro e w2 ⟨rfl, t2⟩; have HT2 : Hid (Touch (fun _ => False) E w2) := HT1.out.trans t2; have S2 := HC.out w2 HT2.out; clear t2)))
      all_goals (try go_wp2_with fail)
      all_goals go_ret
      all_goals exact ⟨congrArg (fun x => Ending.returned (.bool x)) HX.out.symm, HTE.out.trans HT2.out⟩
  · have e1 : (urc == orc) = false := by simp [h1]
    have HX : Hid (res = decide (ro < ru)) := by rw [hres.out]; exact if_neg (fun h => h1 h.1)
    clear h1
    go_upto_region 3 with fail
    clear a0 a1 a2 a3 a4 a5 b0 b1 b2 b3 b4 b5
    go_region_held3 (fun W => (W.cell? ⟨n, 0, none⟩ = some (u64 uc) ∧ W.cell? ⟨n, 1, none⟩ = some (u64 uk) ∧ W.cell? ⟨n, 2, none⟩ = some (u64 ulc) ∧ W.cell? ⟨n, 3, none⟩ = some (u64 ulk) ∧ W.cell? ⟨n, 4, none⟩ = some (u64 urc) ∧ W.cell? ⟨n, 5, none⟩ = some (u64 urk)) ∧ W.cell? ⟨n + 1, 0, none⟩ = some (u64 oc) ∧ W.cell? ⟨n + 1, 1, none⟩ = some (u64 ok) ∧ W.cell? ⟨n + 1, 2, none⟩ = some (u64 olc) ∧ W.cell? ⟨n + 1, 3, none⟩ = some (u64 olk) ∧ W.cell? ⟨n + 1, 4, none⟩ = some (u64 orc) ∧ W.cell? ⟨n + 1, 5, none⟩ = some (u64 ork)) (first | assumption)
      (first
        | (go_at_call 48; first
          | ((with_reducible refine (HR.out _ (Touch.refl _ E).drew).mono ?_); rintro e w1 ⟨rfl, t1⟩; have HT1 : Hid (Touch (fun _ => False) E w1) := (Touch.refl _ E).drew.trans t1; have S1 := HC.out w1 HT1.out; clear t1)
          | ((with_reducible refine (HO.out _ HT1.out).mono ?_); rintro e w2 ⟨rfl, t2⟩; have HT2 : Hid (Touch (fun _ => False) E w2) := HT1.out.trans t2; have S2 := HC.out w2 HT2.out; clear t2)))
    all_goals (try go_wp2_with fail)
    all_goals go_ret
    all_goals exact ⟨congrArg (fun x => Ending.returned (.bool x)) HX.out.symm, HTE.out.trans HT2.out⟩
end Go.Proofs.YtnilikomoapcaaaGreat

/- Package seq: placeOf's question. -/
namespace Go.Proofs.YtnilikomoapcaaaGreat
open Go.RowKit
set_option linter.unusedVariables false
set_option linter.unusedSimpArgs false
set_option maxRecDepth 100000

set_option maxHeartbeats 16000000 in
theorem place1_any {w : World} {B : Bk} {S : SS} (h : SeqM w B S) (hI : Inv S) (u : Un) (hu : u.ok) (p : Sp) (hp : SpP S p) (left : Bool) (lo : Int) (i : Nat) (hlo : 0 ≤ lo) (hi : lo + (i : Int) ≤ 281474976710656) (bs bp bf bl bu : Nat)
    (Hs : w.heap[bs]? = some (.cells #[sP B] 24)) (Hp : w.heap[bp]? = some (spO p)) (Hf : w.heap[bf]? = some (.cells #[iV lo] 3)) (Hl : w.heap[bl]? = some (.cells #[.bool left] 4)) (Hu : w.heap[bu]? = some (unO u)) :
    Calls Tryz.prog 57 #[iV (i : Int), .pointer (some ⟨bs, 0, none⟩), .pointer (some ⟨bp, 0, none⟩), .pointer (some ⟨bf, 0, none⟩), .pointer (some ⟨bl, 0, none⟩), .pointer (some ⟨bu, 0, none⟩)] w fun e w' => e = .returned (.bool (S.placeP u p left (lo + (i : Int)))) ∧ Touch (fun _ => False) w w' := by
  have hsx := hI.spotAtOk (lo + (i : Int))
  have hch := hI.childOk hp hsx.1.1
  have HSa : Hid (∀ W, Touch (fun _ => False) w W → Calls Tryz.prog 37 #[sP B, iV (lo + (i : Int))] W fun e w' => e = .returned (.agg #[iV ((S.spotAt (lo + (i : Int))).run : Int), u64 (S.spotAt (lo + (i : Int))).pos]) ∧ Touch (fun _ => False) W w') := fun W t => spotAt_any (h.keep0 t) hI _ ⟨by omega, by omega⟩
  have HCh : Hid (∀ W, Touch (fun _ => False) w W → Calls Tryz.prog 50 #[sP B, .agg #[iV ((p).run : Int), u64 (p).pos], .agg #[iV ((S.spotAt (lo + (i : Int))).run : Int), u64 (S.spotAt (lo + (i : Int))).pos]] W fun e w' => e = .returned (.tuple #[.agg #[iV (((childR S.runs p (S.spotAt (lo + (i : Int)))).1).run : Int), u64 ((childR S.runs p (S.spotAt (lo + (i : Int)))).1).pos], .bool (childR S.runs p (S.spotAt (lo + (i : Int)))).2]) ∧ Touch (fun _ => False) W w') := fun W t => childOver_any (h.keep0 t).runs hI.down p _ hp.1 hsx.1.1 ⟨hp.2.1, by have := hp.2.2; have := (hI.fst p.run).k; omega⟩
  have HUn : Hid (∀ W, Touch (fun _ => False) w W → Calls Tryz.prog 36 #[sP B, .agg #[iV (((childR S.runs p (S.spotAt (lo + (i : Int)))).1).run : Int), u64 ((childR S.runs p (S.spotAt (lo + (i : Int)))).1).pos]] W fun e w' => e = .returned (.agg #[u64 (S.unit (childR S.runs p (S.spotAt (lo + (i : Int)))).1).c, u64 (S.unit (childR S.runs p (S.spotAt (lo + (i : Int)))).1).k, u64 (S.unit (childR S.runs p (S.spotAt (lo + (i : Int)))).1).lc, u64 (S.unit (childR S.runs p (S.spotAt (lo + (i : Int)))).1).lk, u64 (S.unit (childR S.runs p (S.spotAt (lo + (i : Int)))).1).rc, u64 (S.unit (childR S.runs p (S.spotAt (lo + (i : Int)))).1).rk]) ∧ Touch (fun _ => False) W w') := fun W t => (h.keep0 t).unit hch
  have HAh : Hid (∀ W, Touch (fun _ => False) w W → Calls Tryz.prog 58 #[sP B, .agg #[u64 (u).c, u64 (u).k, u64 (u).lc, u64 (u).lk, u64 (u).rc, u64 (u).rk], .agg #[u64 (S.unit (childR S.runs p (S.spotAt (lo + (i : Int)))).1).c, u64 (S.unit (childR S.runs p (S.spotAt (lo + (i : Int)))).1).k, u64 (S.unit (childR S.runs p (S.spotAt (lo + (i : Int)))).1).lc, u64 (S.unit (childR S.runs p (S.spotAt (lo + (i : Int)))).1).lk, u64 (S.unit (childR S.runs p (S.spotAt (lo + (i : Int)))).1).rc, u64 (S.unit (childR S.runs p (S.spotAt (lo + (i : Int)))).1).rk]] W fun e w' => e = .returned (.bool (S.isAhead u (S.unit (childR S.runs p (S.spotAt (lo + (i : Int)))).1))) ∧ Touch (fun _ => False) W w') := fun W t => isAhead_any (h.keep0 t) hI u _ hu (hI.unitOk hch)
  have HC : Hid (∀ W, Touch (fun _ => False) w W → W.cell? ⟨bs, 0, none⟩ = some (sP B) ∧ W.cell? ⟨bp, 0, none⟩ = some (iV (p.run : Int)) ∧ W.cell? ⟨bp, 1, none⟩ = some (u64 p.pos) ∧ W.cell? ⟨bf, 0, none⟩ = some (iV lo)) := fun W t => by
    have a := spO_cells (heap_keep t Hp)
    exact ⟨by rw [cell_of_block (heap_keep t Hs)]; rfl, a.1, a.2.1, by rw [cell_of_block (heap_keep t Hf)]; rfl⟩
  have HC2 : Hid (∀ W, Touch (fun _ => False) w W → W.cell? ⟨bs, 0, none⟩ = some (sP B) ∧ W.cell? ⟨bl, 0, none⟩ = some (.bool left) ∧ W.cell? ⟨bu, 0, none⟩ = some (u64 u.c) ∧ W.cell? ⟨bu, 1, none⟩ = some (u64 u.k) ∧ W.cell? ⟨bu, 2, none⟩ = some (u64 u.lc) ∧ W.cell? ⟨bu, 3, none⟩ = some (u64 u.lk) ∧ W.cell? ⟨bu, 4, none⟩ = some (u64 u.rc) ∧ W.cell? ⟨bu, 5, none⟩ = some (u64 u.rk)) := fun W t => by
    exact ⟨by rw [cell_of_block (heap_keep t Hs)]; rfl, by rw [cell_of_block (heap_keep t Hl)]; rfl, unO_cells (heap_keep t Hu)⟩
  unfold SS.placeP
  have e1 : IntKind.i64.wrap (lo + (i : Int)) = lo + (i : Int) := by rw [IntKind.wrap_i64]; omega
  generalize S.isAhead u (S.unit (childR S.runs p (S.spotAt (lo + (i : Int)))).1) = ia at *
  generalize S.unit (childR S.runs p (S.spotAt (lo + (i : Int)))).1 = o at *
  generalize childR S.runs p (S.spotAt (lo + (i : Int))) = ch at *
  generalize S.spotAt (lo + (i : Int)) = sx at *
  obtain ⟨⟨cr, cp⟩, bel⟩ := ch
  obtain ⟨sr, sp⟩ := sx
  obtain ⟨pr, pp⟩ := p
  obtain ⟨uc, uk, ulc, ulk, urc, urk⟩ := u
  obtain ⟨oc, ok, olc, olk, orc, ork⟩ := o
  simp only at HSa HCh HUn HAh HC HC2 ⊢
  obtain ⟨res, hres⟩ : ∃ r, Hid (r = if bel = true then ia else !left) := ⟨_, Eq.refl _⟩
  rw [← hres.out]
  clear h hI hu hp hi hlo Hs Hp Hf Hl Hu hsx hch
  go_enter Tryz.func57, Tryz.ntmps57
  go_upto_region 1 with fail
  go_cut [8, 9] (fun t s wx => ∃ m, t = .pointer (some ⟨m, 0, none⟩) ∧ s = .bool bel ∧ Hid (Touch (fun _ => False) w wx ∧ wx.heap[m]? = some (spO ⟨cr, cp⟩)))
  case first =>
    have s0 := HC.out _ (Touch.refl _ w).drew
    have s0a := HC.out _ ((Touch.refl _ w).alloc zeroSO)
    have s0b := HC.out _ ((Touch.refl _ w).alloc zeroSO).drew
    go_wp2_with fail
    go_region_held3 (fun W => W.cell? ⟨bs, 0, none⟩ = some (sP B) ∧ W.cell? ⟨bp, 0, none⟩ = some (iV (pr : Int)) ∧ W.cell? ⟨bp, 1, none⟩ = some (u64 pp) ∧ W.cell? ⟨bf, 0, none⟩ = some (iV lo)) (first | assumption)
      (first
        | (go_at_call 37; first
          | ((with_reducible refine (HSa.out _ (Touch.refl _ w).drew).mono ?_); rintro e w1 ⟨rfl, t1⟩; have HT1 : Hid (Touch (fun _ => False) w w1) := (Touch.refl _ w).drew.trans t1; have s1 := HC.out w1 HT1.out; have s1a := HC.out _ (HT1.out.alloc zeroSO); clear t1)
          | ((with_reducible refine (HSa.out _ ((Touch.refl _ w).alloc zeroSO).drew).mono ?_); rintro e w1 ⟨rfl, t1⟩; have HT1 : Hid (Touch (fun _ => False) w w1) := ((Touch.refl _ w).alloc zeroSO).drew.trans t1; have HZ1 : Hid (w1.heap[w.heap.size]? = some (spO ⟨0, 0⟩)) := heap_keep ((Touch.refl _ (w.alloc zeroSO)).drew.trans t1) (heap_alloc_new w zeroSO); have s1 := HC.out w1 HT1.out; clear t1))
        | (go_at_call 50; first
          | ((with_reducible refine (HCh.out _ HT1.out).mono ?_); rintro e w2 ⟨rfl, t2⟩; have HT2 : Hid (Touch (fun _ => False) w w2) := HT1.out.trans t2; have s2 := HC.out w2 HT2.out; have s2a := HC.out _ (HT2.out.alloc zeroSO); have s2b := HC.out _ (HT2.out.alloc (.cells #[iV (cr : Int), u64 cp] 64)); (try (have HZ2 : Hid (w2.heap[w.heap.size]? = some (spO ⟨0, 0⟩)) := heap_keep t2 HZ1.out; obtain ⟨k0, k1, k2, k3⟩ := spO_cells HZ2.out; have s2c := HC.out _ ((HT2.out.fresh w.heap.size 0 (iV (cr : Int)) (Nat.le_refl _)).fresh w.heap.size 1 (u64 cp) (Nat.le_refl _)))); clear t2)
          | ((with_reducible refine (HCh.out _ (HT1.out.alloc zeroSO)).mono ?_); rintro e w2 ⟨rfl, t2⟩; have HT2 : Hid (Touch (fun _ => False) w w2) := (HT1.out.alloc zeroSO).trans t2; have s2 := HC.out w2 HT2.out; have HZ3 : Hid (w2.heap[w1.heap.size]? = some (spO ⟨0, 0⟩)) := heap_keep t2 (heap_alloc_new w1 zeroSO); obtain ⟨k0, k1, k2, k3⟩ := spO_cells HZ3.out; have s2c := HC.out _ ((HT2.out.fresh w1.heap.size 0 (iV (cr : Int)) HT1.out.size).fresh w1.heap.size 1 (u64 cp) HT1.out.size); clear t2)))
    all_goals (try go_wp2_with fail)
    all_goals go_meet
    all_goals (case rel => first | exact ⟨_, rfl, rfl, HT2.out.alloc _, heap_alloc_new _ _⟩ | exact ⟨_, rfl, rfl, (HT2.out.fresh _ _ _ (Nat.le_refl _)).fresh _ _ _ (Nat.le_refl _), spO_set HZ2.out⟩ | exact ⟨_, rfl, rfl, (HT2.out.fresh _ _ _ HT1.out.size).fresh _ _ _ HT1.out.size, spO_set HZ3.out⟩)
  case rest =>
    obtain ⟨m, rfl, rfl, HB⟩ := hcut
    obtain ⟨we, hwe⟩ : ∃ we, we = wc := ⟨_, rfl⟩
    subst hwe
    clear HSa HCh HC
    have HM : Hid (∀ W, Touch (fun _ => False) we W → (W.cell? ⟨m, 0, none⟩ = some (iV (cr : Int)) ∧ W.cell? ⟨m, 1, none⟩ = some (u64 cp) ∧ W.cell? ⟨bs, 0, none⟩ = some (sP B) ∧ W.cell? ⟨bu, 0, none⟩ = some (u64 uc) ∧ W.cell? ⟨bu, 1, none⟩ = some (u64 uk) ∧ W.cell? ⟨bu, 2, none⟩ = some (u64 ulc) ∧ W.cell? ⟨bu, 3, none⟩ = some (u64 ulk) ∧ W.cell? ⟨bu, 4, none⟩ = some (u64 urc) ∧ W.cell? ⟨bu, 5, none⟩ = some (u64 urk)) ∧ Touch (fun _ => False) w W) := fun W t => by
      have a := spO_cells (heap_keep t HB.out.2)
      have b := HC2.out W (HB.out.1.trans t)
      exact ⟨⟨a.1, a.2.1, b.1, b.2.2⟩, HB.out.1.trans t⟩
    cases bel
    · have HX : Hid (res = !left) := hres.out
      obtain ⟨-, k1, -⟩ := HC2.out we HB.out.1
      go_wp2_with fail
      go_ret
      exact ⟨congrArg (fun x => Ending.returned (.bool x)) HX.out.symm, HB.out.1⟩
    · have HX : Hid (res = ia) := hres.out
      have s0 := (HM.out _ (Touch.refl _ we).drew).1
      go_upto_region 4 with fail
      go_region_held3 (fun W => W.cell? ⟨m, 0, none⟩ = some (iV (cr : Int)) ∧ W.cell? ⟨m, 1, none⟩ = some (u64 cp) ∧ W.cell? ⟨bs, 0, none⟩ = some (sP B) ∧ W.cell? ⟨bu, 0, none⟩ = some (u64 uc) ∧ W.cell? ⟨bu, 1, none⟩ = some (u64 uk) ∧ W.cell? ⟨bu, 2, none⟩ = some (u64 ulc) ∧ W.cell? ⟨bu, 3, none⟩ = some (u64 ulk) ∧ W.cell? ⟨bu, 4, none⟩ = some (u64 urc) ∧ W.cell? ⟨bu, 5, none⟩ = some (u64 urk)) (first | assumption)
        (first
          | (go_at_call 36; (with_reducible refine (HUn.out _ HB.out.1.drew).mono ?_); rintro e w1 ⟨rfl, t1⟩; have HT1 : Hid (Touch (fun _ => False) we w1) := (Touch.refl _ we).drew.trans t1; have s1 := (HM.out w1 HT1.out).1; clear t1)
          | (go_at_call 58; (with_reducible refine (HAh.out _ (HB.out.1.trans HT1.out)).mono ?_); rintro e w2 ⟨rfl, t2⟩; have HT2 : Hid (Touch (fun _ => False) we w2) := HT1.out.trans t2; have s2 := (HM.out w2 HT2.out).1; clear t2))
      all_goals (try go_wp2_with fail)
      all_goals go_ret
      all_goals exact ⟨congrArg (fun x => Ending.returned (.bool x)) HX.out.symm, HB.out.1.trans HT2.out⟩
end Go.Proofs.YtnilikomoapcaaaGreat

/- Package seq: placeOf. -/
namespace Go.Proofs.YtnilikomoapcaaaGreat
open Go.RowKit
set_option linter.unusedVariables false
set_option linter.unusedSimpArgs false
set_option maxRecDepth 100000

theorem heap_five (w : World) (a b c d e : Obj) : ((((((w.alloc a).alloc b).alloc c).alloc d).alloc e).heap[w.heap.size]? = some a ∧ (((((w.alloc a).alloc b).alloc c).alloc d).alloc e).heap[w.heap.size + 1]? = some b ∧ (((((w.alloc a).alloc b).alloc c).alloc d).alloc e).heap[w.heap.size + 1 + 1]? = some c ∧ (((((w.alloc a).alloc b).alloc c).alloc d).alloc e).heap[w.heap.size + 1 + 1 + 1]? = some d ∧ (((((w.alloc a).alloc b).alloc c).alloc d).alloc e).heap[w.heap.size + 1 + 1 + 1 + 1]? = some e) := by
  have h1 := heap_two w a b
  have h3 := heap_two ((w.alloc a).alloc b) c d
  have s2 : ((w.alloc a).alloc b).heap.size = w.heap.size + 1 + 1 := by simp
  have s4 : ((((w.alloc a).alloc b).alloc c).alloc d).heap.size = w.heap.size + 1 + 1 + 1 + 1 := by simp
  have h5 := heap_alloc_new ((((w.alloc a).alloc b).alloc c).alloc d) e
  rw [s2] at h3
  rw [s4] at h5
  have t : Touch (fun _ => False) ((w.alloc a).alloc b) (((((w.alloc a).alloc b).alloc c).alloc d).alloc e) := (((Touch.refl _ _).alloc _).alloc _).alloc _
  have t4 : Touch (fun _ => False) ((((w.alloc a).alloc b).alloc c).alloc d) (((((w.alloc a).alloc b).alloc c).alloc d).alloc e) := (Touch.refl _ _).alloc _
  exact ⟨heap_keep t h1.1, heap_keep t h1.2, heap_keep t4 h3.1, heap_keep t4 h3.2, h5⟩
set_option maxHeartbeats 8000000 in
theorem placeOf_any {w : World} {B : Bk} {S : SS} (h : SeqM w B S) (hI : Inv S) (u : Un) (hu : u.ok) (p : Sp) (hp : SpP S p) (left : Bool) (lo hi : Int) (hlo : 0 ≤ lo) (hlh : lo ≤ hi) (hhi : hi ≤ S.total) :
    Calls Tryz.prog 28 #[sP B, .agg #[u64 (u).c, u64 (u).k, u64 (u).lc, u64 (u).lk, u64 (u).rc, u64 (u).rk], .agg #[iV ((p).run : Int), u64 (p).pos], .bool left, iV lo, iV hi] w fun e w' => e = .returned (iV (S.placeOf u p left lo hi)) ∧ Touch (fun _ => False) w w' := by
  have hsm := hI.smax
  obtain ⟨E, hE⟩ : ∃ E, Hid (E = ((((w.alloc (.cells #[sP B] 24)).alloc (unO u)).alloc (spO p)).alloc (.cells #[.bool left] 4)).alloc (.cells #[iV lo] 3)) := ⟨_, Eq.refl _⟩
  have HTE : Hid (Touch (fun _ => False) w E) := by rw [hE.out]; exact (((((Touch.refl _ _).alloc _).alloc _).alloc _).alloc _).alloc _
  have HEB : Hid (E.heap[w.heap.size]? = some (.cells #[sP B] 24) ∧ E.heap[w.heap.size + 1]? = some (unO u) ∧ E.heap[w.heap.size + 1 + 1]? = some (spO p) ∧ E.heap[w.heap.size + 1 + 1 + 1]? = some (.cells #[.bool left] 4) ∧ E.heap[w.heap.size + 1 + 1 + 1 + 1]? = some (.cells #[iV lo] 3)) := by rw [hE.out]; exact heap_five _ _ _ _ _ _
  obtain ⟨n, hn⟩ : ∃ n : Nat, Hid (n = (hi - lo).toNat) := ⟨_, Eq.refl _⟩
  have hnI : (n : Int) = hi - lo := by rw [hn.out]; omega
  obtain ⟨r, hr⟩ : ∃ r, Hid (r = bis (fun i => S.placeP u p left (lo + (i : Int))) n 0 n) := ⟨_, Eq.refl _⟩
  have hrl : r ≤ n := by rw [hr.out]; exact (bis_le _ _ _ (Nat.zero_le _)).2
  have HS : Hid (∀ W, Touch (fun _ => False) E W → Calls Tryz.prog 56 #[iV (hi - lo), .func (.func 57) #[] #[.pointer (some ⟨w.heap.size, 0, none⟩), .pointer (some ⟨w.heap.size + 1 + 1, 0, none⟩), .pointer (some ⟨w.heap.size + 1 + 1 + 1 + 1, 0, none⟩), .pointer (some ⟨w.heap.size + 1 + 1 + 1, 0, none⟩), .pointer (some ⟨w.heap.size + 1, 0, none⟩)]] W fun e w' => e = .returned (iV (r : Int)) ∧ Touch (fun _ => False) W w') := fun W t => by
    rw [← hnI, hr.out]
    refine search_any n (by omega) _ _ _ _ _ _ fun W' i t' hi' => ?_
    have tt := t.trans t'
    exact place1_any (h.keep0 (HTE.out.trans tt)) hI u hu p hp left lo i hlo (by omega) _ _ _ _ _ (heap_keep tt HEB.out.1) (heap_keep tt HEB.out.2.2.1) (heap_keep tt HEB.out.2.2.2.2) (heap_keep tt HEB.out.2.2.2.1) (heap_keep tt HEB.out.2.1)
  have HC : Hid (∀ W, Touch (fun _ => False) E W → W.cell? ⟨w.heap.size + 1 + 1 + 1 + 1, 0, none⟩ = some (iV lo)) := fun W t => by rw [cell_of_block (heap_keep t HEB.out.2.2.2.2)]; rfl
  have HR : Hid (S.placeOf u p left lo hi = lo + (r : Int)) := by rw [hr.out, hn.out]; exact Eq.refl _
  rw [HR.out]
  have e1 : IntKind.i64.wrap (hi - lo) = hi - lo := by rw [IntKind.wrap_i64]; omega
  have e2 : IntKind.i64.wrap (lo + (r : Int)) = lo + (r : Int) := by rw [IntKind.wrap_i64]; omega
  obtain ⟨uc, uk, ulc, ulk, urc, urk⟩ := u
  obtain ⟨pr, pp⟩ := p
  simp only at hE ⊢
  clear h hI hu hp hlo hlh hhi hsm hn hnI hr hrl HR
  go_enter Tryz.func28, Tryz.ntmps28
  go_upto_region 1 with fail
  rw [← hE.out]
  clear hE HEB
  obtain ⟨n0, hn0⟩ : ∃ m, Hid (m = w.heap.size) := ⟨_, Eq.refl _⟩
  rw [← hn0.out] at HS HC ⊢
  have s0 := HC.out _ (Touch.refl _ E).drew
  go_region_held3 (fun W => W.cell? ⟨n0 + 1 + 1 + 1 + 1, 0, none⟩ = some (iV lo)) (first | assumption)
    (first
      | (go_at_call 56; (with_reducible refine (HS.out _ (Touch.refl _ E).drew).mono ?_); rintro e w1 ⟨rfl, t1⟩; have HT1 : Hid (Touch (fun _ => False) E w1) := (Touch.refl _ E).drew.trans t1; have s1 := HC.out w1 HT1.out; clear t1))
  all_goals (try go_wp2_with fail)
  all_goals go_ret
  all_goals exact ⟨rfl, HTE.out.trans HT1.out⟩
end Go.Proofs.YtnilikomoapcaaaGreat

/- Package seq: spotOf. -/
namespace Go.Proofs.YtnilikomoapcaaaGreat
open Go.RowKit
set_option linter.unusedVariables false
set_option linter.unusedSimpArgs false
set_option maxRecDepth 100000

set_option maxHeartbeats 8000000 in
theorem spotOf_any {w : World} {B : Bk} {S : SS} (h : SeqM w B S) (hI : Inv S) (c k : Int) (hk : 0 ≤ k) (hk2 : k ≤ 9007199254740992) (hle : (S.first (S.piece c k)).k ≤ k) :
    Calls Tryz.prog 49 #[sP B, idV c k] w fun e w' => e = .returned (.agg #[iV ((S.spotOf c k).run : Int), u64 (S.spotOf c k).pos]) ∧ Touch (fun _ => False) w w' := by
  have hpl := hI.piece_lt c k
  have hfo := hI.firstOk hpl
  have hpo := hI.pcOk hpl
  obtain ⟨E, hE⟩ : ∃ E, Hid (E = (w.alloc (idO c k)).alloc zeroSO) := ⟨_, Eq.refl _⟩
  have HTE : Hid (Touch (fun _ => False) w E) := by rw [hE.out]; exact ((Touch.refl _ _).alloc _).alloc _
  have HEB : Hid (E.heap[w.heap.size]? = some (idO c k) ∧ E.heap[w.heap.size + 1]? = some (spO ⟨0, 0⟩)) := by rw [hE.out]; exact heap_two _ _ _
  have HP : Hid (∀ W, Touch (fun _ => False) E W → Calls Tryz.prog 38 #[sP B, .agg #[u64 c, u64 k]] W fun e w' => e = .returned (iV (S.piece c k : Int)) ∧ Touch (fun _ => False) W w') := fun W t => pieceOf_any (h.keep0 (HTE.out.trans t)) hI c k
  have HC : Hid (∀ W, Touch (fun _ => False) E W → W.cell? ⟨w.heap.size, 0, none⟩ = some (u64 c) ∧ W.cell? ⟨w.heap.size, 1, none⟩ = some (u64 k) ∧ W.cell? ⟨B.b, 1, none⟩ = some (.slice (some ⟨B.gp, 0, none⟩) S.pcs.length B.kp) ∧ W.cell? ⟨B.gp, S.piece c k * 2, none⟩ = some (iV ((S.pc (S.piece c k)).run : Int)) ∧ W.cell? ⟨B.gp, S.piece c k * 2 + 1, none⟩ = some (u64 (S.pc (S.piece c k)).pos)) := fun W t => by
    have hW := h.keep0 (HTE.out.trans t)
    have q := idO_cells (heap_keep t HEB.out.1)
    exact ⟨q.1, q.2, hW.pcs.cell, hW.pc hpl⟩
  have HU : Hid (∀ W, Touch (fun _ => False) E W → Calls Tryz.prog 36 #[sP B, .agg #[iV ((S.pc (S.piece c k)).run : Int), u64 (S.pc (S.piece c k)).pos]] W fun e w' => e = .returned (.agg #[u64 (S.first (S.piece c k)).c, u64 (S.first (S.piece c k)).k, u64 (S.first (S.piece c k)).lc, u64 (S.first (S.piece c k)).lk, u64 (S.first (S.piece c k)).rc, u64 (S.first (S.piece c k)).rk]) ∧ Touch (fun _ => False) W w') := fun W t => (h.keep0 (HTE.out.trans t)).unit (hI.spOk hpl)
  unfold SS.spotOf
  simp only
  have l0 : (S.piece c k : Int) < (S.pcs.length : Int) := by omega
  have l1 : (0 : Int) ≤ (S.piece c k : Int) := by omega
  have hpos := hpo.2.1
  have hkx : (S.first (S.piece c k)).k = (rn S.runs (S.pc (S.piece c k)).run).first.k + (S.pc (S.piece c k)).pos := unitR_k _ _
  have hfk := hpo.2.2.1
  have hfl := hpo.2.2.2.1
  generalize (rn S.runs (S.pc (S.piece c k)).run).first.k = rk at *
  generalize S.len (S.piece c k) = ln at *
  generalize S.first (S.piece c k) = u at *
  obtain ⟨fc, fk, ulc, ulk, urc, urk⟩ := u
  generalize (S.pc (S.piece c k)).run = xr at *
  generalize (S.pc (S.piece c k)).pos = xp at *
  generalize S.piece c k = p at *
  generalize S.pcs.length = n at *
  simp only at HU hfo hle hkx ⊢
  have e1 : IntKind.u64.wrap (k - fk) = k - fk := by rw [IntKind.wrap_u64]; omega
  have e2 : IntKind.u64.wrap (xp + (k - fk)) = xp + (k - fk) := by rw [IntKind.wrap_u64]; omega
  have hf0 := fldId
  have hf1 := fldClock
  clear h hI hpl hpo hfo hle hk hk2 hpos hkx hfk hfl
  go_enter Tryz.func49, Tryz.ntmps49
  go_upto_region 1 with fail
  rw [← hE.out]
  clear hE
  obtain ⟨Bi, hBi⟩ : ∃ m, Hid (m = w.heap.size) := ⟨_, Eq.refl _⟩
  rw [← hBi.out] at HC HEB ⊢
  go_cut [5] (fun t wx => ∃ m, t = .pointer (some ⟨m, 0, none⟩) ∧ Hid (Touch (fun _ => False) E wx ∧ E.heap.size ≤ m ∧ wx.heap[m]? = some (spO ⟨xr, xp⟩)))
  case first =>
    have s1 := HC.out _ (Touch.refl _ E).drew
    have s2 := HC.out _ ((Touch.refl _ E).alloc zeroSO)
    have s3 := HC.out _ ((Touch.refl _ E).alloc zeroSO).drew
    go_wp2_with fail
    go_region_held3 (fun W => W.cell? ⟨Bi, 0, none⟩ = some (u64 c) ∧ W.cell? ⟨Bi, 1, none⟩ = some (u64 k) ∧ W.cell? ⟨B.b, 1, none⟩ = some (.slice (some ⟨B.gp, 0, none⟩) n B.kp) ∧ W.cell? ⟨B.gp, p * 2, none⟩ = some (iV (xr : Int)) ∧ W.cell? ⟨B.gp, p * 2 + 1, none⟩ = some (u64 xp)) (first | assumption)
      (first
        | (go_at_call 38; first
          | ((with_reducible refine (HP.out _ (Touch.refl _ E).drew).mono ?_); rintro e w1 ⟨rfl, t1⟩; have s4 := HC.out w1 ((Touch.refl _ E).drew.trans t1); have s5 := HC.out _ (((Touch.refl _ E).drew.trans t1).alloc zeroSO); have s6 := HC.out _ (((Touch.refl _ E).drew.trans t1).alloc (.cells #[iV (xr : Int), u64 xp] 64)); have s7 := HC.out _ ((((Touch.refl _ E).drew.trans t1).alloc zeroSO).fresh w1.heap.size 0 (iV (xr : Int)) ((Touch.refl _ E).drew.trans t1).size |>.fresh w1.heap.size 1 (u64 xp) ((Touch.refl _ E).drew.trans t1).size); have HT1 : Hid (Touch (fun _ => False) E w1) := (Touch.refl _ E).drew.trans t1; clear t1)
          | ((with_reducible refine (HP.out _ ((Touch.refl _ E).alloc zeroSO).drew).mono ?_); rintro e w1 ⟨rfl, t1⟩; have s4 := HC.out w1 (((Touch.refl _ E).alloc zeroSO).drew.trans t1); have s6 := HC.out _ ((((Touch.refl _ E).alloc zeroSO).drew.trans t1).fresh E.heap.size 0 (iV (xr : Int)) (Nat.le_refl _) |>.fresh E.heap.size 1 (u64 xp) (Nat.le_refl _)); have HT1 : Hid (Touch (fun _ => False) E w1 ∧ w1.heap[E.heap.size]? = some (spO ⟨0, 0⟩)) := ⟨((Touch.refl _ E).alloc zeroSO).drew.trans t1, heap_keep ((Touch.refl _ (E.alloc zeroSO)).drew.trans t1) (heap_alloc_new E zeroSO)⟩; obtain ⟨k0, k1, k2, k3⟩ := spO_cells HT1.out.2; clear t1)))
    all_goals (try go_wp2_with fail)
    all_goals go_meet
    · case rel => exact ⟨_, rfl, HT1.out.alloc _, HT1.out.size, heap_alloc_new _ _⟩
    · case rel => exact ⟨_, rfl, (HT1.out.1.fresh _ 0 (iV (xr : Int)) (Nat.le_refl _)).fresh _ 1 (u64 xp) (Nat.le_refl _), Nat.le_refl _, spO_set HT1.out.2⟩
  case rest =>
    obtain ⟨m, rfl, HB⟩ := hcut
    obtain ⟨we, hwe⟩ : ∃ we, we = wc := ⟨_, rfl⟩
    subst hwe
    clear HP
    have HM : Hid (∀ W, Touch (fun _ => False) we W → (W.cell? ⟨m, 0, none⟩ = some (iV (xr : Int)) ∧ W.cell? ⟨m, 1, none⟩ = some (u64 xp) ∧ W.frozen? ⟨m, 1, none⟩ = false ∧ W.cell? ⟨Bi, 1, none⟩ = some (u64 k)) ∧ Touch (fun _ => False) E W ∧ W.heap[m]? = some (spO ⟨xr, xp⟩)) := fun W t => by
      have a := heap_keep t HB.out.2.2
      have b := spO_cells a
      have c := HC.out W (HB.out.1.trans t)
      exact ⟨⟨b.1, b.2.1, b.2.2.2, c.2.1⟩, HB.out.1.trans t, a⟩
    go_upto_region 2 with fail
    go_cut [5] (fun t wx => t = .pointer (some ⟨m, 0, none⟩) ∧ Hid (Touch (fun _ => False) E wx ∧ wx.heap[m]? = some (spO ⟨xr, xp + (k - fk)⟩)))
    case first =>
      obtain ⟨⟨k0, k1, k2, k3⟩, -⟩ := HM.out _ (Touch.refl _ we).drew
      go_wp2_with fail
      go_region_with (go_at_call 36; (with_reducible refine (HU.out _ (HM.out _ (Touch.refl _ we).drew).2.1).mono ?_); rintro e w1 ⟨rfl, t1⟩; obtain ⟨⟨m0, m1, m2, m3⟩, -⟩ := HM.out _ ((Touch.refl _ we).drew.trans t1); have HT1 : Hid (Touch (fun _ => False) E w1 ∧ w1.heap[m]? = some (spO ⟨xr, xp⟩)) := (HM.out _ ((Touch.refl _ we).drew.trans t1)).2; clear t1)
      all_goals (try go_wp2_with fail)
      all_goals go_meet
      all_goals (case rel => exact ⟨rfl, HT1.out.1.fresh _ _ _ HB.out.2.1, spO_set1 HT1.out.2⟩)
    case rest =>
      obtain ⟨rfl, HD⟩ := hcut
      obtain ⟨wf, hwf⟩ : ∃ we, we = wc := ⟨_, rfl⟩
      subst hwf
      obtain ⟨k0, k1, -, -⟩ := spO_cells HD.out.2
      have k2 := heap_keep HD.out.1 HEB.out.2
      obtain ⟨r0, r1, z0, z1⟩ := spO_cells k2
      obtain ⟨B0, hB0⟩ : ∃ m, Hid (m = Bi + 1) := ⟨_, Eq.refl _⟩
      rw [← hB0.out] at k2 r0 r1 z0 z1 ⊢
      have HF : Hid (Touch (fun _ => False) w ((wf.setCell ⟨B0, 0, none⟩ (iV (xr : Int))).setCell ⟨B0, 1, none⟩ (u64 (xp + (k - fk))))) := by
        have hb : w.heap.size ≤ B0 := by rw [hB0.out, hBi.out]; omega
        exact ((HTE.out.trans HD.out.1).fresh _ _ _ hb).fresh _ _ _ hb
      have u0 : (wf.setCell ⟨B0, 0, none⟩ (iV (xr : Int))).cell? ⟨B0, 1, none⟩ = some (u64 0) := by rw [cell_of_block (heap_setCell_same _ _ _ _ k2)]; rfl
      obtain ⟨v0, v1, -, -⟩ := spO_cells (spO_set (yr := xr) (yp := xp + (k - fk)) k2)
      clear k2
      go_wp2_with fail
      refine bodyPost_ret (v := .agg #[iV (xr : Int), u64 (xp + (k - fk))]) (by simp [results, Tryz.results49, go_sem, v0, v1]) rfl ?_
      exact ⟨rfl, HF.out⟩
end Go.Proofs.YtnilikomoapcaaaGreat
