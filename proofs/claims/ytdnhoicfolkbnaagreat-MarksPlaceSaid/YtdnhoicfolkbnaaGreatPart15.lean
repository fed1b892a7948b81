/- Package seq: Run. -/
import Derived.Test.YtdnhoicfolkbnaaGreatPart12
import Derived.Test.YtdnhoicfolkbnaaGreatPart13
import Derived.Test.YtdnhoicfolkbnaaGreatPart14
import Derived.Test.YtdnhoicfolkbnaaGreatPart11
namespace Go.Proofs.YtdnhoicfolkbnaaGreat
open Go.RowKit
set_option linter.unusedVariables false
set_option linter.unusedSimpArgs false
set_option maxRecDepth 100000

/-- Where a unit comes to. -/
def SS.placeFor (S : SS) (u : Un) : Int := S.placeOf u (S.parentOf u).1 (S.parentOf u).2 (S.between u).1 (S.between u).2.1
theorem may_iff {S : SS} {u : Un} {n : Int} : S.may u n = true ↔ (numOk u.c = true ∧ numOk u.k = true) ∧ 1 ≤ n ∧ n - 1 ≤ 9007199254740991 - u.k ∧ S.hasAny u.c u.k n = false ∧ (S.between u).2.2 = true := by
  unfold SS.may
  simp only [Bool.and_eq_true, decide_eq_true_eq, Bool.not_eq_true']
  constructor
  · rintro ⟨⟨⟨⟨⟨a, b⟩, c⟩, d⟩, e⟩, f⟩
    exact ⟨⟨a, b⟩, c, d, e, f⟩
  · rintro ⟨⟨a, b⟩, c, d, e, f⟩
    exact ⟨⟨⟨⟨⟨a, b⟩, c⟩, d⟩, e⟩, f⟩
theorem Inv.parP {S : SS} (h : Inv S) {u : Un} (hu : u.ok) (hb : (S.between u).2.2 = true) : SpP S (S.parentOf u).1 := by
  obtain ⟨b1, b2, b3, b4, b5, b6⟩ := h.betw hu hb
  have l1 := h.there hu.lc hu.lk.1 b1
  unfold SS.parentOf
  split
  · exact h.spotOfP l1.2.1 l1.2.2
  · split
    · have r1 := h.there hu.rc hu.rk.1 b2
      exact h.spotOfP r1.2.1 r1.2.2
    · exact h.spotOfP l1.2.1 l1.2.2
theorem Inv.placeLe {S : SS} (h : Inv S) {u : Un} (hu : u.ok) (hb : (S.between u).2.2 = true) : 0 ≤ S.placeFor u ∧ S.placeFor u ≤ S.total := by
  obtain ⟨b1, b2, b3, b4, b5, b6⟩ := h.betw hu hb
  have hr := h.rightOf_le hu
  unfold SS.placeFor SS.placeOf
  have := bis_le (p := fun i => S.placeP u (S.parentOf u).1 (S.parentOf u).2 ((S.between u).1 + (i : Int))) ((S.between u).2.1 - (S.between u).1).toNat 0 ((S.between u).2.1 - (S.between u).1).toNat (Nat.zero_le _)
  rw [b3, b4] at this ⊢
  omega
set_option maxHeartbeats 32000000 in
theorem run_any {w : World} {B : Bk} {S : SS} (h : SeqM w B S) (hI : Inv S) (u : Un) (hu : u.ok) (n : Int) (hn : -1152921504606846976 ≤ n ∧ n ≤ 1152921504606846976) (hC : S.may u n = true → Inv (S.cut (S.placeFor u)) ∧ (S.cut (S.placeFor u)).total + n ≤ 1152921504606846976) :
    Calls Tryz.prog 31 #[sP B, .agg #[u64 (u).c, u64 (u).k, u64 (u).lc, u64 (u).lk, u64 (u).rc, u64 (u).rk], iV n] w fun e w' => e = .returned (.bool (S.may u n)) ∧ Laid w w' B (S.run u n) := by
  obtain ⟨E, hE⟩ : ∃ E, Hid (E = w.alloc (unO u)) := ⟨_, Eq.refl _⟩
  have HTE : Hid (Touch (fun _ => False) w E) := by rw [hE.out]; exact (Touch.refl _ _).alloc _
  have HEB : Hid (E.heap[w.heap.size]? = some (unO u)) := by rw [hE.out]; exact heap_alloc_new _ _
  have HRi : Hid (∀ W, Calls Tryz.prog 53 #[.agg #[u64 u.c, u64 u.k]] W fun e w' => e = .returned (.bool (numOk u.c && numOk u.k)) ∧ Touch (fun _ => False) W w') := fun W => (right_any u.c u.k W).mono fun e w' q => ⟨q.1, by rw [q.2]; exact (Touch.refl _ _).alloc _⟩
  have hnk : numOk u.k = true → 1 ≤ u.k ∧ u.k ≤ 9007199254740991 := fun h => by simpa [numOk] using h
  have hnc : numOk u.c = true → 1 ≤ u.c ∧ u.c ≤ 9007199254740991 := fun h => by simpa [numOk] using h
  have HHa : Hid (numOk u.k = true → 1 ≤ n → n - 1 ≤ 9007199254740991 - u.k → ∀ W, Touch (fun _ => False) E W → Calls Tryz.prog 54 #[sP B, .agg #[u64 u.c, u64 u.k], iV n] W fun e w' => e = .returned (.bool (S.hasAny u.c u.k n)) ∧ Touch (fun _ => False) W w') := fun a b c W t => hasAny_any (h.keep0 (HTE.out.trans t)) hI u.c u.k n hu.c hu.k.1 b (by omega)
  have HBe : Hid (∀ W, Touch (fun _ => False) E W → Calls Tryz.prog 55 #[sP B, .agg #[u64 (u).c, u64 (u).k, u64 (u).lc, u64 (u).lk, u64 (u).rc, u64 (u).rk]] W fun e w' => e = .returned (.tuple #[iV (S.between u).1, iV (S.between u).2.1, .bool (S.between u).2.2]) ∧ Touch (fun _ => False) W w') := fun W t => between_any (h.keep0 (HTE.out.trans t)) hI u hu
  have HPa : Hid ((S.between u).2.2 = true → ∀ W, Touch (fun _ => False) E W → Calls Tryz.prog 56 #[sP B, .agg #[u64 (u).c, u64 (u).k, u64 (u).lc, u64 (u).lk, u64 (u).rc, u64 (u).rk]] W fun e w' => e = .returned (.tuple #[.agg #[iV (((S.parentOf u).1).run : Int), u64 ((S.parentOf u).1).pos], .bool (S.parentOf u).2]) ∧ Touch (fun _ => False) W w') := fun hb W t => by
    obtain ⟨b1, b2, b3, b4, b5, b6⟩ := hI.betw hu hb
    have l1 := hI.there hu.lc hu.lk.1 b1
    exact parentOf_any (h.keep0 (HTE.out.trans t)) hI u hu ⟨l1.2.1, l1.2.2⟩ fun hz => by
      have r1 := hI.there hu.rc hu.rk.1 b2
      exact ⟨r1.2.1, r1.2.2⟩
  have HPl : Hid ((S.between u).2.2 = true → ∀ W, Touch (fun _ => False) E W → Calls Tryz.prog 58 #[sP B, .agg #[u64 (u).c, u64 (u).k, u64 (u).lc, u64 (u).lk, u64 (u).rc, u64 (u).rk], .agg #[iV (((S.parentOf u).1).run : Int), u64 ((S.parentOf u).1).pos], .bool (S.parentOf u).2, iV (S.between u).1, iV (S.between u).2.1] W fun e w' => e = .returned (iV (S.placeFor u)) ∧ Touch (fun _ => False) W w') := fun hb W t => by
    obtain ⟨b1, b2, b3, b4, b5, b6⟩ := hI.betw hu hb
    refine placeOf_any (h.keep0 (HTE.out.trans t)) hI u hu _ (hI.parP hu hb) _ _ _ ?_ ?_ ?_
    · rw [b3]; exact b6
    · rw [b3, b4]; exact b5
    · rw [b4]; exact hI.rightOf_le hu
  have HLa : Hid (S.may u n = true → ∀ W, Touch (fun _ => False) E W → Calls Tryz.prog 57 #[sP B, iV (S.placeFor u), .agg #[u64 (u).c, u64 (u).k, u64 (u).lc, u64 (u).lk, u64 (u).rc, u64 (u).rk], .agg #[iV (((S.parentOf u).1).run : Int), u64 ((S.parentOf u).1).pos], iV n] W fun e w' => e = .returned (.tuple #[]) ∧ Laid W w' B (S.run u n)) := fun hm W t => by
    have hm' := may_iff.1 hm
    have e : S.run u n = S.lay (S.placeFor u) u (S.parentOf u).1 n := by unfold SS.run; rw [if_pos hm]; rfl
    rw [e]
    have hb := hm'.2.2.2.2
    exact lay_any (h.keep0 (HTE.out.trans t)) hI _ (hC hm).1 (hI.placeLe hu hb) u hu (hnc hm'.1.1).1 _ (hI.parP hu hb).1 n ⟨by have := hm'.2.1; omega, by have := hm'.2.2.1; have := (hnk hm'.1.2).1; omega⟩ (hC hm).2
  have HNo : Hid (S.may u n = false → ∀ W, Touch (fun _ => False) w W → Laid w W B (S.run u n)) := fun hm W t => by
    have e : S.run u n = S := by unfold SS.run; rw [if_neg (by rw [hm]; simp)]
    rw [e]
    exact h.laid.more t
  have HMay : Hid (S.may u n = ((numOk u.c && numOk u.k) && decide (1 ≤ n) && decide (n - 1 ≤ 9007199254740991 - u.k) && !S.hasAny u.c u.k n && (S.between u).2.2)) := Eq.refl _
  have HBox : Hid (∀ k, w.heap.size ≤ k → ¬ B.has k) := fun k hk e => by have := h.lt e; omega
  have Hnk : Hid (numOk u.k = true → 1 ≤ u.k ∧ u.k ≤ 9007199254740991) := hnk
  have HMi : Hid (S.may u n = true ↔ _) := may_iff
  obtain ⟨sr, hsr⟩ : ∃ x, Hid (x = S.run u n) := ⟨_, Eq.refl _⟩
  rw [← hsr.out] at HLa HNo ⊢
  generalize S.may u n = may at *
  generalize S.placeFor u = pf at *
  generalize S.parentOf u = po at *
  generalize S.between u = bt at *
  generalize S.hasAny u.c u.k n = ha at *
  obtain ⟨⟨pr, pp⟩, left⟩ := po
  obtain ⟨lo, hi, bb⟩ := bt
  obtain ⟨uc, uk, ulc, ulk, urc, urk⟩ := u
  simp only at hE HEB HRi HHa HBe HPa HPl HLa HMay Hnk ⊢
  have HC6 : Hid (∀ W : World, W.heap[w.heap.size]? = some (unO ⟨uc, uk, ulc, ulk, urc, urk⟩) → W.cell? ⟨w.heap.size, 0, none⟩ = some (u64 uc) ∧ W.cell? ⟨w.heap.size, 1, none⟩ = some (u64 uk) ∧ W.cell? ⟨w.heap.size, 2, none⟩ = some (u64 ulc) ∧ W.cell? ⟨w.heap.size, 3, none⟩ = some (u64 ulk) ∧ W.cell? ⟨w.heap.size, 4, none⟩ = some (u64 urc) ∧ W.cell? ⟨w.heap.size, 5, none⟩ = some (u64 urk)) := fun W h => unO_cells h
  generalize numOk uc = nc at *
  obtain ⟨nk, hnkk⟩ : ∃ b, b = numOk uk := ⟨_, rfl⟩
  rw [← hnkk] at HRi HHa HMay Hnk
  have hukr := hu.k
  simp only at hukr
  clear h hI hu hC hnk hnc hsr HMi hnkk
  obtain ⟨a0, a1, a2, a3, a4, a5⟩ := HC6.out E HEB.out
  go_enter Tryz.func31, Tryz.ntmps31
  go_upto_region 1 with fail
  rw [← hE.out]
  clear hE
  obtain ⟨m, hm⟩ : ∃ m, Hid (m = w.heap.size) := ⟨_, Eq.refl _⟩
  rw [← hm.out] at HEB HC6 a0 a1 a2 a3 a4 a5 ⊢
  by_cases hr : (nc && nk) = true
  · rw [hr] at HRi HMay
    have hnk1 : nk = true := by simp only [Bool.and_eq_true] at hr; exact hr.2
    have huk := Hnk.out hnk1
    have HHb : Hid (1 ≤ n → n - 1 ≤ 9007199254740991 - uk → ∀ W, Touch (fun _ => False) E W → Calls Tryz.prog 54 #[sP B, .agg #[u64 uc, u64 uk], iV n] W fun e w' => e = .returned (.bool ha) ∧ Touch (fun _ => False) W w') := HHa.out hnk1
    clear hr hnk1 HHa
    have HK : Hid (∀ W, Touch (fun _ => False) E W → W.cell? ⟨m, 0, none⟩ = some (u64 uc) ∧ W.cell? ⟨m, 1, none⟩ = some (u64 uk) ∧ W.cell? ⟨m, 2, none⟩ = some (u64 ulc) ∧ W.cell? ⟨m, 3, none⟩ = some (u64 ulk) ∧ W.cell? ⟨m, 4, none⟩ = some (u64 urc) ∧ W.cell? ⟨m, 5, none⟩ = some (u64 urk)) := fun W t => HC6.out W (heap_keep t HEB.out)
    by_cases h1 : n < 1
    · have HX : Hid (may = false) := by rw [HMay.out, show decide (1 ≤ n) = false from by simp; omega]; exact Eq.refl _
      clear HMay HHb huk
      go_wp2_with fail
      refine (HRi.out _).mono ?_
      rintro e W1 ⟨rfl, t1⟩
      have HT : Hid (Touch (fun _ => False) w W1) := HTE.out.trans t1
      clear t1
      go_wp2_with fail
      go_ret
      exact ⟨congrArg (fun x => Ending.returned (.bool x)) HX.out.symm, HNo.out HX.out _ HT.out⟩
    · have e2 : IntKind.i64.wrap (n - 1) = n - 1 := by rw [IntKind.wrap_i64]; omega
      have e3 : IntKind.u64.wrap (n - 1) = n - 1 := by rw [IntKind.wrap_u64]; omega
      have e4 : IntKind.u64.wrap (9007199254740991 - uk) = 9007199254740991 - uk := by rw [IntKind.wrap_u64]; omega
      by_cases h2 : 9007199254740991 - uk < n - 1
      · have hx : may = false := by rw [HMay.out, show decide (n - 1 ≤ 9007199254740991 - uk) = false from by simp; omega]; simp only [Bool.and_false, Bool.false_and]
        have HX : Hid (may = false) := hx
        clear hx
        clear HMay HHb huk
        go_wp2_with fail
        refine (HRi.out _).mono ?_
        rintro e W1 ⟨rfl, t1⟩
        have HT1 : Hid (Touch (fun _ => False) E W1) := t1
        clear t1
        clear a0 a1 a2 a3 a4 a5
        obtain ⟨a0, a1, a2, a3, a4, a5⟩ := HK.out W1 HT1.out
        go_wp2_with fail
        go_ret
        exact ⟨congrArg (fun x => Ending.returned (.bool x)) HX.out.symm, HNo.out HX.out _ (HTE.out.trans HT1.out)⟩
      · have HH2 : Hid (∀ W, Touch (fun _ => False) E W → Calls Tryz.prog 54 #[sP B, .agg #[u64 uc, u64 uk], iV n] W fun e w' => e = .returned (.bool ha) ∧ Touch (fun _ => False) W w') := HHb.out (by omega) (by omega)
        have hx : may = (!ha && bb) := by
          rw [HMay.out, show decide (1 ≤ n) = true from by simp; omega, show decide (n - 1 ≤ 9007199254740991 - uk) = true from by simp; omega]
          simp only [Bool.true_and, Bool.and_true]
        have HM2 : Hid (may = (!ha && bb)) := hx
        clear hx
        clear HMay HHb huk
        go_wp2_with fail
        refine (HRi.out _).mono ?_
        rintro e W1 ⟨rfl, t1⟩
        have HT1 : Hid (Touch (fun _ => False) E W1) := t1
        clear t1 HRi
        clear a0 a1 a2 a3 a4 a5
        obtain ⟨a0, a1, a2, a3, a4, a5⟩ := HK.out W1 HT1.out
        go_wp2_with fail
        refine (HH2.out _ HT1.out).mono ?_
        rintro e W2 ⟨rfl, t2⟩
        have HT2 : Hid (Touch (fun _ => False) E W2) := HT1.out.trans t2
        clear t2 HH2
        clear a0 a1 a2 a3 a4 a5
        obtain ⟨a0, a1, a2, a3, a4, a5⟩ := HK.out W2 HT2.out
        cases ha
        · go_wp2_with fail
          refine (HBe.out _ HT2.out).mono ?_
          rintro e W3 ⟨rfl, t3⟩
          have HT3 : Hid (Touch (fun _ => False) E W3) := HT2.out.trans t3
          clear t3 HBe
          clear a0 a1 a2 a3 a4 a5
          obtain ⟨a0, a1, a2, a3, a4, a5⟩ := HK.out W3 HT3.out
          cases bb
          · have HX : Hid (may = false) := HM2.out
            go_wp2_with fail
            go_ret
            exact ⟨congrArg (fun x => Ending.returned (.bool x)) HX.out.symm, HNo.out HX.out _ (HTE.out.trans HT3.out)⟩
          · have HX : Hid (may = true) := HM2.out
            have HPa2 : Hid (∀ W, Touch (fun _ => False) E W → Calls Tryz.prog 56 #[sP B, .agg #[u64 uc, u64 uk, u64 ulc, u64 ulk, u64 urc, u64 urk]] W fun e w' => e = .returned (.tuple #[.agg #[iV (pr : Int), u64 pp], .bool left]) ∧ Touch (fun _ => False) W w') := HPa.out rfl
            have HPl2 : Hid (∀ W, Touch (fun _ => False) E W → Calls Tryz.prog 58 #[sP B, .agg #[u64 uc, u64 uk, u64 ulc, u64 ulk, u64 urc, u64 urk], .agg #[iV (pr : Int), u64 pp], .bool left, iV lo, iV hi] W fun e w' => e = .returned (iV pf) ∧ Touch (fun _ => False) W w') := HPl.out rfl
            have HLa2 : Hid (∀ W, Touch (fun _ => False) E W → Calls Tryz.prog 57 #[sP B, iV pf, .agg #[u64 uc, u64 uk, u64 ulc, u64 ulk, u64 urc, u64 urk], .agg #[iV (pr : Int), u64 pp], iV n] W fun e w' => e = .returned (.tuple #[]) ∧ Laid W w' B sr) := HLa.out HX.out
            clear HPa HPl HLa HNo
            go_wp2_with fail
            refine (HPa2.out _ HT3.out).mono ?_
            rintro e W4 ⟨rfl, t4⟩
            obtain ⟨W5, hW5⟩ : ∃ W, Hid (W = W4.alloc (.cells #[iV (pr : Int), u64 pp] 104)) := ⟨_, Eq.refl _⟩
            have H5 : Hid (Touch (fun _ => False) E W5 ∧ W5.heap[W4.heap.size]? = some (spO ⟨pr, pp⟩) ∧ w.heap.size ≤ W4.heap.size) := by
              rw [hW5.out]
              exact ⟨(HT3.out.trans t4).alloc _, heap_alloc_new _ _, Nat.le_trans HTE.out.size (HT3.out.trans t4).size⟩
            clear t4 HPa2 a0 a1 a2 a3 a4 a5
            go_upto_region 7 with fail
            rw [← hW5.out]
            clear hW5
            obtain ⟨q, hq⟩ : ∃ m, Hid (m = W4.heap.size) := ⟨_, Eq.refl _⟩
            rw [← hq.out] at H5 ⊢
            have HS : Hid (∀ W, Touch (fun _ => False) W5 W → (W.cell? ⟨m, 0, none⟩ = some (u64 uc) ∧ W.cell? ⟨m, 1, none⟩ = some (u64 uk) ∧ W.cell? ⟨m, 2, none⟩ = some (u64 ulc) ∧ W.cell? ⟨m, 3, none⟩ = some (u64 ulk) ∧ W.cell? ⟨m, 4, none⟩ = some (u64 urc) ∧ W.cell? ⟨m, 5, none⟩ = some (u64 urk)) ∧ W.cell? ⟨q, 0, none⟩ = some (iV (pr : Int)) ∧ W.cell? ⟨q, 1, none⟩ = some (u64 pp)) := fun W t => by
              have b := spO_cells (heap_keep t H5.out.2.1)
              exact ⟨HK.out W (H5.out.1.trans t), b.1, b.2.1⟩
            have HS2 : Hid (∀ W W', Touch (fun _ => False) W5 W → Touch B.has W W' → (W'.cell? ⟨m, 0, none⟩ = some (u64 uc) ∧ W'.cell? ⟨m, 1, none⟩ = some (u64 uk) ∧ W'.cell? ⟨m, 2, none⟩ = some (u64 ulc) ∧ W'.cell? ⟨m, 3, none⟩ = some (u64 ulk) ∧ W'.cell? ⟨m, 4, none⟩ = some (u64 urc) ∧ W'.cell? ⟨m, 5, none⟩ = some (u64 urk)) ∧ W'.cell? ⟨q, 0, none⟩ = some (iV (pr : Int)) ∧ W'.cell? ⟨q, 1, none⟩ = some (u64 pp)) := fun W W' t t' => by
              have hu := heap_keep (H5.out.1.trans t) HEB.out
              have hs := heap_keep t H5.out.2.1
              have hmm : w.heap.size ≤ m := by rw [hm.out]; exact Nat.le_refl _
              have b := spO_cells ((t'.block q (lt_of_heap hs) (HBox.out q H5.out.2.2)).trans hs)
              exact ⟨HC6.out W' ((t'.block m (lt_of_heap hu) (HBox.out m hmm)).trans hu), b.1, b.2.1⟩
            have s0 := HS.out _ (Touch.refl _ W5).drew
            go_region_held3 (fun W => (W.cell? ⟨m, 0, none⟩ = some (u64 uc) ∧ W.cell? ⟨m, 1, none⟩ = some (u64 uk) ∧ W.cell? ⟨m, 2, none⟩ = some (u64 ulc) ∧ W.cell? ⟨m, 3, none⟩ = some (u64 ulk) ∧ W.cell? ⟨m, 4, none⟩ = some (u64 urc) ∧ W.cell? ⟨m, 5, none⟩ = some (u64 urk)) ∧ W.cell? ⟨q, 0, none⟩ = some (iV (pr : Int)) ∧ W.cell? ⟨q, 1, none⟩ = some (u64 pp)) (first | assumption)
              (first
                | (go_at_call 58; (with_reducible refine (HPl2.out _ (H5.out.1.trans (Touch.refl _ W5).drew)).mono ?_); rintro e W6 ⟨rfl, t6⟩; have HT6 : Hid (Touch (fun _ => False) W5 W6) := (Touch.refl _ W5).drew.trans t6; have s6 := HS.out W6 HT6.out; clear t6)
                | (go_at_call 57; (with_reducible refine (HLa2.out _ (H5.out.1.trans HT6.out)).mono ?_); rintro e W7 ⟨rfl, l7⟩; have HF : Hid (Laid w W7 B sr) := l7.after0 (HTE.out.trans (H5.out.1.trans HT6.out)); obtain ⟨B7, m7, b7, f7, t7⟩ := l7; have s7 := HS2.out W6 W7 HT6.out t7; clear m7 b7 f7 t7))
            all_goals (try go_wp2_with fail)
            all_goals go_ret
            all_goals exact ⟨congrArg (fun x => Ending.returned (.bool x)) HX.out.symm, HF.out⟩
        · have HX : Hid (may = false) := HM2.out
          go_wp2_with fail
          go_ret
          exact ⟨congrArg (fun x => Ending.returned (.bool x)) HX.out.symm, HNo.out HX.out _ (HTE.out.trans HT2.out)⟩
  · have hr' : (nc && nk) = false := by simpa using hr
    rw [hr'] at HRi HMay
    have HX : Hid (may = false) := HMay.out
    clear hr hr' HMay
    go_wp2_with fail
    refine (HRi.out _).mono ?_
    rintro e W1 ⟨rfl, t1⟩
    have HT : Hid (Touch (fun _ => False) w W1) := HTE.out.trans t1
    clear t1
    go_wp2_with fail
    go_ret
    exact ⟨congrArg (fun x => Ending.returned (.bool x)) HX.out.symm, HNo.out HX.out _ HT.out⟩
end Go.Proofs.YtdnhoicfolkbnaaGreat

/- What is so of a sequence stays so behind Run (no Go in it). -/
namespace Go.Proofs.YtdnhoicfolkbnaaGreat
set_option linter.unusedVariables false
set_option linter.unusedSimpArgs false

theorem Free.cutF {S : SS} (h : Inv S) {c k n : Int} (hn : 1 ≤ n) (hf : Free S c k n) (p : Int) : Free (S.cut p) c k n := by
  unfold SS.cut
  by_cases hr : 0 < S.restAt p
  · rw [if_pos hr]
    obtain ⟨ha, hb, hc⟩ := h.atOk (p - 1)
    have hrd : S.restAt p = S.len (S.cutAt p) - (atF S.len S.ord (p - 1)).2 - 1 := rfl
    have hi0 : S.cutAt p ≠ 0 := fun e => by
      rw [e, h.ordF.zero] at hrd
      omega
    have ha' : S.cutAt p < S.pcs.length := ha
    have hb' : 0 ≤ (atF S.len S.ord (p - 1)).2 := hb
    generalize S.restAt p = rest at *
    generalize S.cutAt p = i at *
    generalize (atF S.len S.ord (p - 1)).2 = wi at *
    intro x hx0 hxl
    have hxl' : x < S.pcs.length + 1 := by
      have : ((S.grow i (-rest)).addPiece i i ((S.grow i (-rest)).endOf i) rest).pcs.length = S.pcs.length + 1 := by show (S.pcs ++ [_]).length = _; simp
      omega
    have hlen : ((S.grow i (-rest)).addPiece i i ((S.grow i (-rest)).endOf i) rest).len x = S.len x + (if x = i then -rest else 0) + (if x = S.pcs.length then rest else 0) := rfl
    have hpc : ((S.grow i (-rest)).addPiece i i ((S.grow i (-rest)).endOf i) rest).pc x = if x < S.pcs.length then S.pc x else if x = S.pcs.length then (S.grow i (-rest)).endOf i else .zero := pc_snoc (S := S) (x := (S.grow i (-rest)).endOf i) (i := x)
    by_cases hx : x < S.pcs.length
    · have e : ((S.grow i (-rest)).addPiece i i ((S.grow i (-rest)).endOf i) rest).first x = S.first x := first_eq (S := S) (T := (S.grow i (-rest)).addPiece i i ((S.grow i (-rest)).endOf i) rest) rfl (by rw [hpc, if_pos hx])
      rw [e, hlen, if_neg (show ¬ x = S.pcs.length by omega)]
      rcases hf x hx0 hx with h1 | h1 | h1
      · exact .inl h1
      · refine .inr (.inl ?_)
        split <;> omega
      · exact .inr (.inr h1)
    · have ex : x = S.pcs.length := by omega
      have e1 : (((S.grow i (-rest)).addPiece i i ((S.grow i (-rest)).endOf i) rest).first x).c = (S.first i).c ∧ (((S.grow i (-rest)).addPiece i i ((S.grow i (-rest)).endOf i) rest).first x).k = (S.first i).k + (S.len i - rest) := by
        have e2 : (S.grow i (-rest)).endOf i = ⟨(S.pc i).run, (S.pc i).pos + (S.len i + (if i = i then -rest else 0))⟩ := rfl
        rw [if_pos rfl] at e2
        have ec : (((S.grow i (-rest)).addPiece i i ((S.grow i (-rest)).endOf i) rest).first x).c = (rn S.runs (((S.grow i (-rest)).addPiece i i ((S.grow i (-rest)).endOf i) rest).pc x).run).first.c := unitR_c _ _
        have ek : (((S.grow i (-rest)).addPiece i i ((S.grow i (-rest)).endOf i) rest).first x).k = (rn S.runs (((S.grow i (-rest)).addPiece i i ((S.grow i (-rest)).endOf i) rest).pc x).run).first.k + (((S.grow i (-rest)).addPiece i i ((S.grow i (-rest)).endOf i) rest).pc x).pos := unitR_k _ _
        have fc : (S.first i).c = (rn S.runs (S.pc i).run).first.c := unitR_c _ _
        have fk : (S.first i).k = (rn S.runs (S.pc i).run).first.k + (S.pc i).pos := unitR_k _ _
        rw [ec, ek, fc, fk, hpc, if_neg hx, if_pos ex, e2]
        exact ⟨rfl, by simp only; omega⟩
      have hl2 : ((S.grow i (-rest)).addPiece i i ((S.grow i (-rest)).endOf i) rest).len x = rest := by
        rw [hlen, ex, if_neg (show ¬ S.pcs.length = i by omega), if_pos rfl, h.ordF.out _ (Nat.le_refl _)]; omega
      rw [e1.1, e1.2, hl2]
      rcases hf i (by omega) ha' with h1 | h1 | h1
      · exact .inl h1
      · exact .inr (.inl (by omega))
      · exact .inr (.inr (by omega))
  · rw [if_neg hr]
    exact hf
theorem rn_snoc {R : List Rn} {x : Rn} {r : Nat} : rn (R ++ [x]) r = if r < R.length then rn R r else if r = R.length then x else .zero := by
  unfold rn
  by_cases h : r < R.length
  · rw [if_pos h, List.getElem?_append_left h]
  · rw [if_neg h]
    by_cases e : r = R.length
    · rw [if_pos e, e, List.getElem?_append_right (Nat.le_refl _), Nat.sub_self]; rfl
    · rw [if_neg e, List.getElem?_eq_none (by simp; omega)]; rfl
/-- A piece made longer. -/
theorem Inv.growI {T : SS} (h : Inv T) {i : Nat} (hi : i < T.pcs.length) (hi0 : i ≠ 0) {u : Un} {n : Int} (hn : 1 ≤ n) (he : T.unit (T.endOf i) = u) (hk : u.k + n ≤ 9007199254740992) (hf : Free T u.c u.k n) (hs : T.total + n ≤ 281474976710656) : Inv (T.grow i n) ∧ (T.grow i n).total = T.total + n := by
  have htot : (T.grow i n).total = T.total + n := sum_grow h.ordF hi hi0 n
  have hl := h.ordF.long i
  have hlen : ∀ x, (T.grow i n).len x = T.len x + (if x = i then n else 0) := fun x => rfl
  have huc : (T.first i).c = u.c := by
    rw [← he]
    have a : (T.first i).c = (rn T.runs (T.pc i).run).first.c := unitR_c _ _
    have b : (T.unit (T.endOf i)).c = (rn T.runs (T.endOf i).run).first.c := unitR_c _ _
    rw [a, b]; rfl
  have huk : (T.first i).k + T.len i = u.k := by
    rw [← he]
    have a : (T.first i).k = (rn T.runs (T.pc i).run).first.k + (T.pc i).pos := unitR_k _ _
    have b : (T.unit (T.endOf i)).k = (rn T.runs (T.endOf i).run).first.k + (T.endOf i).pos := unitR_k _ _
    rw [a, b]
    show _ + _ + _ = (rn T.runs (T.pc i).run).first.k + ((T.pc i).pos + T.len i)
    omega
  refine ⟨⟨h.root, h.rlen, h.rmax, h.pmax, by rw [htot]; exact hs, h.runs, h.fst, h.p0, h.ordF.grow hi hi0 (by omega), h.idxF, fun x h1 h2 => ?_, ?_⟩, htot⟩
  · obtain ⟨q1, q2, q3, q4, q5⟩ := h.pcs x h1 h2
    refine ⟨q1, q2, q3, ?_, ?_⟩
    · rw [hlen]; split <;> omega
    · show _ + (T.pc x).pos + _ ≤ _
      rw [hlen]
      by_cases e : x = i
      · rw [if_pos e, e]
        have a : (T.first i).k = (rn T.runs (T.pc i).run).first.k + (T.pc i).pos := unitR_k _ _
        show (rn T.runs (T.pc i).run).first.k + (T.pc i).pos + (T.len i + n) ≤ _
        omega
      · rw [if_neg e]; exact (by omega : (rn T.runs (T.pc x).run).first.k + (T.pc x).pos + (T.len x + 0) ≤ 9007199254740992)
  · refine List.Pairwise.imp_of_mem (fun {a b} hma hmb hR => ?_) h.sorted
    have hR' : (T.first a).c < (T.first b).c ∨ ((T.first a).c = (T.first b).c ∧ (T.first a).k + T.len a ≤ (T.first b).k) := hR
    show (T.first a).c < (T.first b).c ∨ ((T.first a).c = (T.first b).c ∧ (T.first a).k + (T.grow i n).len a ≤ (T.first b).k)
    rw [hlen]
    by_cases e : a = i
    · rw [if_pos e]
      rw [e] at hR' ⊢
      have lb := (h.idxF.lab b).1 hmb
      have q4 := (h.pcs b (by omega) lb.2).2.2.2.1
      rcases hf b (by omega) lb.2 with h1 | h1 | h1 <;> omega
    · rw [if_neg e]; omega
/-- A run more, and its piece. -/
theorem Inv.newI {T : SS} (h : Inv T) {i : Nat} (hi : i < T.pcs.length) {u : Un} (hu : u.ok) (hc : 1 ≤ u.c ∧ u.c ≤ 9007199254740991) (hk : 1 ≤ u.k) {p : Sp} (hp : SpP T p) {n : Int} (hn : 1 ≤ n) (hk2 : u.k + n ≤ 9007199254740992) (hf : Free T u.c u.k n) (hs : T.total + n ≤ 281474976710656) (hl : T.pcs.length + 1 ≤ 1073741824) (hr : T.runs.length + 1 ≤ 1073741824) :
    Inv ((T.addRun u p).addPiece i (T.piece u.c u.k) ⟨T.runs.length, 0⟩ n) ∧ ((T.addRun u p).addPiece i (T.piece u.c u.k) ⟨T.runs.length, 0⟩ n).total = T.total + n := by
  have hpl := h.piece_lt u.c u.k
  have hg2 := h.ordF.add hi (lg := n) (by omega)
  have hgi' : RowF (T.pcs.length + 1) (insB (T.piece u.c u.k) T.pcs.length T.idx) (fun _ => 0) := by
    have e : (fun x => (0 : Int) + (if x = T.pcs.length then 0 else 0)) = fun _ => (0 : Int) := by funext x; split <;> rfl
    rw [← e]; exact h.idxF.add hpl (lg := 0) (by omega)
  have htot0 := sum_add h.ordF hi n
  have hD := h.down
  obtain ⟨d1, d2, d3, d4⟩ := hD.step hp.1 (d := 0) (by omega)
  obtain ⟨e1, e2, e3, e4⟩ := hD.step d3 (d := 0) (by omega)
  have hpk := (h.fst p.run).k
  have hbd : ∀ r, r < T.runs.length → 0 ≤ (rn T.runs r).far.pos ∧ (rn T.runs r).far.pos ≤ 9007199254740992 := fun r hr' => by
    by_cases h0 : r = 0
    · rw [h0, h.root]; decide
    · have := h.runs r (by omega) hr'
      exact ⟨this.2.2.2.2.1, this.2.2.2.2.2.1⟩
  have hfar : (farOf T.runs p).run < T.runs.length ∧ 0 ≤ (farOf T.runs p).pos ∧ (farOf T.runs p).pos ≤ 9007199254740992 := by
    unfold farOf
    split
    · exact ⟨e3, hbd _ d3⟩
    · exact ⟨hp.1, hp.2.1, by have := hp.2.2; omega⟩
  have hdep : 0 ≤ (rn T.runs p.run).depth ∧ (rn T.runs p.run).depth ≤ p.run := by
    refine ⟨hD.2.1 _, ?_⟩
    by_cases h0 : p.run = 0
    · rw [h0, h.root]; decide
    · exact (h.runs p.run (by omega) hp.1).2.2.2.2.2.2.2.1
  have hpr := hp.1
  have hpc : ∀ x, ((T.addRun u p).addPiece i (T.piece u.c u.k) ⟨T.runs.length, 0⟩ n).pc x = if x < T.pcs.length then T.pc x else if x = T.pcs.length then ⟨T.runs.length, 0⟩ else .zero := fun x => pc_snoc (S := T) (x := ⟨T.runs.length, 0⟩) (i := x)
  have tr : ((T.addRun u p).addPiece i (T.piece u.c u.k) ⟨T.runs.length, 0⟩ n).runs = T.runs ++ [⟨u, p, farOf T.runs p, (rn T.runs p.run).depth + 1⟩] := rfl
  have tp : ((T.addRun u p).addPiece i (T.piece u.c u.k) ⟨T.runs.length, 0⟩ n).pcs.length = T.pcs.length + 1 := by show (T.pcs ++ [_]).length = _; simp
  have tor : ((T.addRun u p).addPiece i (T.piece u.c u.k) ⟨T.runs.length, 0⟩ n).ord = insB i T.pcs.length T.ord := rfl
  have ti : ((T.addRun u p).addPiece i (T.piece u.c u.k) ⟨T.runs.length, 0⟩ n).idx = insB (T.piece u.c u.k) T.pcs.length T.idx := rfl
  have tl : ((T.addRun u p).addPiece i (T.piece u.c u.k) ⟨T.runs.length, 0⟩ n).len = fun x => T.len x + (if x = T.pcs.length then n else 0) := rfl
  generalize (T.addRun u p).addPiece i (T.piece u.c u.k) ⟨T.runs.length, 0⟩ n = Q at *
  have htot : Q.total = T.total + n := by unfold SS.total; rw [tor, tl]; exact htot0
  have hrn : ∀ r, r < T.runs.length → rn Q.runs r = rn T.runs r := fun r hr' => by rw [tr, rn_snoc, if_pos hr']
  have hrN : rn Q.runs T.runs.length = ⟨u, p, farOf T.runs p, (rn T.runs p.run).depth + 1⟩ := by rw [tr, rn_snoc, if_neg (by omega), if_pos rfl]
  have hrl : Q.runs.length = T.runs.length + 1 := by rw [tr]; simp
  have hfo : ∀ x, x < T.pcs.length → Q.first x = T.first x := fun x hx => by
    unfold SS.first SS.unit unitR
    rw [hpc, if_pos hx, hrn _ (h.pcOk hx).1]
  have hfn : Q.first T.pcs.length = u := by
    have hq : Q.pc T.pcs.length = ⟨T.runs.length, 0⟩ := by rw [hpc, if_neg (Nat.lt_irrefl _), if_pos rfl]
    unfold SS.first SS.unit unitR
    rw [hq, if_pos rfl]
    show (rn Q.runs T.runs.length).first = u
    rw [hrN]
  have hlo : ∀ x, x < T.pcs.length → Q.len x = T.len x := fun x hx => by rw [tl]; show T.len x + _ = _; rw [if_neg (by omega)]; omega
  have hln : Q.len T.pcs.length = n := by rw [tl]; show T.len _ + _ = _; rw [if_pos rfl, h.ordF.out _ (Nat.le_refl _)]; omega
  refine ⟨⟨by rw [hrn 0 h.rlen]; exact h.root, by omega, by omega, by omega, by rw [htot]; exact hs, fun r h1 h2 => ?_, fun r => ?_, by rw [hpc, if_pos h.pos]; exact h.p0, by rw [tp, tor, tl]; exact hg2, by rw [tp, ti]; exact hgi', fun x h1 h2 => ?_, ?_⟩, htot⟩
  · by_cases hr' : r < T.runs.length
    · rw [hrn r hr']; exact h.runs r h1 hr'
    · have e : r = T.runs.length := by omega
      rw [e, hrN]
      exact ⟨hp.1, hfar.1, hp.2.1, by have := hp.2.2; show p.pos ≤ _; omega, hfar.2.1, hfar.2.2, by show (0 : Int) < _ + 1; omega, by show _ + (1 : Int) ≤ _; omega, hc.1, hc.2, hk, by show u.k ≤ _; omega⟩
  · by_cases hr' : r < T.runs.length
    · rw [hrn r hr']; exact h.fst r
    · by_cases e : r = T.runs.length
      · rw [e, hrN]; exact hu
      · rw [rn_out (by omega)]
        exact ⟨by decide, by decide, by decide, by decide, by decide, by decide⟩
  · by_cases hx : x < T.pcs.length
    · obtain ⟨q1, q2, q3, q4, q5⟩ := h.pcs x h1 hx
      rw [hpc, if_pos hx, hlo x hx, hrn _ q2]
      exact ⟨q1, by omega, q3, q4, q5⟩
    · have e : x = T.pcs.length := by omega
      rw [hpc, if_neg hx, if_pos e, e, hln]
      have hrl0 := h.rlen
      refine ⟨hrl0, by show T.runs.length < _; omega, Int.le_refl _, hn, ?_⟩
      show (rn Q.runs T.runs.length).first.k + 0 + n ≤ _
      rw [hrN]
      show u.k + 0 + n ≤ _
      omega
  · rw [ti]
    have h0 : 0 ∉ T.idx := fun hx => by have := (h.idxF.lab 0).1 hx; omega
    refine pairwise_last h.idxF.nod ?_ h0 (h.mono u.c u.k) (fun x hx hh => ?_) (fun x hx hh => ?_)
    · refine List.Pairwise.imp_of_mem (fun {a b} hma hmb hR => ?_) h.sorted
      have la := ((h.idxF.lab a).1 hma).2
      have lb := ((h.idxF.lab b).1 hmb).2
      rw [hfo a la, hfo b lb, hlo a la]
      exact hR
    · have lx := (h.idxF.lab x).1 hx
      rw [hfo x lx.2, hfn, hlo x lx.2]
      rw [holds_iff] at hh
      rcases hf x (by omega) lx.2 with h1 | h1 | h1 <;> omega
    · have lx := (h.idxF.lab x).1 hx
      rw [hfo x lx.2, hfn, hln]
      have q4 := (h.pcs x (by omega) lx.2).2.2.2.1
      have hh' : ¬ ((T.first x).c < u.c ∨ ((T.first x).c = u.c ∧ (T.first x).k ≤ u.k)) := fun h' => by
        rw [holds_iff.2 h'] at hh
        cases hh
      rcases hf x (by omega) lx.2 with h1 | h1 | h1 <;> omega
theorem Inv.runI {S : SS} (h : Inv S) {u : Un} (hu : u.ok) {n : Int} (hs : S.may u n = true → S.total + n ≤ 281474976710656) (hl : S.pcs.length + 2 ≤ 1073741824) (hr : S.runs.length + 1 ≤ 1073741824) :
    Inv (S.run u n) ∧ (S.run u n).total = S.total + (if S.may u n = true then n else 0) ∧ (S.run u n).pcs.length ≤ S.pcs.length + 2 ∧ (S.run u n).runs.length ≤ S.runs.length + 1 := by
  unfold SS.run
  by_cases hm : S.may u n = true
  · rw [if_pos hm, if_pos hm]
    obtain ⟨⟨a, b⟩, c, d, e, f⟩ := may_iff.1 hm
    have hnk : 1 ≤ u.k ∧ u.k ≤ 9007199254740991 := by simpa [numOk] using b
    have hnc : 1 ≤ u.c ∧ u.c ≤ 9007199254740991 := by simpa [numOk] using a
    obtain ⟨c1, c2, c3⟩ := h.cutI (S.placeFor u) (by omega)
    have hfr := Free.cutF h c (h.free c e) (S.placeFor u)
    have hpp := h.parP hu f
    have hpp' : SpP (S.cut (S.placeFor u)) (S.parentOf u).1 := by
      unfold SpP
      rw [cut_runs]
      exact hpp
    have hal : S.cutAt (S.placeFor u) < (S.cut (S.placeFor u)).pcs.length := Nat.lt_of_lt_of_le (h.atOk (S.placeFor u - 1)).1 (cut_pcs S _)
    have hss := hs hm
    show Inv (S.lay (S.placeFor u) u (S.parentOf u).1 n) ∧ (S.lay (S.placeFor u) u (S.parentOf u).1 n).total = _ ∧ (S.lay (S.placeFor u) u (S.parentOf u).1 n).pcs.length ≤ _ ∧ (S.lay (S.placeFor u) u (S.parentOf u).1 n).runs.length ≤ _
    unfold SS.lay
    by_cases he : (S.cut (S.placeFor u)).unit ((S.cut (S.placeFor u)).endOf (S.cutAt (S.placeFor u))) = u
    · rw [if_pos he]
      have hi0 : S.cutAt (S.placeFor u) ≠ 0 := fun e0 => by
        rw [e0] at he
        have e1 : (S.cut (S.placeFor u)).endOf 0 = .zero := by unfold SS.endOf; rw [c1.p0, c1.ordF.zero]; rfl
        rw [e1] at he
        have : ((S.cut (S.placeFor u)).unit .zero).c = (rn (S.cut (S.placeFor u)).runs 0).first.c := unitR_c _ _
        rw [he, c1.root] at this
        have : u.c = 0 := this
        omega
      obtain ⟨g1, g2⟩ := c1.growI hal hi0 c he (by omega) hfr (by rw [c2]; exact hss)
      refine ⟨g1, by rw [g2, c2], by show (S.cut (S.placeFor u)).pcs.length ≤ _; omega, ?_⟩
      show (S.cut (S.placeFor u)).runs.length ≤ _
      rw [cut_runs]; omega
    · rw [if_neg he]
      have hrl : (S.cut (S.placeFor u)).runs.length = S.runs.length := by rw [cut_runs]
      obtain ⟨g1, g2⟩ := c1.newI hal hu hnc hnk.1 hpp' c (by omega) hfr (by rw [c2]; exact hss) (by omega) (by omega)
      rw [hrl] at g1 g2
      refine ⟨g1, by rw [g2, c2], ?_, ?_⟩
      · show ((S.cut (S.placeFor u)).pcs ++ [_]).length ≤ _
        rw [List.length_append]
        show _ + 1 ≤ _
        omega
      · show ((S.cut (S.placeFor u)).runs ++ [_]).length ≤ _
        rw [List.length_append, cut_runs]
        exact Nat.le_refl _
  · rw [if_neg hm, if_neg hm]
    exact ⟨h, by omega, by omega, by omega⟩
end Go.Proofs.YtdnhoicfolkbnaaGreat
