/- Package seq: Run. -/
import Derived.Test.YtnbphdmpbjahhabSeqW4
import Derived.Test.YtnbphdmpbjahhabPart19
namespace Go.Proofs.Ytnbphdmpbjahhab
open Go.RowKit
set_option linter.unusedVariables false
set_option linter.unusedSimpArgs false
set_option maxRecDepth 100000

/-- Where a unit comes to. -/
def SS.placeFor (S : SS) (u : Un) : Int := S.placeOf u (S.parentOf u).1 (S.parentOf u).2 (S.between u).1 (S.between u).2.1
theorem may_iff {S : SS} {u : Un} {n : Int} : S.may u n = true ↔ (numOk u.c = true ∧ numOk u.k = true) ∧ 1 ≤ n ∧ n - 1 ≤ 9007199254740991 - u.k ∧ S.hasAny u.c u.k n = false ∧ (S.between u).2.2 = true := by
  unfold SS.may
  simp only [Bool.and_eq_true, decide_eq_true_eq, Bool.not_eq_true']
  constructor
  · rintro ⟨⟨⟨⟨⟨a, b⟩, c⟩, d⟩, e⟩, f⟩
    exact ⟨⟨a, b⟩, c, d, e, f⟩
  · rintro ⟨⟨a, b⟩, c, d, e, f⟩
    exact ⟨⟨⟨⟨⟨a, b⟩, c⟩, d⟩, e⟩, f⟩
theorem Inv.parP {S : SS} (h : Inv S) {u : Un} (hu : u.ok) (hb : (S.between u).2.2 = true) : SpP S (S.parentOf u).1 := by
  obtain ⟨b1, b2, b3, b4, b5, b6⟩ := h.betw hu hb
  have l1 := h.there hu.lc hu.lk.1 b1
  unfold SS.parentOf
  split
  · exact h.spotOfP l1.2.1 l1.2.2
  · split
    · have r1 := h.there hu.rc hu.rk.1 b2
      exact h.spotOfP r1.2.1 r1.2.2
    · exact h.spotOfP l1.2.1 l1.2.2
theorem Inv.placeLe {S : SS} (h : Inv S) {u : Un} (hu : u.ok) (hb : (S.between u).2.2 = true) : 0 ≤ S.placeFor u ∧ S.placeFor u ≤ S.total := by
  obtain ⟨b1, b2, b3, b4, b5, b6⟩ := h.betw hu hb
  have hr := h.rightOf_le hu
  unfold SS.placeFor SS.placeOf
  have := bis_le (p := fun i => S.placeP u (S.parentOf u).1 (S.parentOf u).2 ((S.between u).1 + (i : Int))) ((S.between u).2.1 - (S.between u).1).toNat 0 ((S.between u).2.1 - (S.between u).1).toNat (Nat.zero_le _)
  rw [b3, b4] at this ⊢
  omega
set_option maxHeartbeats 32000000 in
theorem run_any {w : World} {B : Bk} {S : SS} (h : SeqM w B S) (hI : Inv S) (u : Un) (hu : u.ok) (n : Int) (hn : -1152921504606846976 ≤ n ∧ n ≤ 1152921504606846976) (hC : S.may u n = true → Inv (S.cut (S.placeFor u)) ∧ (S.cut (S.placeFor u)).total + n ≤ 1152921504606846976) :
    Calls Try.prog 17 #[sP B, .agg #[u64 (u).c, u64 (u).k, u64 (u).lc, u64 (u).lk, u64 (u).rc, u64 (u).rk], iV n] w fun e w' => e = .returned (.bool (S.may u n)) ∧ Laid w w' B (S.run u n) := by
  obtain ⟨E, hE⟩ : ∃ E, Hid (E = w.alloc (unO u)) := ⟨_, Eq.refl _⟩
  have HTE : Hid (Touch (fun _ => False) w E) := by rw [hE.out]; exact (Touch.refl _ _).alloc _
  have HEB : Hid (E.heap[w.heap.size]? = some (unO u)) := by rw [hE.out]; exact heap_alloc_new _ _
  have HRi : Hid (∀ W, Calls Try.prog 32 #[.agg #[u64 u.c, u64 u.k]] W fun e w' => e = .returned (.bool (numOk u.c && numOk u.k)) ∧ Touch (fun _ => False) W w') := fun W => (right_any u.c u.k W).mono fun e w' q => ⟨q.1, by rw [q.2]; exact (Touch.refl _ _).alloc _⟩
  have hnk : numOk u.k = true → 1 ≤ u.k ∧ u.k ≤ 9007199254740991 := fun h => by simpa [numOk] using h
  have hnc : numOk u.c = true → 1 ≤ u.c ∧ u.c ≤ 9007199254740991 := fun h => by simpa [numOk] using h
  have HHa : Hid (numOk u.k = true → 1 ≤ n → n - 1 ≤ 9007199254740991 - u.k → ∀ W, Touch (fun _ => False) E W → Calls Try.prog 33 #[sP B, .agg #[u64 u.c, u64 u.k], iV n] W fun e w' => e = .returned (.bool (S.hasAny u.c u.k n)) ∧ Touch (fun _ => False) W w') := fun a b c W t => hasAny_any (h.keep0 (HTE.out.trans t)) hI u.c u.k n hu.c hu.k.1 b (by omega)
  have HBe : Hid (∀ W, Touch (fun _ => False) E W → Calls Try.prog 34 #[sP B, .agg #[u64 (u).c, u64 (u).k, u64 (u).lc, u64 (u).lk, u64 (u).rc, u64 (u).rk]] W fun e w' => e = .returned (.tuple #[iV (S.between u).1, iV (S.between u).2.1, .bool (S.between u).2.2]) ∧ Touch (fun _ => False) W w') := fun W t => between_any (h.keep0 (HTE.out.trans t)) hI u hu
  have HPa : Hid ((S.between u).2.2 = true → ∀ W, Touch (fun _ => False) E W → Calls Try.prog 35 #[sP B, .agg #[u64 (u).c, u64 (u).k, u64 (u).lc, u64 (u).lk, u64 (u).rc, u64 (u).rk]] W fun e w' => e = .returned (.tuple #[.agg #[iV (((S.parentOf u).1).run : Int), u64 ((S.parentOf u).1).pos], .bool (S.parentOf u).2]) ∧ Touch (fun _ => False) W w') := fun hb W t => by
    obtain ⟨b1, b2, b3, b4, b5, b6⟩ := hI.betw hu hb
    have l1 := hI.there hu.lc hu.lk.1 b1
    exact parentOf_any (h.keep0 (HTE.out.trans t)) hI u hu ⟨l1.2.1, l1.2.2⟩ fun hz => by
      have r1 := hI.there hu.rc hu.rk.1 b2
      exact ⟨r1.2.1, r1.2.2⟩
  have HPl : Hid ((S.between u).2.2 = true → ∀ W, Touch (fun _ => False) E W → Calls Try.prog 37 #[sP B, .agg #[u64 (u).c, u64 (u).k, u64 (u).lc, u64 (u).lk, u64 (u).rc, u64 (u).rk], .agg #[iV (((S.parentOf u).1).run : Int), u64 ((S.parentOf u).1).pos], .bool (S.parentOf u).2, iV (S.between u).1, iV (S.between u).2.1] W fun e w' => e = .returned (iV (S.placeFor u)) ∧ Touch (fun _ => False) W w') := fun hb W t => by
    obtain ⟨b1, b2, b3, b4, b5, b6⟩ := hI.betw hu hb
    refine placeOf_any (h.keep0 (HTE.out.trans t)) hI u hu _ (hI.parP hu hb) _ _ _ ?_ ?_ ?_
    · rw [b3]; exact b6
    · rw [b3, b4]; exact b5
    · rw [b4]; exact hI.rightOf_le hu
  have HLa : Hid (S.may u n = true → ∀ W, Touch (fun _ => False) E W → Calls Try.prog 36 #[sP B, iV (S.placeFor u), .agg #[u64 (u).c, u64 (u).k, u64 (u).lc, u64 (u).lk, u64 (u).rc, u64 (u).rk], .agg #[iV (((S.parentOf u).1).run : Int), u64 ((S.parentOf u).1).pos], iV n] W fun e w' => e = .returned (.tuple #[]) ∧ Laid W w' B (S.run u n)) := fun hm W t => by
    have hm' := may_iff.1 hm
    have e : S.run u n = S.lay (S.placeFor u) u (S.parentOf u).1 n := by unfold SS.run; rw [if_pos hm]; rfl
    rw [e]
    have hb := hm'.2.2.2.2
    exact lay_any (h.keep0 (HTE.out.trans t)) hI _ (hC hm).1 (hI.placeLe hu hb) u hu (hnc hm'.1.1).1 _ (hI.parP hu hb).1 n ⟨by have := hm'.2.1; omega, by have := hm'.2.2.1; have := (hnk hm'.1.2).1; omega⟩ (hC hm).2
  have HNo : Hid (S.may u n = false → ∀ W, Touch (fun _ => False) w W → Laid w W B (S.run u n)) := fun hm W t => by
    have e : S.run u n = S := by unfold SS.run; rw [if_neg (by rw [hm]; simp)]
    rw [e]
    exact h.laid.more t
  have HMay : Hid (S.may u n = ((numOk u.c && numOk u.k) && decide (1 ≤ n) && decide (n - 1 ≤ 9007199254740991 - u.k) && !S.hasAny u.c u.k n && (S.between u).2.2)) := Eq.refl _
  have HBox : Hid (∀ k, w.heap.size ≤ k → ¬ B.has k) := fun k hk e => by have := h.lt e; omega
  have Hnk : Hid (numOk u.k = true → 1 ≤ u.k ∧ u.k ≤ 9007199254740991) := hnk
  have HMi : Hid (S.may u n = true ↔ _) := may_iff
  obtain ⟨sr, hsr⟩ : ∃ x, Hid (x = S.run u n) := ⟨_, Eq.refl _⟩
  rw [← hsr.out] at HLa HNo ⊢
  generalize S.may u n = may at *
  generalize S.placeFor u = pf at *
  generalize S.parentOf u = po at *
  generalize S.between u = bt at *
  generalize S.hasAny u.c u.k n = ha at *
  obtain ⟨⟨pr, pp⟩, left⟩ := po
  obtain ⟨lo, hi, bb⟩ := bt
  obtain ⟨uc, uk, ulc, ulk, urc, urk⟩ := u
  simp only at hE HEB HRi HHa HBe HPa HPl HLa HMay Hnk ⊢
  have HC6 : Hid (∀ W : World, W.heap[w.heap.size]? = some (unO ⟨uc, uk, ulc, ulk, urc, urk⟩) → W.cell? ⟨w.heap.size, 0, none⟩ = some (u64 uc) ∧ W.cell? ⟨w.heap.size, 1, none⟩ = some (u64 uk) ∧ W.cell? ⟨w.heap.size, 2, none⟩ = some (u64 ulc) ∧ W.cell? ⟨w.heap.size, 3, none⟩ = some (u64 ulk) ∧ W.cell? ⟨w.heap.size, 4, none⟩ = some (u64 urc) ∧ W.cell? ⟨w.heap.size, 5, none⟩ = some (u64 urk)) := fun W h => unO_cells h
  generalize numOk uc = nc at *
  obtain ⟨nk, hnkk⟩ : ∃ b, b = numOk uk := ⟨_, rfl⟩
  rw [← hnkk] at HRi HHa HMay Hnk
  have hukr := hu.k
  simp only at hukr
  clear h hI hu hC hnk hnc hsr HMi hnkk
  obtain ⟨a0, a1, a2, a3, a4, a5⟩ := HC6.out E HEB.out
  go_enter Try.func17, Try.ntmps17
  go_upto_region 1 with fail
  rw [← hE.out]
  clear hE
  obtain ⟨m, hm⟩ : ∃ m, Hid (m = w.heap.size) := ⟨_, Eq.refl _⟩
  rw [← hm.out] at HEB HC6 a0 a1 a2 a3 a4 a5 ⊢
  by_cases hr : (nc && nk) = true
  · rw [hr] at HRi HMay
    have hnk1 : nk = true := by simp only [Bool.and_eq_true] at hr; exact hr.2
    have huk := Hnk.out hnk1
    have HHb : Hid (1 ≤ n → n - 1 ≤ 9007199254740991 - uk → ∀ W, Touch (fun _ => False) E W → Calls Try.prog 33 #[sP B, .agg #[u64 uc, u64 uk], iV n] W fun e w' => e = .returned (.bool ha) ∧ Touch (fun _ => False) W w') := HHa.out hnk1
    clear hr hnk1 HHa
    have HK : Hid (∀ W, Touch (fun _ => False) E W → W.cell? ⟨m, 0, none⟩ = some (u64 uc) ∧ W.cell? ⟨m, 1, none⟩ = some (u64 uk) ∧ W.cell? ⟨m, 2, none⟩ = some (u64 ulc) ∧ W.cell? ⟨m, 3, none⟩ = some (u64 ulk) ∧ W.cell? ⟨m, 4, none⟩ = some (u64 urc) ∧ W.cell? ⟨m, 5, none⟩ = some (u64 urk)) := fun W t => HC6.out W (heap_keep t HEB.out)
    by_cases h1 : n < 1
    · have HX : Hid (may = false) := by rw [HMay.out, show decide (1 ≤ n) = false from by simp; omega]; exact Eq.refl _
      clear HMay HHb huk
      go_wp2_with fail
      refine (HRi.out _).mono ?_
      rintro e W1 ⟨rfl, t1⟩
      have HT : Hid (Touch (fun _ => False) w W1) := HTE.out.trans t1
      clear t1
      go_wp2_with fail
      go_ret
      exact ⟨congrArg (fun x => Ending.returned (.bool x)) HX.out.symm, HNo.out HX.out _ HT.out⟩
    · have e2 : IntKind.i64.wrap (n - 1) = n - 1 := by rw [IntKind.wrap_i64]; omega
      have e3 : IntKind.u64.wrap (n - 1) = n - 1 := by rw [IntKind.wrap_u64]; omega
      have e4 : IntKind.u64.wrap (9007199254740991 - uk) = 9007199254740991 - uk := by rw [IntKind.wrap_u64]; omega
      by_cases h2 : 9007199254740991 - uk < n - 1
      · have hx : may = false := by rw [HMay.out, show decide (n - 1 ≤ 9007199254740991 - uk) = false from by simp; omega]; simp only [Bool.and_false, Bool.false_and]
        have HX : Hid (may = false) := hx
        clear hx
        clear HMay HHb huk
        go_wp2_with fail
        refine (HRi.out _).mono ?_
        rintro e W1 ⟨rfl, t1⟩
        have HT1 : Hid (Touch (fun _ => False) E W1) := t1
        clear t1
        clear a0 a1 a2 a3 a4 a5
        obtain ⟨a0, a1, a2, a3, a4, a5⟩ := HK.out W1 HT1.out
        go_wp2_with fail
        go_ret
        exact ⟨congrArg (fun x => Ending.returned (.bool x)) HX.out.symm, HNo.out HX.out _ (HTE.out.trans HT1.out)⟩
      · have HH2 : Hid (∀ W, Touch (fun _ => False) E W → Calls Try.prog 33 #[sP B, .agg #[u64 uc, u64 uk], iV n] W fun e w' => e = .returned (.bool ha) ∧ Touch (fun _ => False) W w') := HHb.out (by omega) (by omega)
        have hx : may = (!ha && bb) := by
          rw [HMay.out, show decide (1 ≤ n) = true from by simp; omega, show decide (n - 1 ≤ 9007199254740991 - uk) = true from by simp; omega]
          simp only [Bool.true_and, Bool.and_true]
        have HM2 : Hid (may = (!ha && bb)) := hx
        clear hx
        clear HMay HHb huk
        go_wp2_with fail
        refine (HRi.out _).mono ?_
        rintro e W1 ⟨rfl, t1⟩
        have HT1 : Hid (Touch (fun _ => False) E W1) := t1
        clear t1 HRi
        clear a0 a1 a2 a3 a4 a5
        obtain ⟨a0, a1, a2, a3, a4, a5⟩ := HK.out W1 HT1.out
        go_wp2_with fail
        refine (HH2.out _ HT1.out).mono ?_
        rintro e W2 ⟨rfl, t2⟩
        have HT2 : Hid (Touch (fun _ => False) E W2) := HT1.out.trans t2
        clear t2 HH2
        clear a0 a1 a2 a3 a4 a5
        obtain ⟨a0, a1, a2, a3, a4, a5⟩ := HK.out W2 HT2.out
        cases ha
        · go_wp2_with fail
          refine (HBe.out _ HT2.out).mono ?_
          rintro e W3 ⟨rfl, t3⟩
          have HT3 : Hid (Touch (fun _ => False) E W3) := HT2.out.trans t3
          clear t3 HBe
          clear a0 a1 a2 a3 a4 a5
          obtain ⟨a0, a1, a2, a3, a4, a5⟩ := HK.out W3 HT3.out
          cases bb
          · have HX : Hid (may = false) := HM2.out
            go_wp2_with fail
            go_ret
            exact ⟨congrArg (fun x => Ending.returned (.bool x)) HX.out.symm, HNo.out HX.out _ (HTE.out.trans HT3.out)⟩
          · have HX : Hid (may = true) := HM2.out
            have HPa2 : Hid (∀ W, Touch (fun _ => False) E W → Calls Try.prog 35 #[sP B, .agg #[u64 uc, u64 uk, u64 ulc, u64 ulk, u64 urc, u64 urk]] W fun e w' => e = .returned (.tuple #[.agg #[iV (pr : Int), u64 pp], .bool left]) ∧ Touch (fun _ => False) W w') := HPa.out rfl
            have HPl2 : Hid (∀ W, Touch (fun _ => False) E W → Calls Try.prog 37 #[sP B, .agg #[u64 uc, u64 uk, u64 ulc, u64 ulk, u64 urc, u64 urk], .agg #[iV (pr : Int), u64 pp], .bool left, iV lo, iV hi] W fun e w' => e = .returned (iV pf) ∧ Touch (fun _ => False) W w') := HPl.out rfl
            have HLa2 : Hid (∀ W, Touch (fun _ => False) E W → Calls Try.prog 36 #[sP B, iV pf, .agg #[u64 uc, u64 uk, u64 ulc, u64 ulk, u64 urc, u64 urk], .agg #[iV (pr : Int), u64 pp], iV n] W fun e w' => e = .returned (.tuple #[]) ∧ Laid W w' B sr) := HLa.out HX.out
            clear HPa HPl HLa HNo
            go_wp2_with fail
            refine (HPa2.out _ HT3.out).mono ?_
            rintro e W4 ⟨rfl, t4⟩
            obtain ⟨W5, hW5⟩ : ∃ W, Hid (W = W4.alloc (.cells #[iV (pr : Int), u64 pp] 47)) := ⟨_, Eq.refl _⟩
            have H5 : Hid (Touch (fun _ => False) E W5 ∧ W5.heap[W4.heap.size]? = some (spO ⟨pr, pp⟩) ∧ w.heap.size ≤ W4.heap.size) := by
              rw [hW5.out]
              exact ⟨(HT3.out.trans t4).alloc _, heap_alloc_new _ _, Nat.le_trans HTE.out.size (HT3.out.trans t4).size⟩
            clear t4 HPa2 a0 a1 a2 a3 a4 a5
            go_upto_region 7 with fail
            rw [← hW5.out]
            clear hW5
            obtain ⟨q, hq⟩ : ∃ m, Hid (m = W4.heap.size) := ⟨_, Eq.refl _⟩
            rw [← hq.out] at H5 ⊢
            have HS : Hid (∀ W, Touch (fun _ => False) W5 W → (W.cell? ⟨m, 0, none⟩ = some (u64 uc) ∧ W.cell? ⟨m, 1, none⟩ = some (u64 uk) ∧ W.cell? ⟨m, 2, none⟩ = some (u64 ulc) ∧ W.cell? ⟨m, 3, none⟩ = some (u64 ulk) ∧ W.cell? ⟨m, 4, none⟩ = some (u64 urc) ∧ W.cell? ⟨m, 5, none⟩ = some (u64 urk)) ∧ W.cell? ⟨q, 0, none⟩ = some (iV (pr : Int)) ∧ W.cell? ⟨q, 1, none⟩ = some (u64 pp)) := fun W t => by
              have b := spO_cells (heap_keep t H5.out.2.1)
              exact ⟨HK.out W (H5.out.1.trans t), b.1, b.2.1⟩
            have HS2 : Hid (∀ W W', Touch (fun _ => False) W5 W → Touch B.has W W' → (W'.cell? ⟨m, 0, none⟩ = some (u64 uc) ∧ W'.cell? ⟨m, 1, none⟩ = some (u64 uk) ∧ W'.cell? ⟨m, 2, none⟩ = some (u64 ulc) ∧ W'.cell? ⟨m, 3, none⟩ = some (u64 ulk) ∧ W'.cell? ⟨m, 4, none⟩ = some (u64 urc) ∧ W'.cell? ⟨m, 5, none⟩ = some (u64 urk)) ∧ W'.cell? ⟨q, 0, none⟩ = some (iV (pr : Int)) ∧ W'.cell? ⟨q, 1, none⟩ = some (u64 pp)) := fun W W' t t' => by
              have hu := heap_keep (H5.out.1.trans t) HEB.out
              have hs := heap_keep t H5.out.2.1
              have hmm : w.heap.size ≤ m := by rw [hm.out]; exact Nat.le_refl _
              have b := spO_cells ((t'.block q (lt_of_heap hs) (HBox.out q H5.out.2.2)).trans hs)
              exact ⟨HC6.out W' ((t'.block m (lt_of_heap hu) (HBox.out m hmm)).trans hu), b.1, b.2.1⟩
            have s0 := HS.out _ (Touch.refl _ W5).drew
            go_region_held3 (fun W => (W.cell? ⟨m, 0, none⟩ = some (u64 uc) ∧ W.cell? ⟨m, 1, none⟩ = some (u64 uk) ∧ W.cell? ⟨m, 2, none⟩ = some (u64 ulc) ∧ W.cell? ⟨m, 3, none⟩ = some (u64 ulk) ∧ W.cell? ⟨m, 4, none⟩ = some (u64 urc) ∧ W.cell? ⟨m, 5, none⟩ = some (u64 urk)) ∧ W.cell? ⟨q, 0, none⟩ = some (iV (pr : Int)) ∧ W.cell? ⟨q, 1, none⟩ = some (u64 pp)) (first | assumption)
              (first
                | (go_at_call 37; (with_reducible refine (HPl2.out _ (H5.out.1.trans (Touch.refl _ W5).drew)).mono ?_); rintro e W6 ⟨rfl, t6⟩; have HT6 : Hid (Touch (fun _ => False) W5 W6) := (Touch.refl _ W5).drew.trans t6; have s6 := HS.out W6 HT6.out; clear t6)
                | (go_at_call 36; (with_reducible refine (HLa2.out _ (H5.out.1.trans HT6.out)).mono ?_); rintro e W7 ⟨rfl, l7⟩; have HF : Hid (Laid w W7 B sr) := l7.after0 (HTE.out.trans (H5.out.1.trans HT6.out)); obtain ⟨B7, m7, b7, f7, t7⟩ := l7; have s7 := HS2.out W6 W7 HT6.out t7; clear m7 b7 f7 t7))
            all_goals (try go_wp2_with fail)
            all_goals go_ret
            all_goals exact ⟨congrArg (fun x => Ending.returned (.bool x)) HX.out.symm, HF.out⟩
        · have HX : Hid (may = false) := HM2.out
          go_wp2_with fail
          go_ret
          exact ⟨congrArg (fun x => Ending.returned (.bool x)) HX.out.symm, HNo.out HX.out _ (HTE.out.trans HT2.out)⟩
  · have hr' : (nc && nk) = false := by simpa using hr
    rw [hr'] at HRi HMay
    have HX : Hid (may = false) := HMay.out
    clear hr hr' HMay
    go_wp2_with fail
    refine (HRi.out _).mono ?_
    rintro e W1 ⟨rfl, t1⟩
    have HT : Hid (Touch (fun _ => False) w W1) := HTE.out.trans t1
    clear t1
    go_wp2_with fail
    go_ret
    exact ⟨congrArg (fun x => Ending.returned (.bool x)) HX.out.symm, HNo.out HX.out _ HT.out⟩
end Go.Proofs.Ytnbphdmpbjahhab
