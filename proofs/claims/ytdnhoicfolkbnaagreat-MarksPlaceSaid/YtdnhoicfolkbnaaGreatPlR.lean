/- quireref9.Run: the document's run. -/
import Derived.Test.YtdnhoicfolkbnaaGreatPart31
import Derived.Test.YtdnhoicfolkbnaaGreatTrW
import Derived.Deep.CutBlock
namespace Go.Proofs.YtdnhoicfolkbnaaGreat
open Go.RowKit
set_option linter.unusedVariables false
set_option linter.unusedSimpArgs false
set_option maxRecDepth 100000

theorem inserts_snoc (r : RS) (us : List Un) (u : Un) : r.inserts (us ++ [u]) = (r.inserts us).insert u := by unfold RS.inserts; rw [List.foldl_append]; rfl
theorem inserts_inv {r : RS} (h : RInv r) : ∀ us : List Un, RInv (r.inserts us) ∧ (r.inserts us).l.length ≤ r.l.length + us.length := by
  intro us
  induction us generalizing r with
  | nil => exact ⟨h, Nat.le_refl _⟩
  | cons u us ih =>
    obtain ⟨a, b⟩ := ih (h.insert u)
    refine ⟨a, Nat.le_trans b ?_⟩
    have := RS.insert_len r u
    simp only [List.length_cons]
    omega
theorem numOk_k {k : Int} (h : numOk k = true) : 1 ≤ k ∧ k ≤ 9007199254740991 := by simpa [numOk] using h
theorem mayN_n {r : RS} {u : Un} {n : Int} (h : ¬ 1 ≤ n) : r.mayN u n = false := by unfold RS.mayN; simp [h]
theorem mayN_id {r : RS} {u : Un} {n : Int} (h : (numOk u.c && numOk u.k) = false) : r.mayN u n = false := by
  unfold RS.mayN
  cases h1 : numOk u.c <;> cases h2 : numOk u.k <;> simp_all
theorem mayN_k {r : RS} {u : Un} {n : Int} (h : ¬ n - 1 ≤ 9007199254740991 - u.k) : r.mayN u n = false := by unfold RS.mayN; simp [h]
theorem mayN_free {r : RS} {u : Un} {n j : Nat} (hj : j < n) (h : 0 ≤ r.find u.c (u.k + (j : Int))) : r.mayN u n = false := by
  cases e : r.mayN u n with
  | false => rfl
  | true =>
    unfold RS.mayN at e
    simp only [Bool.and_eq_true, Int.toNat_natCast] at e
    have := (RS.free_iff _ _ _ _).1 e.1.2 j hj
    omega
theorem mayN_rest {r : RS} {u : Un} {n : Nat} (h1 : 1 ≤ n) (h2 : (numOk u.c && numOk u.k) = true) (h3 : (n : Int) - 1 ≤ 9007199254740991 - u.k) (h4 : ∀ j : Nat, j < n → r.find u.c (u.k + (j : Int)) < 0) : r.mayN u n = r.may u := by
  have hf : r.free u.c u.k n = true := (RS.free_iff _ _ _ _).2 fun j hj => by
    have := h4 j hj
    have hb := RS.find_lt (r := r) u.c (u.k + (j : Int))
    omega
  simp only [Bool.and_eq_true] at h2
  unfold RS.mayN
  rw [Int.toNat_natCast, hf, h2.1, h2.2, decide_eq_true (show (1 : Int) ≤ (n : Int) by omega), decide_eq_true h3]
  simp
/-- What a run that is done leaves. -/
def PlQ (w : World) (b : Nat) (u : Un) (r : RS) (W : World) (j : Nat) : Prop := RqAt W b (r.inserts (runUns u j)) ∧ W.heap[w.heap.size]? = some (unO (runUn u (j - 1))) ∧ Touch (fun x => x = b) w W
set_option maxHeartbeats 16000000 in
theorem qrun_any {w : World} {b : Nat} {r : RS} (h : RqAt w b r) (hI : RInv r) (u : Un) (hu : u.ok) (n : Int) (hn : -9223372036854775808 ≤ n ∧ n ≤ 20) (hl : r.l.length ≤ 900000) :
    Calls Tryz.prog 33 #[qP b, .agg #[.int .u64 u.c, .int .u64 u.k, .int .u64 u.lc, .int .u64 u.lk, .int .u64 u.rc, .int .u64 u.rk], .int .i64 n] w fun e w' => e = .returned (.bool (r.mayN u n)) ∧ RqAt w' b (r.runN u n) ∧ Touch (fun x => x = b) w w' := by
  have hbl : b < w.heap.size := by obtain ⟨c, hc⟩ := h.blk; exact lt_of_heap hc
  obtain ⟨E, hE⟩ : ∃ E, Hid (E = w.alloc (unO u)) := ⟨_, Eq.refl _⟩
  have HTE : Hid (Touch (fun _ => False) w E) := by rw [hE.out]; exact (Touch.refl _ _).alloc _
  have HEB : Hid (E.heap[w.heap.size]? = some (unO u)) := by rw [hE.out]; exact heap_alloc_new _ _
  have HNo : Hid (r.mayN u n = false → ∀ W, Touch (fun _ => False) E W → RqAt W b (r.runN u n) ∧ Touch (fun x => x = b) w W) := fun hm W t => by
    unfold RS.runN
    rw [hm, if_neg (by simp)]
    exact ⟨h.keep (HTE.out.trans t), (HTE.out.trans t).mono fun _ _ q => q.elim⟩
  have HC : Hid (∀ W, Touch (fun _ => False) E W → W.cell? ⟨w.heap.size, 0, none⟩ = some (.int .u64 u.c) ∧ W.cell? ⟨w.heap.size, 1, none⟩ = some (.int .u64 u.k) ∧ W.cell? ⟨w.heap.size, 2, none⟩ = some (.int .u64 u.lc) ∧ W.cell? ⟨w.heap.size, 3, none⟩ = some (.int .u64 u.lk) ∧ W.cell? ⟨w.heap.size, 4, none⟩ = some (.int .u64 u.rc) ∧ W.cell? ⟨w.heap.size, 5, none⟩ = some (.int .u64 u.rk)) := fun W t => unO_cells (heap_keep t HEB.out)
  have HR : Hid (∀ W, Calls Tryz.prog 59 #[.agg #[.int .u64 u.c, .int .u64 u.k]] W fun e w' => e = .returned (.bool (numOk u.c && numOk u.k)) ∧ Touch (fun _ => False) W w') := fun W => (rRight_any u.c u.k W).mono (by rintro e w2 ⟨rfl, rfl⟩; exact ⟨rfl, (Touch.refl _ _).alloc _⟩)
  have HF : Hid (∀ W (k : Int), Touch (fun _ => False) E W → Calls Tryz.prog 60 #[qP b, .agg #[.int .u64 u.c, .int .u64 k]] W fun e w' => e = .returned (iV (r.find u.c k)) ∧ Touch (fun _ => False) W w') := fun W k t => qfind_any (h.keep (HTE.out.trans t)) _ _ (by omega)
  have HIn : Hid (∀ W j, RqAt W b (r.inserts (runUns u j)) → Touch (fun y => y = b) w W → j ≤ 20 → ∀ x, W.heap[w.heap.size]? = some (unO x) → Calls Tryz.prog 34 #[qP b, .agg #[.int .u64 x.c, .int .u64 x.k, .int .u64 x.lc, .int .u64 x.lk, .int .u64 x.rc, .int .u64 x.rk]] W fun e w' => e = .returned (.bool ((r.inserts (runUns u j)).may x)) ∧ RqAt w' b ((r.inserts (runUns u j)).insert x) ∧ w'.heap[w.heap.size]? = some (unO x) ∧ Touch (fun y => y = b) w w') := fun W j q t hj x hx => by
    obtain ⟨i1, i2⟩ := inserts_inv hI (runUns u j)
    rw [runUns_len] at i2
    refine (qinsert_any q i1 x (by omega)).mono ?_
    rintro e w' ⟨rfl, q1, q2⟩
    exact ⟨rfl, q1, (q2.block _ (lt_of_heap hx) (by omega)).trans hx, t.trans q2⟩
  have HH : Hid (RqAt w b r) := h
  have HSet : Hid (∀ W i, 1 ≤ i → PlQ w b u r W i → ∀ X, X = ((W.setCell ⟨w.heap.size, 2, none⟩ (.int .u64 u.c)).setCell ⟨w.heap.size, 3, none⟩ (.int .u64 (u.k + (i : Int) - 1))).setCell ⟨w.heap.size, 1, none⟩ (.int .u64 (u.k + (i : Int))) → RqAt X b (r.inserts (runUns u i)) ∧ X.heap[w.heap.size]? = some (unO (runUn u i)) ∧ Touch (fun y => y = b) w X) := fun W i hi q X hX => by
    have tX : Touch (fun y => y = w.heap.size) W X := by
      rw [hX]
      exact (((Touch.refl (fun y => y = w.heap.size) W).setCell ⟨w.heap.size, 2, none⟩ _ fun _ => rfl).setCell ⟨w.heap.size, 3, none⟩ _ fun _ => rfl).setCell ⟨w.heap.size, 1, none⟩ _ fun _ => rfl
    refine ⟨q.1.keepV tX fun k c ty fr hk e => ?_, ?_, q.2.2.then tX fun k hk e => absurd hk (by omega)⟩
    · rw [e, q.2.1] at hk
      simp at hk
      exact hk.2.1.symm
    · rw [hX]
      have e1 := heap_setCell_same W w.heap.size 2 (.int .u64 u.c) q.2.1
      have e2 := heap_setCell_same _ w.heap.size 3 (.int .u64 (u.k + (i : Int) - 1)) e1
      have e3 := heap_setCell_same _ w.heap.size 1 (.int .u64 (u.k + (i : Int))) e2
      rw [e3]
      obtain ⟨r1, r2, r3, r4⟩ := runUn_c u (i - 1)
      have : runUn u i = ⟨u.c, u.k + (i : Int), u.c, u.k + (i : Int) - 1, u.rc, u.rk⟩ := by unfold runUn; rw [if_neg (by omega)]
      rw [this]
      simp [r1, r2, r3, r4]
  clear h hI hl hbl
  obtain ⟨uc, uk, ulc, ulk, urc, urk⟩ := u
  have huk : 0 ≤ uk ∧ uk < 18446744073709551616 := hu.k
  clear hu
  by_cases hn1 : 1 ≤ n
  rotate_left
  · have l0 : n < 1 := by omega
    have HM : Hid (r.mayN ⟨uc, uk, ulc, ulk, urc, urk⟩ n = false) := mayN_n hn1
    clear hn1
    go_enter Tryz.func33, Tryz.ntmps33
    go_wp2_with fail
    go_ret
    rw [← hE.out]
    exact ⟨by rw [HM.out]; rfl, HNo.out HM.out _ (Touch.refl _ _)⟩
  obtain ⟨m, rfl⟩ := Int.eq_ofNat_of_zero_le (show 0 ≤ n by omega)
  have hm1 : 1 ≤ m := by omega
  have l0 : ¬ (m : Int) < 1 := by omega
  have e1 : IntKind.u64.wrap (m : Int) = (m : Int) := by rw [IntKind.wrap_u64]; omega
  have e2 : IntKind.u64.wrap ((m : Int) - 1) = (m : Int) - 1 := by rw [IntKind.wrap_u64]; omega
  obtain ⟨c0, c1, c2, c3, c4, c5⟩ := HC.out E (Touch.refl _ _)
  simp only at c0 c1 c2 c3 c4 c5 HR HF HC
  go_enter Tryz.func33, Tryz.ntmps33
  go_upto_region 1 with fail
  rw [← hE.out]
  clear hE
  cases hrt : (numOk uc && numOk uk) with
  | false =>
    have HM : Hid (r.mayN ⟨uc, uk, ulc, ulk, urc, urk⟩ m = false) := mayN_id hrt
    rw [hrt] at HR
    clear hrt
    go_wp2_with fail
    refine (HR.out _).mono ?_
    rintro e W1 ⟨rfl, t1⟩
    have HT1 : Hid (Touch (fun _ => False) E W1) := t1
    clear t1 HR
    go_wp2_with fail
    go_ret
    exact ⟨by rw [HM.out]; rfl, HNo.out HM.out _ HT1.out⟩
  | true =>
    have hnk := numOk_k (show numOk uk = true by cases h1 : numOk uc <;> simp_all)
    rw [hrt] at HR
    have e3 : IntKind.u64.wrap (9007199254740991 - uk) = 9007199254740991 - uk := by rw [IntKind.wrap_u64]; omega
    by_cases hk : (m : Int) - 1 ≤ 9007199254740991 - uk
    rotate_left
    · have HM : Hid (r.mayN ⟨uc, uk, ulc, ulk, urc, urk⟩ m = false) := mayN_k hk
      have l1 : 9007199254740991 - uk < (m : Int) - 1 := by omega
      have HCE := HC.out
      clear hrt hk
      go_wp2_with fail
      refine (HR.out _).mono ?_
      rintro e W1 ⟨rfl, t1⟩
      have HT1 : Hid (Touch (fun _ => False) E W1) := t1
      obtain ⟨-, d1, -, -, -, -⟩ := HC.out W1 t1
      clear t1 HR HCE c0 c1 c2 c3 c4 c5
      go_wp2_with fail
      go_ret
      exact ⟨by rw [HM.out]; rfl, HNo.out HM.out _ HT1.out⟩
    · have l1 : ¬ (9007199254740991 - uk < (m : Int) - 1) := by omega
      have HRest : Hid ((∀ j : Nat, j < m → r.find uc (uk + (j : Int)) < 0) → r.mayN ⟨uc, uk, ulc, ulk, urc, urk⟩ m = r.may ⟨uc, uk, ulc, ulk, urc, urk⟩) := fun h4 => mayN_rest (u := ⟨uc, uk, ulc, ulk, urc, urk⟩) hm1 hrt hk h4
      have HFree : Hid (∀ j : Nat, j < m → 0 ≤ r.find uc (uk + (j : Int)) → r.mayN ⟨uc, uk, ulc, ulk, urc, urk⟩ m = false) := fun j hj h => mayN_free (u := ⟨uc, uk, ulc, ulk, urc, urk⟩) hj h
      clear hrt
      go_wp2_with fail
      refine (HR.out _).mono ?_
      rintro e W1 ⟨rfl, t1⟩
      have HT1 : Hid (Touch (fun _ => False) E W1) := t1
      obtain ⟨-, d1, -, -, -, -⟩ := HC.out W1 t1
      clear t1 HR c0 c1 c2 c3 c4 c5
      go_wp2_with fail
      go_loopw [7] (fun s7 wr => ∃ i : Nat, s7 = .int .i64 (i : Int) ∧ i ≤ m ∧ Hid ((∀ j : Nat, j < i → r.find uc (uk + (j : Int)) < 0) ∧ Touch (fun _ => False) E wr)) (fun s7 _ => (m - intOf s7).toNat)
      case atStart => exact ⟨0, rfl, Nat.zero_le _, fun j hj => absurd hj (Nat.not_lt_zero _), HT1.out⟩
      case round =>
        obtain ⟨i, rfl, him, HJ⟩ := hrel
        clear HT1 d1
        obtain ⟨c0, c1, c2, c3, c4, c5⟩ := HC.out wr HJ.out.2
        by_cases hil : i < m
        · have l2 : (i : Int) < (m : Int) := by omega
          have e4 : IntKind.u64.wrap (i : Int) = (i : Int) := by rw [IntKind.wrap_u64]; omega
          have e5 : IntKind.u64.wrap (uk + (i : Int)) = uk + (i : Int) := by rw [IntKind.wrap_u64]; omega
          have e6 : IntKind.i64.wrap ((i : Int) + 1) = (i : Int) + 1 := by rw [IntKind.wrap_i64]; omega
          have HFi : Hid (Calls Tryz.prog 60 #[qP b, .agg #[.int .u64 uc, .int .u64 (uk + (i : Int))]] wr fun e w' => e = .returned (iV (r.find uc (uk + (i : Int)))) ∧ Touch (fun _ => False) wr w') := HF.out wr (uk + (i : Int)) HJ.out.2
          have HFi2 : Hid (0 ≤ r.find uc (uk + (i : Int)) → r.mayN ⟨uc, uk, ulc, ulk, urc, urk⟩ m = false) := HFree.out i hil
          have HJ2 : Hid (r.find uc (uk + (i : Int)) < 0 → ∀ j : Nat, j < i + 1 → r.find uc (uk + (j : Int)) < 0) := fun h j hj => by
            by_cases e : j = i
            · rw [e]; exact h
            · exact HJ.out.1 j (by omega)
          generalize r.find uc (uk + (i : Int)) = fi at *
          by_cases hfi : 0 ≤ fi
          · have HM := HFi2.out hfi
            have HM2 : Hid (r.mayN ⟨uc, uk, ulc, ulk, urc, urk⟩ m = false) := HM
            clear HM HFi2 HJ2 HRest HFree HSet HIn HF HC
            go_wp2_with fail
            refine HFi.out.mono ?_
            rintro e W2 ⟨rfl, t2⟩
            have HT2 : Hid (Touch (fun _ => False) E W2) := HJ.out.2.trans t2
            clear t2 HFi
            go_wp2_with fail
            go_ret
            exact ⟨by rw [HM2.out]; rfl, HNo.out HM2.out _ HT2.out⟩
          · clear HFi2 HRest HFree HSet HIn HF HC
            go_wp2_with fail
            refine HFi.out.mono ?_
            rintro e W2 ⟨rfl, t2⟩
            have HT2 : Hid (Touch (fun _ => False) E W2) := HJ.out.2.trans t2
            clear t2 HFi
            go_wp2_with fail
            exact ⟨⟨i + 1, by go_num, by omega, HJ2.out (by omega), HT2.out⟩, by simp [intOf]; omega⟩
        · have him2 : i = m := by omega
          subst him2
          have l2 : ¬ (i : Int) < (i : Int) := by omega
          have HMay := HRest.out HJ.out.1
          have HTw : Hid (Touch (fun y => y = b) w wr) := (HTE.out.trans HJ.out.2).mono fun _ _ q => q.elim
          have HI0 : Hid (Calls Tryz.prog 34 #[qP b, .agg #[.int .u64 uc, .int .u64 uk, .int .u64 ulc, .int .u64 ulk, .int .u64 urc, .int .u64 urk]] wr fun e w' => e = .returned (.bool (r.may ⟨uc, uk, ulc, ulk, urc, urk⟩)) ∧ RqAt w' b (r.insert ⟨uc, uk, ulc, ulk, urc, urk⟩) ∧ w'.heap[w.heap.size]? = some (unO ⟨uc, uk, ulc, ulk, urc, urk⟩) ∧ Touch (fun y => y = b) w w') := HIn.out wr 0 (HH.out.keep (HTE.out.trans HJ.out.2)) HTw.out (by omega) _ (heap_keep HJ.out.2 HEB.out)
          have HEnd : Hid (∀ W, r.may ⟨uc, uk, ulc, ulk, urc, urk⟩ = true → PlQ w b ⟨uc, uk, ulc, ulk, urc, urk⟩ r W i → RqAt W b (r.runN ⟨uc, uk, ulc, ulk, urc, urk⟩ i) ∧ Touch (fun x => x = b) w W) := fun W hm q => by
            unfold RS.runN
            rw [HMay, hm, if_pos rfl, Int.toNat_natCast]
            exact ⟨q.1, q.2.2⟩
          have HEnd0 : Hid (∀ W, r.may ⟨uc, uk, ulc, ulk, urc, urk⟩ = false → RqAt W b (r.insert ⟨uc, uk, ulc, ulk, urc, urk⟩) → Touch (fun x => x = b) w W → RqAt W b (r.runN ⟨uc, uk, ulc, ulk, urc, urk⟩ i) ∧ Touch (fun x => x = b) w W) := fun W hm q t => by
            unfold RS.runN
            rw [HMay, hm, if_neg (by simp)]
            unfold RS.insert at q
            rw [hm, if_neg (by simp)] at q
            exact ⟨q, t⟩
          have HM : Hid (r.mayN ⟨uc, uk, ulc, ulk, urc, urk⟩ i = r.may ⟨uc, uk, ulc, ulk, urc, urk⟩) := HMay
          have HStp : Hid (∀ W j, 1 ≤ j → j < i → PlQ w b ⟨uc, uk, ulc, ulk, urc, urk⟩ r W j → ∀ X, X = ((W.setCell ⟨w.heap.size, 2, none⟩ (.int .u64 uc)).setCell ⟨w.heap.size, 3, none⟩ (.int .u64 (uk + (j : Int) - 1))).setCell ⟨w.heap.size, 1, none⟩ (.int .u64 (uk + (j : Int))) → Calls Tryz.prog 34 #[qP b, .agg #[.int .u64 uc, .int .u64 (uk + (j : Int)), .int .u64 uc, .int .u64 (uk + (j : Int) - 1), .int .u64 urc, .int .u64 urk]] X fun e w' => (∃ bo, e = .returned (.bool bo)) ∧ PlQ w b ⟨uc, uk, ulc, ulk, urc, urk⟩ r w' (j + 1)) := fun W j h1 hj q X hX => by
            obtain ⟨x1, x2, x3⟩ := HSet.out W j h1 q X hX
            have hru : runUn ⟨uc, uk, ulc, ulk, urc, urk⟩ j = ⟨uc, uk + (j : Int), uc, uk + (j : Int) - 1, urc, urk⟩ := by unfold runUn; rw [if_neg (by omega)]
            have := HIn.out X j x1 x3 (by omega) _ x2
            rw [hru] at this x2
            refine this.mono ?_
            rintro e w' ⟨rfl, y1, y2, y3⟩
            refine ⟨⟨_, rfl⟩, ?_, ?_, y3⟩
            · rw [runUns_succ, inserts_snoc, hru]; exact y1
            · rw [Nat.add_sub_cancel, hru]; exact y2
          have HCx : Hid (∀ W j, 1 ≤ j → PlQ w b ⟨uc, uk, ulc, ulk, urc, urk⟩ r W j → (W.cell? ⟨w.heap.size, 0, none⟩ = some (.int .u64 uc) ∧ W.cell? ⟨w.heap.size, 1, none⟩ = some (.int .u64 (uk + (j : Int) - 1)) ∧ (∃ y2 y3 : Int, W.cell? ⟨w.heap.size, 2, none⟩ = some (.int .u64 y2) ∧ W.cell? ⟨w.heap.size, 3, none⟩ = some (.int .u64 y3)) ∧ ∀ o, W.frozen? ⟨w.heap.size, o, none⟩ = false) ∧ ∀ X, X = ((W.setCell ⟨w.heap.size, 2, none⟩ (.int .u64 uc)).setCell ⟨w.heap.size, 3, none⟩ (.int .u64 (uk + (j : Int) - 1))).setCell ⟨w.heap.size, 1, none⟩ (.int .u64 (uk + (j : Int))) → X.cell? ⟨w.heap.size, 0, none⟩ = some (.int .u64 uc) ∧ X.cell? ⟨w.heap.size, 1, none⟩ = some (.int .u64 (uk + (j : Int))) ∧ X.cell? ⟨w.heap.size, 2, none⟩ = some (.int .u64 uc) ∧ X.cell? ⟨w.heap.size, 3, none⟩ = some (.int .u64 (uk + (j : Int) - 1)) ∧ X.cell? ⟨w.heap.size, 4, none⟩ = some (.int .u64 urc) ∧ X.cell? ⟨w.heap.size, 5, none⟩ = some (.int .u64 urk)) := fun W j h1 q => by
            refine ⟨?_, fun X hX => ?_⟩
            · obtain ⟨a0, a1, a2, a3, -, -⟩ := unO_cells q.2.1
              obtain ⟨r1, r2, -, -⟩ := runUn_c ⟨uc, uk, ulc, ulk, urc, urk⟩ (j - 1)
              rw [r1] at a0
              rw [r2] at a1
              simp only at a0 a1
              rw [show uk + ((j - 1 : Nat) : Int) = uk + (j : Int) - 1 from by omega] at a1
              exact ⟨a0, a1, ⟨_, _, a2, a3⟩, fun o => free_of_block q.2.1⟩
            · have x2 := (HSet.out W j h1 q X hX).2.1
              have hru : runUn ⟨uc, uk, ulc, ulk, urc, urk⟩ j = ⟨uc, uk + (j : Int), uc, uk + (j : Int) - 1, urc, urk⟩ := by unfold runUn; rw [if_neg (by omega)]
              rw [hru] at x2
              exact unO_cells x2
          have hun : runUns ⟨uc, uk, ulc, ulk, urc, urk⟩ 1 = [⟨uc, uk, ulc, ulk, urc, urk⟩] := rfl
          have HP1 : Hid (∀ W, RqAt W b (r.insert ⟨uc, uk, ulc, ulk, urc, urk⟩) → W.heap[w.heap.size]? = some (unO ⟨uc, uk, ulc, ulk, urc, urk⟩) → Touch (fun y => y = b) w W → PlQ w b ⟨uc, uk, ulc, ulk, urc, urk⟩ r W 1) := fun W a b' c => ⟨a, b', c⟩
          clear HRest HFree HSet HIn HF HC HJ HMay HNo HTw HEB HTE HH hun
          cases hmm : r.may ⟨uc, uk, ulc, ulk, urc, urk⟩ with
          | false =>
            rw [hmm] at HI0 HM
            have HE2 := HEnd0.out
            have HE3 : Hid (∀ W, RqAt W b (r.insert ⟨uc, uk, ulc, ulk, urc, urk⟩) → Touch (fun x => x = b) w W → RqAt W b (r.runN ⟨uc, uk, ulc, ulk, urc, urk⟩ i) ∧ Touch (fun x => x = b) w W) := fun W => HE2 W hmm
            clear HE2 HEnd HEnd0 HStp HCx HP1 hmm
            go_wp2_with fail
            refine HI0.out.mono ?_
            rintro e W2 ⟨rfl, q1, q2, q3⟩
            have HF2 : Hid (RqAt W2 b (r.runN ⟨uc, uk, ulc, ulk, urc, urk⟩ i) ∧ Touch (fun x => x = b) w W2) := HE3.out W2 q1 q3
            clear q1 q2 q3 HI0 HE3 c0 c1 c2 c3 c4 c5
            go_wp2_with fail
            go_ret
            exact ⟨by rw [HM.out]; rfl, HF2.out⟩
          | true =>
            rw [hmm] at HI0 HM
            have HE2 := HEnd.out
            have HE3 : Hid (∀ W, PlQ w b ⟨uc, uk, ulc, ulk, urc, urk⟩ r W i → RqAt W b (r.runN ⟨uc, uk, ulc, ulk, urc, urk⟩ i) ∧ Touch (fun x => x = b) w W) := fun W => HE2 W hmm
            clear HE2 HEnd HEnd0 hmm
            go_wp2_with fail
            refine HI0.out.mono ?_
            rintro e W2 ⟨rfl, q1, q2, q3⟩
            have HF2 : Hid (PlQ w b ⟨uc, uk, ulc, ulk, urc, urk⟩ r W2 1) := HP1.out W2 q1 q2 q3
            clear q1 q2 q3 HI0 HP1 c0 c1 c2 c3 c4 c5
            go_wp2_with fail
            go_loopw [8] (fun s8 wr => ∃ j : Nat, s8 = .int .i64 (j : Int) ∧ 1 ≤ j ∧ j ≤ i ∧ Hid (PlQ w b ⟨uc, uk, ulc, ulk, urc, urk⟩ r wr j)) (fun s8 _ => (i - intOf s8).toNat)
            case atStart => exact ⟨1, rfl, Nat.le_refl _, by omega, HF2.out⟩
            case round =>
              obtain ⟨j, rfl, hj1, hji, HJ⟩ := hrel
              clear HF2
              obtain ⟨wq, hwq⟩ : ∃ wq, wq = wr := ⟨_, rfl⟩
              subst hwq
              by_cases hjl : j < i
              · have l3 : (j : Int) < (i : Int) := by omega
                obtain ⟨⟨a0, a1, ⟨z2, z3, a2, a3⟩, af⟩, hX⟩ := HCx.out wq j hj1 HJ.out
                obtain ⟨X, hXe⟩ : ∃ X, Hid (X = ((wq.setCell ⟨w.heap.size, 2, none⟩ (.int .u64 uc)).setCell ⟨w.heap.size, 3, none⟩ (.int .u64 (uk + (j : Int) - 1))).setCell ⟨w.heap.size, 1, none⟩ (.int .u64 (uk + (j : Int)))) := ⟨_, Eq.refl _⟩
                obtain ⟨y0, y1, y2, y3, y4, y5⟩ := hX X hXe.out
                have HSt := HStp.out wq j hj1 hjl HJ.out X hXe.out
                have HSt2 : Hid (Calls Tryz.prog 34 #[qP b, .agg #[.int .u64 uc, .int .u64 (uk + (j : Int)), .int .u64 uc, .int .u64 (uk + (j : Int) - 1), .int .u64 urc, .int .u64 urk]] X fun e w' => (∃ bo, e = .returned (.bool bo)) ∧ PlQ w b ⟨uc, uk, ulc, ulk, urc, urk⟩ r w' (j + 1)) := HSt
                have f2 := af 2
                have f3 := af 3
                have f1 := af 1
                have e7 : IntKind.u64.wrap (uk + (j : Int) - 1 + 1) = uk + (j : Int) := by rw [IntKind.wrap_u64]; omega
                have e8 : IntKind.i64.wrap ((j : Int) + 1) = (j : Int) + 1 := by rw [IntKind.wrap_i64]; omega
                clear HSt hX af HStp HCx HJ HE3
                go_upto_region 15 with fail
                rw [← hXe.out]
                clear hXe a0 a1 a2 a3 f1 f2 f3
                go_wp2_with fail
                refine HSt2.out.mono ?_
                rintro e W4 ⟨⟨bo, rfl⟩, h4⟩
                have H4 : Hid (PlQ w b ⟨uc, uk, ulc, ulk, urc, urk⟩ r W4 (j + 1)) := h4
                clear h4 HSt2 y0 y1 y2 y3 y4 y5
                go_wp2_with fail
                exact ⟨⟨j + 1, by go_num, by omega, by omega, H4.out⟩, by simp [intOf]; omega⟩
              · have hji2 : j = i := by omega
                subst hji2
                have l3 : ¬ (j : Int) < (j : Int) := by omega
                have HF3 : Hid (RqAt wq b (r.runN ⟨uc, uk, ulc, ulk, urc, urk⟩ j) ∧ Touch (fun x => x = b) w wq) := HE3.out wq HJ.out
                clear HJ HE3 HStp HCx
                go_wp2_with fail
                go_ret
                exact ⟨by rw [HM.out]; rfl, HF3.out⟩
end Go.Proofs.YtdnhoicfolkbnaaGreat
