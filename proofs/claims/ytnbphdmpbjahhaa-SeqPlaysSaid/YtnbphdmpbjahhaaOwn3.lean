/- quireref9.Run: the document's run. -/
import Derived.Test.YtnbphdmpbjahhaaGrown
import Derived.Test.YtnbphdmpbjahhaaPart28
import Derived.Deep.CutBlock
import Derived.Test.YtnbphdmpbjahhaaPart20
import Derived.Test.YtnbphdmpbjahhaaPart31
namespace Go.Proofs.Ytnbphdmpbjahhaa
open Go.RowKit
set_option linter.unusedVariables false
set_option linter.unusedSimpArgs false
set_option maxRecDepth 100000

theorem inserts_snoc (r : RS) (us : List Un) (u : Un) : r.inserts (us ++ [u]) = (r.inserts us).insert u := by unfold RS.inserts; rw [List.foldl_append]; rfl
theorem inserts_inv {r : RS} (h : RInv r) : ∀ us : List Un, RInv (r.inserts us) ∧ (r.inserts us).l.length ≤ r.l.length + us.length := by
  intro us
  induction us generalizing r with
  | nil => exact ⟨h, Nat.le_refl _⟩
  | cons u us ih =>
    obtain ⟨a, b⟩ := ih (h.insert u)
    refine ⟨a, Nat.le_trans b ?_⟩
    have := RS.insert_len r u
    simp only [List.length_cons]
    omega
theorem numOk_k {k : Int} (h : numOk k = true) : 1 ≤ k ∧ k ≤ 9007199254740991 := by simpa [numOk] using h
theorem mayN_n {r : RS} {u : Un} {n : Int} (h : ¬ 1 ≤ n) : r.mayN u n = false := by unfold RS.mayN; simp [h]
theorem mayN_id {r : RS} {u : Un} {n : Int} (h : (numOk u.c && numOk u.k) = false) : r.mayN u n = false := by
  unfold RS.mayN
  cases h1 : numOk u.c <;> cases h2 : numOk u.k <;> simp_all
theorem mayN_k {r : RS} {u : Un} {n : Int} (h : ¬ n - 1 ≤ 9007199254740991 - u.k) : r.mayN u n = false := by unfold RS.mayN; simp [h]
theorem mayN_free {r : RS} {u : Un} {n j : Nat} (hj : j < n) (h : 0 ≤ r.find u.c (u.k + (j : Int))) : r.mayN u n = false := by
  cases e : r.mayN u n with
  | false => rfl
  | true =>
    unfold RS.mayN at e
    simp only [Bool.and_eq_true, Int.toNat_natCast] at e
    have := (RS.free_iff _ _ _ _).1 e.1.2 j hj
    omega
theorem mayN_rest {r : RS} {u : Un} {n : Nat} (h1 : 1 ≤ n) (h2 : (numOk u.c && numOk u.k) = true) (h3 : (n : Int) - 1 ≤ 9007199254740991 - u.k) (h4 : ∀ j : Nat, j < n → r.find u.c (u.k + (j : Int)) < 0) : r.mayN u n = r.may u := by
  have hf : r.free u.c u.k n = true := (RS.free_iff _ _ _ _).2 fun j hj => by
    have := h4 j hj
    have hb := RS.find_lt (r := r) u.c (u.k + (j : Int))
    omega
  simp only [Bool.and_eq_true] at h2
  unfold RS.mayN
  rw [Int.toNat_natCast, hf, h2.1, h2.2, decide_eq_true (show (1 : Int) ≤ (n : Int) by omega), decide_eq_true h3]
  simp
/-- What a run that is done leaves. -/
def PlQ (w : World) (b : Nat) (u : Un) (r : RS) (W : World) (j : Nat) : Prop := RqAt W b (r.inserts (runUns u j)) ∧ W.heap[w.heap.size]? = some (unO (runUn u (j - 1))) ∧ Touch (fun x => x = b) w W
set_option maxHeartbeats 16000000 in
theorem qrun_any {w : World} {b : Nat} {r : RS} (h : RqAt w b r) (hI : RInv r) (u : Un) (hu : u.ok) (n : Int) (hn : -9223372036854775808 ≤ n ∧ n ≤ 20) (hl : r.l.length ≤ 900000) :
    Calls Try.prog 12 #[qP b, .agg #[.int .u64 u.c, .int .u64 u.k, .int .u64 u.lc, .int .u64 u.lk, .int .u64 u.rc, .int .u64 u.rk], .int .i64 n] w fun e w' => e = .returned (.bool (r.mayN u n)) ∧ RqAt w' b (r.runN u n) ∧ Touch (fun x => x = b) w w' := by
  have hbl : b < w.heap.size := by obtain ⟨c, hc⟩ := h.blk; exact lt_of_heap hc
  obtain ⟨E, hE⟩ : ∃ E, Hid (E = w.alloc (unO u)) := ⟨_, Eq.refl _⟩
  have HTE : Hid (Touch (fun _ => False) w E) := by rw [hE.out]; exact (Touch.refl _ _).alloc _
  have HEB : Hid (E.heap[w.heap.size]? = some (unO u)) := by rw [hE.out]; exact heap_alloc_new _ _
  have HNo : Hid (r.mayN u n = false → ∀ W, Touch (fun _ => False) E W → RqAt W b (r.runN u n) ∧ Touch (fun x => x = b) w W) := fun hm W t => by
    unfold RS.runN
    rw [hm, if_neg (by simp)]
    exact ⟨h.keep (HTE.out.trans t), (HTE.out.trans t).mono fun _ _ q => q.elim⟩
  have HC : Hid (∀ W, Touch (fun _ => False) E W → W.cell? ⟨w.heap.size, 0, none⟩ = some (.int .u64 u.c) ∧ W.cell? ⟨w.heap.size, 1, none⟩ = some (.int .u64 u.k) ∧ W.cell? ⟨w.heap.size, 2, none⟩ = some (.int .u64 u.lc) ∧ W.cell? ⟨w.heap.size, 3, none⟩ = some (.int .u64 u.lk) ∧ W.cell? ⟨w.heap.size, 4, none⟩ = some (.int .u64 u.rc) ∧ W.cell? ⟨w.heap.size, 5, none⟩ = some (.int .u64 u.rk)) := fun W t => unO_cells (heap_keep t HEB.out)
  have HR : Hid (∀ W, Calls Try.prog 24 #[.agg #[.int .u64 u.c, .int .u64 u.k]] W fun e w' => e = .returned (.bool (numOk u.c && numOk u.k)) ∧ Touch (fun _ => False) W w') := fun W => (rRight_any u.c u.k W).mono (by rintro e w2 ⟨rfl, rfl⟩; exact ⟨rfl, (Touch.refl _ _).alloc _⟩)
  have HF : Hid (∀ W (k : Int), Touch (fun _ => False) E W → Calls Try.prog 33 #[qP b, .agg #[.int .u64 u.c, .int .u64 k]] W fun e w' => e = .returned (iV (r.find u.c k)) ∧ Touch (fun _ => False) W w') := fun W k t => qfind_any (h.keep (HTE.out.trans t)) _ _ (by omega)
  have HIn : Hid (∀ W j, RqAt W b (r.inserts (runUns u j)) → Touch (fun y => y = b) w W → j ≤ 20 → ∀ x, W.heap[w.heap.size]? = some (unO x) → Calls Try.prog 16 #[qP b, .agg #[.int .u64 x.c, .int .u64 x.k, .int .u64 x.lc, .int .u64 x.lk, .int .u64 x.rc, .int .u64 x.rk]] W fun e w' => e = .returned (.bool ((r.inserts (runUns u j)).may x)) ∧ RqAt w' b ((r.inserts (runUns u j)).insert x) ∧ w'.heap[w.heap.size]? = some (unO x) ∧ Touch (fun y => y = b) w w') := fun W j q t hj x hx => by
    obtain ⟨i1, i2⟩ := inserts_inv hI (runUns u j)
    rw [runUns_len] at i2
    refine (qinsert_any q i1 x (by omega)).mono ?_
    rintro e w' ⟨rfl, q1, q2⟩
    exact ⟨rfl, q1, (q2.block _ (lt_of_heap hx) (by omega)).trans hx, t.trans q2⟩
  have HH : Hid (RqAt w b r) := h
  have HSet : Hid (∀ W i, 1 ≤ i → PlQ w b u r W i → ∀ X, X = ((W.setCell ⟨w.heap.size, 2, none⟩ (.int .u64 u.c)).setCell ⟨w.heap.size, 3, none⟩ (.int .u64 (u.k + (i : Int) - 1))).setCell ⟨w.heap.size, 1, none⟩ (.int .u64 (u.k + (i : Int))) → RqAt X b (r.inserts (runUns u i)) ∧ X.heap[w.heap.size]? = some (unO (runUn u i)) ∧ Touch (fun y => y = b) w X) := fun W i hi q X hX => by
    have tX : Touch (fun y => y = w.heap.size) W X := by
      rw [hX]
      exact (((Touch.refl (fun y => y = w.heap.size) W).setCell ⟨w.heap.size, 2, none⟩ _ fun _ => rfl).setCell ⟨w.heap.size, 3, none⟩ _ fun _ => rfl).setCell ⟨w.heap.size, 1, none⟩ _ fun _ => rfl
    refine ⟨q.1.keepV tX fun k c ty fr hk e => ?_, ?_, q.2.2.then tX fun k hk e => absurd hk (by omega)⟩
    · rw [e, q.2.1] at hk
      simp at hk
      exact hk.2.1.symm
    · rw [hX]
      have e1 := heap_setCell_same W w.heap.size 2 (.int .u64 u.c) q.2.1
      have e2 := heap_setCell_same _ w.heap.size 3 (.int .u64 (u.k + (i : Int) - 1)) e1
      have e3 := heap_setCell_same _ w.heap.size 1 (.int .u64 (u.k + (i : Int))) e2
      rw [e3]
      obtain ⟨r1, r2, r3, r4⟩ := runUn_c u (i - 1)
      have : runUn u i = ⟨u.c, u.k + (i : Int), u.c, u.k + (i : Int) - 1, u.rc, u.rk⟩ := by unfold runUn; rw [if_neg (by omega)]
      rw [this]
      simp [r1, r2, r3, r4]
  clear h hI hl hbl
  obtain ⟨uc, uk, ulc, ulk, urc, urk⟩ := u
  have huk : 0 ≤ uk ∧ uk < 18446744073709551616 := hu.k
  clear hu
  by_cases hn1 : 1 ≤ n
  rotate_left
  · have l0 : n < 1 := by omega
    have HM : Hid (r.mayN ⟨uc, uk, ulc, ulk, urc, urk⟩ n = false) := mayN_n hn1
    clear hn1
    go_enter Try.func12, Try.ntmps12
    go_wp2_with fail
    go_ret
    rw [← hE.out]
    exact ⟨by rw [HM.out]; rfl, HNo.out HM.out _ (Touch.refl _ _)⟩
  obtain ⟨m, rfl⟩ := Int.eq_ofNat_of_zero_le (show 0 ≤ n by omega)
  have hm1 : 1 ≤ m := by omega
  have l0 : ¬ (m : Int) < 1 := by omega
  have e1 : IntKind.u64.wrap (m : Int) = (m : Int) := by rw [IntKind.wrap_u64]; omega
  have e2 : IntKind.u64.wrap ((m : Int) - 1) = (m : Int) - 1 := by rw [IntKind.wrap_u64]; omega
  obtain ⟨c0, c1, c2, c3, c4, c5⟩ := HC.out E (Touch.refl _ _)
  simp only at c0 c1 c2 c3 c4 c5 HR HF HC
  go_enter Try.func12, Try.ntmps12
  go_upto_region 1 with fail
  rw [← hE.out]
  clear hE
  cases hrt : (numOk uc && numOk uk) with
  | false =>
    have HM : Hid (r.mayN ⟨uc, uk, ulc, ulk, urc, urk⟩ m = false) := mayN_id hrt
    rw [hrt] at HR
    clear hrt
    go_wp2_with fail
    refine (HR.out _).mono ?_
    rintro e W1 ⟨rfl, t1⟩
    have HT1 : Hid (Touch (fun _ => False) E W1) := t1
    clear t1 HR
    go_wp2_with fail
    go_ret
    exact ⟨by rw [HM.out]; rfl, HNo.out HM.out _ HT1.out⟩
  | true =>
    have hnk := numOk_k (show numOk uk = true by cases h1 : numOk uc <;> simp_all)
    rw [hrt] at HR
    have e3 : IntKind.u64.wrap (9007199254740991 - uk) = 9007199254740991 - uk := by rw [IntKind.wrap_u64]; omega
    by_cases hk : (m : Int) - 1 ≤ 9007199254740991 - uk
    rotate_left
    · have HM : Hid (r.mayN ⟨uc, uk, ulc, ulk, urc, urk⟩ m = false) := mayN_k hk
      have l1 : 9007199254740991 - uk < (m : Int) - 1 := by omega
      have HCE := HC.out
      clear hrt hk
      go_wp2_with fail
      refine (HR.out _).mono ?_
      rintro e W1 ⟨rfl, t1⟩
      have HT1 : Hid (Touch (fun _ => False) E W1) := t1
      obtain ⟨-, d1, -, -, -, -⟩ := HC.out W1 t1
      clear t1 HR HCE c0 c1 c2 c3 c4 c5
      go_wp2_with fail
      go_ret
      exact ⟨by rw [HM.out]; rfl, HNo.out HM.out _ HT1.out⟩
    · have l1 : ¬ (9007199254740991 - uk < (m : Int) - 1) := by omega
      have HRest : Hid ((∀ j : Nat, j < m → r.find uc (uk + (j : Int)) < 0) → r.mayN ⟨uc, uk, ulc, ulk, urc, urk⟩ m = r.may ⟨uc, uk, ulc, ulk, urc, urk⟩) := fun h4 => mayN_rest (u := ⟨uc, uk, ulc, ulk, urc, urk⟩) hm1 hrt hk h4
      have HFree : Hid (∀ j : Nat, j < m → 0 ≤ r.find uc (uk + (j : Int)) → r.mayN ⟨uc, uk, ulc, ulk, urc, urk⟩ m = false) := fun j hj h => mayN_free (u := ⟨uc, uk, ulc, ulk, urc, urk⟩) hj h
      clear hrt
      go_wp2_with fail
      refine (HR.out _).mono ?_
      rintro e W1 ⟨rfl, t1⟩
      have HT1 : Hid (Touch (fun _ => False) E W1) := t1
      obtain ⟨-, d1, -, -, -, -⟩ := HC.out W1 t1
      clear t1 HR c0 c1 c2 c3 c4 c5
      go_wp2_with fail
      go_loopw [7] (fun s7 wr => ∃ i : Nat, s7 = .int .i64 (i : Int) ∧ i ≤ m ∧ Hid ((∀ j : Nat, j < i → r.find uc (uk + (j : Int)) < 0) ∧ Touch (fun _ => False) E wr)) (fun s7 _ => (m - intOf s7).toNat)
      case atStart => exact ⟨0, rfl, Nat.zero_le _, fun j hj => absurd hj (Nat.not_lt_zero _), HT1.out⟩
      case round =>
        obtain ⟨i, rfl, him, HJ⟩ := hrel
        clear HT1 d1
        obtain ⟨c0, c1, c2, c3, c4, c5⟩ := HC.out wr HJ.out.2
        by_cases hil : i < m
        · have l2 : (i : Int) < (m : Int) := by omega
          have e4 : IntKind.u64.wrap (i : Int) = (i : Int) := by rw [IntKind.wrap_u64]; omega
          have e5 : IntKind.u64.wrap (uk + (i : Int)) = uk + (i : Int) := by rw [IntKind.wrap_u64]; omega
          have e6 : IntKind.i64.wrap ((i : Int) + 1) = (i : Int) + 1 := by rw [IntKind.wrap_i64]; omega
          have HFi : Hid (Calls Try.prog 33 #[qP b, .agg #[.int .u64 uc, .int .u64 (uk + (i : Int))]] wr fun e w' => e = .returned (iV (r.find uc (uk + (i : Int)))) ∧ Touch (fun _ => False) wr w') := HF.out wr (uk + (i : Int)) HJ.out.2
          have HFi2 : Hid (0 ≤ r.find uc (uk + (i : Int)) → r.mayN ⟨uc, uk, ulc, ulk, urc, urk⟩ m = false) := HFree.out i hil
          have HJ2 : Hid (r.find uc (uk + (i : Int)) < 0 → ∀ j : Nat, j < i + 1 → r.find uc (uk + (j : Int)) < 0) := fun h j hj => by
            by_cases e : j = i
            · rw [e]; exact h
            · exact HJ.out.1 j (by omega)
          generalize r.find uc (uk + (i : Int)) = fi at *
          by_cases hfi : 0 ≤ fi
          · have HM := HFi2.out hfi
            have HM2 : Hid (r.mayN ⟨uc, uk, ulc, ulk, urc, urk⟩ m = false) := HM
            clear HM HFi2 HJ2 HRest HFree HSet HIn HF HC
            go_wp2_with fail
            refine HFi.out.mono ?_
            rintro e W2 ⟨rfl, t2⟩
            have HT2 : Hid (Touch (fun _ => False) E W2) := HJ.out.2.trans t2
            clear t2 HFi
            go_wp2_with fail
            go_ret
            exact ⟨by rw [HM2.out]; rfl, HNo.out HM2.out _ HT2.out⟩
          · clear HFi2 HRest HFree HSet HIn HF HC
            go_wp2_with fail
            refine HFi.out.mono ?_
            rintro e W2 ⟨rfl, t2⟩
            have HT2 : Hid (Touch (fun _ => False) E W2) := HJ.out.2.trans t2
            clear t2 HFi
            go_wp2_with fail
            exact ⟨⟨i + 1, by go_num, by omega, HJ2.out (by omega), HT2.out⟩, by simp [intOf]; omega⟩
        · have him2 : i = m := by omega
          subst him2
          have l2 : ¬ (i : Int) < (i : Int) := by omega
          have HMay := HRest.out HJ.out.1
          have HTw : Hid (Touch (fun y => y = b) w wr) := (HTE.out.trans HJ.out.2).mono fun _ _ q => q.elim
          have HI0 : Hid (Calls Try.prog 16 #[qP b, .agg #[.int .u64 uc, .int .u64 uk, .int .u64 ulc, .int .u64 ulk, .int .u64 urc, .int .u64 urk]] wr fun e w' => e = .returned (.bool (r.may ⟨uc, uk, ulc, ulk, urc, urk⟩)) ∧ RqAt w' b (r.insert ⟨uc, uk, ulc, ulk, urc, urk⟩) ∧ w'.heap[w.heap.size]? = some (unO ⟨uc, uk, ulc, ulk, urc, urk⟩) ∧ Touch (fun y => y = b) w w') := HIn.out wr 0 (HH.out.keep (HTE.out.trans HJ.out.2)) HTw.out (by omega) _ (heap_keep HJ.out.2 HEB.out)
          have HEnd : Hid (∀ W, r.may ⟨uc, uk, ulc, ulk, urc, urk⟩ = true → PlQ w b ⟨uc, uk, ulc, ulk, urc, urk⟩ r W i → RqAt W b (r.runN ⟨uc, uk, ulc, ulk, urc, urk⟩ i) ∧ Touch (fun x => x = b) w W) := fun W hm q => by
            unfold RS.runN
            rw [HMay, hm, if_pos rfl, Int.toNat_natCast]
            exact ⟨q.1, q.2.2⟩
          have HEnd0 : Hid (∀ W, r.may ⟨uc, uk, ulc, ulk, urc, urk⟩ = false → RqAt W b (r.insert ⟨uc, uk, ulc, ulk, urc, urk⟩) → Touch (fun x => x = b) w W → RqAt W b (r.runN ⟨uc, uk, ulc, ulk, urc, urk⟩ i) ∧ Touch (fun x => x = b) w W) := fun W hm q t => by
            unfold RS.runN
            rw [HMay, hm, if_neg (by simp)]
            unfold RS.insert at q
            rw [hm, if_neg (by simp)] at q
            exact ⟨q, t⟩
          have HM : Hid (r.mayN ⟨uc, uk, ulc, ulk, urc, urk⟩ i = r.may ⟨uc, uk, ulc, ulk, urc, urk⟩) := HMay
          have HStp : Hid (∀ W j, 1 ≤ j → j < i → PlQ w b ⟨uc, uk, ulc, ulk, urc, urk⟩ r W j → ∀ X, X = ((W.setCell ⟨w.heap.size, 2, none⟩ (.int .u64 uc)).setCell ⟨w.heap.size, 3, none⟩ (.int .u64 (uk + (j : Int) - 1))).setCell ⟨w.heap.size, 1, none⟩ (.int .u64 (uk + (j : Int))) → Calls Try.prog 16 #[qP b, .agg #[.int .u64 uc, .int .u64 (uk + (j : Int)), .int .u64 uc, .int .u64 (uk + (j : Int) - 1), .int .u64 urc, .int .u64 urk]] X fun e w' => (∃ bo, e = .returned (.bool bo)) ∧ PlQ w b ⟨uc, uk, ulc, ulk, urc, urk⟩ r w' (j + 1)) := fun W j h1 hj q X hX => by
            obtain ⟨x1, x2, x3⟩ := HSet.out W j h1 q X hX
            have hru : runUn ⟨uc, uk, ulc, ulk, urc, urk⟩ j = ⟨uc, uk + (j : Int), uc, uk + (j : Int) - 1, urc, urk⟩ := by unfold runUn; rw [if_neg (by omega)]
            have := HIn.out X j x1 x3 (by omega) _ x2
            rw [hru] at this x2
            refine this.mono ?_
            rintro e w' ⟨rfl, y1, y2, y3⟩
            refine ⟨⟨_, rfl⟩, ?_, ?_, y3⟩
            · rw [runUns_succ, inserts_snoc, hru]; exact y1
            · rw [Nat.add_sub_cancel, hru]; exact y2
          have HCx : Hid (∀ W j, 1 ≤ j → PlQ w b ⟨uc, uk, ulc, ulk, urc, urk⟩ r W j → (W.cell? ⟨w.heap.size, 0, none⟩ = some (.int .u64 uc) ∧ W.cell? ⟨w.heap.size, 1, none⟩ = some (.int .u64 (uk + (j : Int) - 1)) ∧ (∃ y2 y3 : Int, W.cell? ⟨w.heap.size, 2, none⟩ = some (.int .u64 y2) ∧ W.cell? ⟨w.heap.size, 3, none⟩ = some (.int .u64 y3)) ∧ ∀ o, W.frozen? ⟨w.heap.size, o, none⟩ = false) ∧ ∀ X, X = ((W.setCell ⟨w.heap.size, 2, none⟩ (.int .u64 uc)).setCell ⟨w.heap.size, 3, none⟩ (.int .u64 (uk + (j : Int) - 1))).setCell ⟨w.heap.size, 1, none⟩ (.int .u64 (uk + (j : Int))) → X.cell? ⟨w.heap.size, 0, none⟩ = some (.int .u64 uc) ∧ X.cell? ⟨w.heap.size, 1, none⟩ = some (.int .u64 (uk + (j : Int))) ∧ X.cell? ⟨w.heap.size, 2, none⟩ = some (.int .u64 uc) ∧ X.cell? ⟨w.heap.size, 3, none⟩ = some (.int .u64 (uk + (j : Int) - 1)) ∧ X.cell? ⟨w.heap.size, 4, none⟩ = some (.int .u64 urc) ∧ X.cell? ⟨w.heap.size, 5, none⟩ = some (.int .u64 urk)) := fun W j h1 q => by
            refine ⟨?_, fun X hX => ?_⟩
            · obtain ⟨a0, a1, a2, a3, -, -⟩ := unO_cells q.2.1
              obtain ⟨r1, r2, -, -⟩ := runUn_c ⟨uc, uk, ulc, ulk, urc, urk⟩ (j - 1)
              rw [r1] at a0
              rw [r2] at a1
              simp only at a0 a1
              rw [show uk + ((j - 1 : Nat) : Int) = uk + (j : Int) - 1 from by omega] at a1
              exact ⟨a0, a1, ⟨_, _, a2, a3⟩, fun o => free_of_block q.2.1⟩
            · have x2 := (HSet.out W j h1 q X hX).2.1
              have hru : runUn ⟨uc, uk, ulc, ulk, urc, urk⟩ j = ⟨uc, uk + (j : Int), uc, uk + (j : Int) - 1, urc, urk⟩ := by unfold runUn; rw [if_neg (by omega)]
              rw [hru] at x2
              exact unO_cells x2
          have hun : runUns ⟨uc, uk, ulc, ulk, urc, urk⟩ 1 = [⟨uc, uk, ulc, ulk, urc, urk⟩] := rfl
          have HP1 : Hid (∀ W, RqAt W b (r.insert ⟨uc, uk, ulc, ulk, urc, urk⟩) → W.heap[w.heap.size]? = some (unO ⟨uc, uk, ulc, ulk, urc, urk⟩) → Touch (fun y => y = b) w W → PlQ w b ⟨uc, uk, ulc, ulk, urc, urk⟩ r W 1) := fun W a b' c => ⟨a, b', c⟩
          clear HRest HFree HSet HIn HF HC HJ HMay HNo HTw HEB HTE HH hun
          cases hmm : r.may ⟨uc, uk, ulc, ulk, urc, urk⟩ with
          | false =>
            rw [hmm] at HI0 HM
            have HE2 := HEnd0.out
            have HE3 : Hid (∀ W, RqAt W b (r.insert ⟨uc, uk, ulc, ulk, urc, urk⟩) → Touch (fun x => x = b) w W → RqAt W b (r.runN ⟨uc, uk, ulc, ulk, urc, urk⟩ i) ∧ Touch (fun x => x = b) w W) := fun W => HE2 W hmm
            clear HE2 HEnd HEnd0 HStp HCx HP1 hmm
            go_wp2_with fail
            refine HI0.out.mono ?_
            rintro e W2 ⟨rfl, q1, q2, q3⟩
            have HF2 : Hid (RqAt W2 b (r.runN ⟨uc, uk, ulc, ulk, urc, urk⟩ i) ∧ Touch (fun x => x = b) w W2) := HE3.out W2 q1 q3
            clear q1 q2 q3 HI0 HE3 c0 c1 c2 c3 c4 c5
            go_wp2_with fail
            go_ret
            exact ⟨by rw [HM.out]; rfl, HF2.out⟩
          | true =>
            rw [hmm] at HI0 HM
            have HE2 := HEnd.out
            have HE3 : Hid (∀ W, PlQ w b ⟨uc, uk, ulc, ulk, urc, urk⟩ r W i → RqAt W b (r.runN ⟨uc, uk, ulc, ulk, urc, urk⟩ i) ∧ Touch (fun x => x = b) w W) := fun W => HE2 W hmm
            clear HE2 HEnd HEnd0 hmm
            go_wp2_with fail
            refine HI0.out.mono ?_
            rintro e W2 ⟨rfl, q1, q2, q3⟩
            have HF2 : Hid (PlQ w b ⟨uc, uk, ulc, ulk, urc, urk⟩ r W2 1) := HP1.out W2 q1 q2 q3
            clear q1 q2 q3 HI0 HP1 c0 c1 c2 c3 c4 c5
            go_wp2_with fail
            go_loopw [8] (fun s8 wr => ∃ j : Nat, s8 = .int .i64 (j : Int) ∧ 1 ≤ j ∧ j ≤ i ∧ Hid (PlQ w b ⟨uc, uk, ulc, ulk, urc, urk⟩ r wr j)) (fun s8 _ => (i - intOf s8).toNat)
            case atStart => exact ⟨1, rfl, Nat.le_refl _, by omega, HF2.out⟩
            case round =>
              obtain ⟨j, rfl, hj1, hji, HJ⟩ := hrel
              clear HF2
              obtain ⟨wq, hwq⟩ : ∃ wq, wq = wr := ⟨_, rfl⟩
              subst hwq
              by_cases hjl : j < i
              · have l3 : (j : Int) < (i : Int) := by omega
                obtain ⟨⟨a0, a1, ⟨z2, z3, a2, a3⟩, af⟩, hX⟩ := HCx.out wq j hj1 HJ.out
                obtain ⟨X, hXe⟩ : ∃ X, Hid (X = ((wq.setCell ⟨w.heap.size, 2, none⟩ (.int .u64 uc)).setCell ⟨w.heap.size, 3, none⟩ (.int .u64 (uk + (j : Int) - 1))).setCell ⟨w.heap.size, 1, none⟩ (.int .u64 (uk + (j : Int)))) := ⟨_, Eq.refl _⟩
                obtain ⟨y0, y1, y2, y3, y4, y5⟩ := hX X hXe.out
                have HSt := HStp.out wq j hj1 hjl HJ.out X hXe.out
                have HSt2 : Hid (Calls Try.prog 16 #[qP b, .agg #[.int .u64 uc, .int .u64 (uk + (j : Int)), .int .u64 uc, .int .u64 (uk + (j : Int) - 1), .int .u64 urc, .int .u64 urk]] X fun e w' => (∃ bo, e = .returned (.bool bo)) ∧ PlQ w b ⟨uc, uk, ulc, ulk, urc, urk⟩ r w' (j + 1)) := HSt
                have f2 := af 2
                have f3 := af 3
                have f1 := af 1
                have e7 : IntKind.u64.wrap (uk + (j : Int) - 1 + 1) = uk + (j : Int) := by rw [IntKind.wrap_u64]; omega
                have e8 : IntKind.i64.wrap ((j : Int) + 1) = (j : Int) + 1 := by rw [IntKind.wrap_i64]; omega
                clear HSt hX af HStp HCx HJ HE3
                go_upto_region 15 with fail
                rw [← hXe.out]
                clear hXe a0 a1 a2 a3 f1 f2 f3
                go_wp2_with fail
                refine HSt2.out.mono ?_
                rintro e W4 ⟨⟨bo, rfl⟩, h4⟩
                have H4 : Hid (PlQ w b ⟨uc, uk, ulc, ulk, urc, urk⟩ r W4 (j + 1)) := h4
                clear h4 HSt2 y0 y1 y2 y3 y4 y5
                go_wp2_with fail
                exact ⟨⟨j + 1, by go_num, by omega, by omega, H4.out⟩, by simp [intOf]; omega⟩
              · have hji2 : j = i := by omega
                subst hji2
                have l3 : ¬ (j : Int) < (j : Int) := by omega
                have HF3 : Hid (RqAt wq b (r.runN ⟨uc, uk, ulc, ulk, urc, urk⟩ j) ∧ Touch (fun x => x = b) w wq) := HE3.out wq HJ.out
                clear HJ HE3 HStp HCx
                go_wp2_with fail
                go_ret
                exact ⟨by rw [HM.out]; rfl, HF3.out⟩
end Go.Proofs.Ytnbphdmpbjahhaa

/- quirelaw9.SeqCopies: two sequences and a copy, side by side; what the copy becomes. -/
namespace Go.Proofs.Ytnbphdmpbjahhaa
open Go.RowKit
set_option linter.unusedVariables false
set_option linter.unusedSimpArgs false

/-- Two sequences, and units. -/
def Two (w W : World) (pa pb : Nat) (Sa Sb : SS) (v : Value) (us : List Un) : Prop := ∃ A B, Sq1 w W pa A Sa ∧ Sq1 w W pb B Sb ∧ ApartB A B ∧ NewV w W v us
theorem Two.touch {w W W' : World} {pa pb : Nat} {Sa Sb : SS} {v : Value} {us : List Un} (h : Two w W pa pb Sa Sb v us) (t : Touch (fun _ => False) W W') : Two w W' pa pb Sa Sb v us := by
  obtain ⟨A, B, a, b, c, d⟩ := h
  exact ⟨A, B, a.touch t, b.touch t, c, d.on t⟩
theorem Two.swap {w W : World} {pa pb : Nat} {Sa Sb : SS} {v : Value} {us : List Un} (h : Two w W pa pb Sa Sb v us) : Two w W pb pa Sb Sa v us := by
  obtain ⟨A, B, a, b, c, d⟩ := h
  exact ⟨B, A, b, a, c.symm, d⟩
theorem Two.touch0 {w W : World} {pa pb : Nat} {Sa Sb : SS} {v : Value} {us : List Un} (h : Two w W pa pb Sa Sb v us) : Touch (fun _ => False) w W := by
  obtain ⟨A, B, a, b, c, d⟩ := h
  exact d.touch
theorem Two.ins {w W : World} {pa pb : Nat} {Sa Sb : SS} {v : Value} {us : List Un} (h : Two w W pa pb Sa Sb v us) (u : Un) (hu : u.ok) {n : Nat} (hz : Size Sa n) (hn : n ≤ 1000000) :
    Calls Try.prog 14 #[.pointer (some ⟨pa, 0, none⟩), .agg #[.int .u64 u.c, .int .u64 u.k, .int .u64 u.lc, .int .u64 u.lk, .int .u64 u.rc, .int .u64 u.rk]] W fun e w' => e = .returned (.bool (Sa.may u 1)) ∧ Two w w' pa pb (Sa.run u 1) Sb v us := by
  obtain ⟨A, B, a, b, c, d⟩ := h
  refine (a.ins u hu hz hn).mono ?_
  rintro e w' ⟨rfl, A', h1, h2, t⟩
  exact ⟨rfl, A', B, h1, b.other t c.symm, (b.apart c.symm h2).symm, d.onB a t⟩
/-- Three sequences. -/
def Tri (w W : World) (pa pb pc : Nat) (Sa Sb Sc : SS) : Prop := Touch (fun _ => False) w W ∧ ∃ A B C, Sq1 w W pa A Sa ∧ Sq1 w W pb B Sb ∧ Sq1 w W pc C Sc ∧ ApartB A C ∧ ApartB B C
theorem Tri.touch {w W W' : World} {pa pb pc : Nat} {Sa Sb Sc : SS} (h : Tri w W pa pb pc Sa Sb Sc) (t : Touch (fun _ => False) W W') : Tri w W' pa pb pc Sa Sb Sc := by
  obtain ⟨t0, A, B, C, a, b, c, d, e⟩ := h
  exact ⟨t0.trans t, A, B, C, a.touch t, b.touch t, c.touch t, d, e⟩
theorem Tri.ins {w W : World} {pa pb pc : Nat} {Sa Sb Sc : SS} (h : Tri w W pa pb pc Sa Sb Sc) (u : Un) (hu : u.ok) {n : Nat} (hz : Size Sc n) (hn : n ≤ 1000000) :
    Calls Try.prog 14 #[.pointer (some ⟨pc, 0, none⟩), .agg #[.int .u64 u.c, .int .u64 u.k, .int .u64 u.lc, .int .u64 u.lk, .int .u64 u.rc, .int .u64 u.rk]] W fun e w' => e = .returned (.bool (Sc.may u 1)) ∧ Tri w w' pa pb pc Sa Sb (Sc.run u 1) := by
  obtain ⟨t0, A, B, C, a, b, c, d, e⟩ := h
  refine (c.ins u hu hz hn).mono ?_
  rintro e' w' ⟨rfl, C', h1, h2, t⟩
  exact ⟨rfl, c.touch0 t0 t, A, B, C', a.other t d, b.other t e, h1, a.apart d h2, b.apart e h2⟩
theorem Two.copy {w W : World} {pa pb : Nat} {Sa Sb : SS} {v : Value} {us : List Un} (h : Two w W pa pb Sa Sb v us) {n : Nat} (hz : Size Sa n) (hn : n ≤ 1000000) :
    Calls Try.prog 13 #[.pointer (some ⟨pa, 0, none⟩)] W fun e w' => ∃ pc, e = .returned (.pointer (some ⟨pc, 0, none⟩)) ∧ Tri w w' pa pb pc Sa Sb Sa := by
  obtain ⟨A, B, a, b, c, d⟩ := h
  refine (a.copy hz hn d.touch).mono ?_
  rintro e w' ⟨q, C, rfl, h1, h2, t⟩
  refine ⟨q, rfl, d.touch.trans t, A, B, C, a.touch t, b.touch t, h1, fun k hk hc => ?_, fun k hk hc => ?_⟩
  · have := a.mem.lt hk
    have := h2 k hc
    omega
  · have := b.mem.lt hk
    have := h2 k hc
    omega
/-- What the copy of A is behind i insertions. -/
structure CpI (A C : SS) (n i : Nat) : Prop where
  inv : Inv C
  size : Size C (n + i)
  ids : ∀ v ∈ C.units, v.c ≤ 4 ∨ (v.c = 50 ∧ v.k ≤ (i : Int))
  has : ∀ v ∈ A.units, v ∈ C.units
  len : C.units.length = A.units.length + i
theorem CpI.zero {A : SS} {n : Nat} (h : Inv A) (hz : Size A n) (hi : ∀ v ∈ A.units, v.c ≤ 4) : CpI A A n 0 := ⟨h, hz, fun v hv => .inl (hi v hv), fun v hv => hv, rfl⟩
def cpU (C : SS) (i : Nat) (m : Int) : Un := ⟨50, (i : Int) + 1, (C.at_ m).1.c, (C.at_ m).1.k, 0, 0⟩
theorem at_zero {C : SS} (h : Inv C) (m : Int) : C.at_ m = (.zero, false) ∨ ∃ v ∈ C.units, C.at_ m = (v, true) := by
  by_cases hm : m < 0 ∨ (C.units.length : Int) ≤ m
  · exact .inl (h.at_none m hm)
  · obtain ⟨k, rfl⟩ := Int.eq_ofNat_of_zero_le (show 0 ≤ m by omega)
    exact .inr ⟨_, List.getElem_mem (show k < C.units.length by omega), h.at_units k (by omega)⟩
theorem CpI.uok {A C : SS} {n i : Nat} (h : CpI A C n i) (m : Int) (hi : i ≤ 1000) : (cpU C i m).ok := by
  have key : 0 ≤ (C.at_ m).1.c ∧ 0 ≤ (C.at_ m).1.k ∧ (C.at_ m).1.k < 18446744073709551616 := by
    rcases at_zero h.inv m with e | ⟨v, hv, e⟩
    · rw [e]; exact ⟨Int.le_refl _, Int.le_refl _, by decide⟩
    · rw [e]
      have := h.inv.units_ok hv
      exact ⟨by show 0 ≤ v.c; omega, by show 0 ≤ v.k; omega, by show v.k < _; omega⟩
  exact ⟨by show (0 : Int) ≤ 50; omega, ⟨by show 0 ≤ (i : Int) + 1; omega, by show (i : Int) + 1 < _; omega⟩, key.1, ⟨key.2.1, key.2.2⟩, Int.le_refl _, ⟨Int.le_refl _, by show (0 : Int) < _; omega⟩⟩
theorem CpI.step {A C : SS} {n i : Nat} (h : CpI A C n i) (m : Int) (hn : n ≤ 1000) (hi : i ≤ 1000) : C.may (cpU C i m) 1 = true ∧ CpI A (C.run (cpU C i m) 1) n (i + 1) := by
  have hu := h.uok m hi
  have hm : C.may (cpU C i m) 1 = true := by
    refine h.inv.may_new (by show numOk 50 = true; decide) ?_ ?_ ⟨rfl, rfl⟩ ?_
    · show numOk ((i : Int) + 1) = true
      simp [numOk]; omega
    · intro v hv
      rintro ⟨e1, e2⟩
      have e1' : v.c = 50 := e1
      have e2' : v.k = (i : Int) + 1 := e2
      rcases h.ids v hv with e | e <;> omega
    · rcases at_zero h.inv m with e | ⟨v, hv, e⟩
      · left
        show (C.at_ m).1.c = 0 ∧ (C.at_ m).1.k = 0
        rw [e]; exact ⟨rfl, rfl⟩
      · right
        refine ⟨v, hv, ?_⟩
        show v.c = (C.at_ m).1.c ∧ v.k = (C.at_ m).1.k
        rw [e]; exact ⟨rfl, rfl⟩
  obtain ⟨a, b⟩ := h.inv.run1 hu h.size (by omega)
  obtain ⟨p, hp, _, e⟩ := h.inv.run_units hu hm (h.size.room (by omega) 1 (by omega))
  refine ⟨hm, a, by rw [Nat.add_assoc] at b; exact b, fun v hv => ?_, fun v hv => ?_, ?_⟩
  · rw [e] at hv
    have key : v ∈ C.units → v.c ≤ 4 ∨ (v.c = 50 ∧ v.k ≤ ((i + 1 : Nat) : Int)) := fun hv => by
      rcases h.ids v hv with e | e
      · exact .inl e
      · exact .inr ⟨e.1, by omega⟩
    rcases List.mem_append.1 hv with hv | hv
    · exact key (List.mem_of_mem_take hv)
    · rcases List.mem_cons.1 hv with rfl | hv
      · exact .inr ⟨rfl, by show (i : Int) + 1 ≤ _; omega⟩
      · exact key (List.mem_of_mem_drop hv)
  · have hc := h.has v hv
    rw [← List.take_append_drop p C.units] at hc
    rw [e]
    rcases List.mem_append.1 hc with hc | hc
    · exact List.mem_append_left _ hc
    · exact List.mem_append_right _ (List.mem_cons_of_mem _ hc)
  · rw [e]
    have h1 : (C.units.take p).length = p := by rw [List.length_take]; omega
    have h2 : (C.units.drop p).length = C.units.length - p := List.length_drop
    have h3 := h.len
    rw [List.length_append, List.length_cons, h1, h2]
    omega
theorem CpI.find {A C : SS} {n i : Nat} (h : CpI A C n i) {v : Un} (hv : v ∈ A.units) : 0 ≤ C.find v.c v.k := by
  obtain ⟨m, hm, rfl⟩ := List.mem_iff_getElem.1 (h.has v hv)
  rw [h.inv.find_units m hm]; omega
end Go.Proofs.Ytnbphdmpbjahhaa

/- Package seq: Run on a sequence side by side with others; what SeqRuns wants of runs (the second half has no Go in it). -/
namespace Go.Proofs.Ytnbphdmpbjahhaa
open Go.RowKit
set_option linter.unusedVariables false
set_option linter.unusedSimpArgs false
set_option maxRecDepth 100000

theorem run_low {S : SS} {u : Un} {n : Int} (hn : n < 1) : S.may u n = false ∧ S.run u n = S := by
  have : S.may u n = false := by
    cases hm : S.may u n with
    | false => rfl
    | true => have := (may_iff.1 hm).2.1; omega
  exact ⟨this, by unfold SS.run; rw [this]; rfl⟩
theorem Inv.runN {S : SS} (h : Inv S) {u : Un} (hu : u.ok) (n : Int) (hn : n ≤ 1000) {k : Nat} (hz : Size S k) (hk : k ≤ 100000) : Inv (S.run u n) ∧ Size (S.run u n) (k + n.toNat) := by
  by_cases h1 : n < 1
  · rw [(run_low h1).2]; exact ⟨h, hz.mono (by omega)⟩
  · have a := hz.tot
    have b := hz.pcs
    have c := hz.runs
    obtain ⟨r1, r2, r3, r4⟩ := h.runI (u := u) (n := n) hu (fun _ => by omega) (by omega) (by omega)
    refine ⟨r1, ?_, by omega, by omega⟩
    rw [r2]
    split <;> omega
theorem Sq1.runN {w0 w : World} {p : Nat} {B : Bk} {S : SS} (h : Sq1 w0 w p B S) (u : Un) (hu : u.ok) (n : Int) (hn : -1000 ≤ n ∧ n ≤ 1000) {k : Nat} (hz : Size S k) (hk : k ≤ 100000) :
    Calls Try.prog 11 #[.pointer (some ⟨p, 0, none⟩), .agg #[.int .u64 u.c, .int .u64 u.k, .int .u64 u.lc, .int .u64 u.lk, .int .u64 u.rc, .int .u64 u.rk], .int .i64 n] w fun e w' => e = .returned (.bool (S.may u n)) ∧ ∃ B', Sq1 w0 w' p B' (S.run u n) ∧ (∀ x, B'.has x → B.has x ∨ w.heap.size ≤ x) ∧ Touch B.has w w' := by
  have hp := h.at_
  subst hp
  refine (h.mem.run h.inv u hu n 1000 (by omega) (by omega) (by omega) (hz.room (by omega) 1000 (by omega))).mono ?_
  rintro e w' ⟨rfl, B', a, b, c, d⟩
  refine ⟨rfl, B', ⟨a, b, fun k hk => ?_, (h.inv.runN hu n hn.2 hz hk).1⟩, c, d⟩
  rcases c k hk with e | e
  · exact h.new k e
  · obtain ⟨c', hc⟩ := h.mem.blk
    have h1 := lt_of_heap hc
    have h2 := h.new B.b (.inl rfl)
    omega
/-- Two sequences, and a box of a unit. -/
def TwoB (w W : World) (pa pb m : Nat) (Sa Sb : SS) (u : Un) : Prop := Touch (fun _ => False) w W ∧ w.heap.size ≤ m ∧ W.heap[m]? = some (unO u) ∧ ∃ A B, Sq1 w W pa A Sa ∧ Sq1 w W pb B Sb ∧ ApartB A B
theorem TwoB.touch {w W W' : World} {pa pb m : Nat} {Sa Sb : SS} {u : Un} (h : TwoB w W pa pb m Sa Sb u) (t : Touch (fun _ => False) W W') : TwoB w W' pa pb m Sa Sb u := by
  obtain ⟨t0, hm, hb, A, B, a, b, c⟩ := h
  exact ⟨t0.trans t, hm, heap_keep t hb, A, B, a.touch t, b.touch t, c⟩
theorem TwoB.runA {w W : World} {pa pb m : Nat} {Sa Sb : SS} {v : Un} (h : TwoB w W pa pb m Sa Sb v) (u : Un) (hu : u.ok) (n : Int) (hn : -1000 ≤ n ∧ n ≤ 1000) {k : Nat} (hz : Size Sa k) (hk : k ≤ 100000) :
    Calls Try.prog 11 #[.pointer (some ⟨pa, 0, none⟩), .agg #[.int .u64 u.c, .int .u64 u.k, .int .u64 u.lc, .int .u64 u.lk, .int .u64 u.rc, .int .u64 u.rk], .int .i64 n] W fun e w' => e = .returned (.bool (Sa.may u n)) ∧ TwoB w w' pa pb m (Sa.run u n) Sb v := by
  obtain ⟨t0, hm, hb, A, B, a, b, c⟩ := h
  refine (a.runN u hu n hn hz hk).mono ?_
  rintro e w' ⟨rfl, A', h1, h2, t⟩
  exact ⟨rfl, a.touch0 t0 t, hm, (t.block _ (lt_of_heap hb) (a.mem.noBox hb)).trans hb, A', B, h1, b.other t c.symm, (b.apart c.symm h2).symm⟩
theorem TwoB.insB {w W : World} {pa pb m : Nat} {Sa Sb : SS} {v : Un} (h : TwoB w W pa pb m Sa Sb v) (u : Un) (hu : u.ok) {k : Nat} (hz : Size Sb k) (hk : k ≤ 100000) :
    Calls Try.prog 14 #[.pointer (some ⟨pb, 0, none⟩), .agg #[.int .u64 u.c, .int .u64 u.k, .int .u64 u.lc, .int .u64 u.lk, .int .u64 u.rc, .int .u64 u.rk]] W fun e w' => e = .returned (.bool (Sb.may u 1)) ∧ TwoB w w' pa pb m Sa (Sb.run u 1) v := by
  obtain ⟨t0, hm, hb, A, B, a, b, c⟩ := h
  refine (b.ins u hu hz (by omega)).mono ?_
  rintro e w' ⟨rfl, B', h1, h2, t⟩
  exact ⟨rfl, b.touch0 t0 t, hm, (t.block _ (lt_of_heap hb) (b.mem.noBox hb)).trans hb, A, B', a.other t c, h1, a.apart c h2⟩
/-- The box laid anew. -/
theorem TwoB.set {w W W' : World} {pa pb m : Nat} {Sa Sb : SS} {u v : Un} (h : TwoB w W pa pb m Sa Sb u) (t : Touch (fun y => y = m) W W') (hv : W'.heap[m]? = some (unO v)) : TwoB w W' pa pb m Sa Sb v := by
  obtain ⟨t0, hm, hb, A, B, a, b, c⟩ := h
  refine ⟨t0.then t fun y hy e => by omega, hm, hv, A, B, ⟨a.mem.keep t fun k hk e => ?_, a.at_, a.new, a.inv⟩, ⟨b.mem.keep t fun k hk e => ?_, b.at_, b.new, b.inv⟩, c⟩
  · rw [e] at hk; exact a.mem.noBox hb hk
  · rw [e] at hk; exact b.mem.noBox hb hk
theorem TwoB.lenA {w W : World} {pa pb m : Nat} {Sa Sb : SS} {u : Un} (h : TwoB w W pa pb m Sa Sb u) : Calls Try.prog 20 #[.pointer (some ⟨pa, 0, none⟩)] W fun e w' => e = .returned (.int .i64 (Sa.units.length : Int)) ∧ Touch (fun _ => False) W w' := by
  obtain ⟨t0, hm, hb, A, B, a, b, c⟩ := h
  exact a.len
theorem TwoB.lenB {w W : World} {pa pb m : Nat} {Sa Sb : SS} {u : Un} (h : TwoB w W pa pb m Sa Sb u) : Calls Try.prog 20 #[.pointer (some ⟨pb, 0, none⟩)] W fun e w' => e = .returned (.int .i64 (Sb.units.length : Int)) ∧ Touch (fun _ => False) W w' := by
  obtain ⟨t0, hm, hb, A, B, a, b, c⟩ := h
  exact b.len
theorem TwoB.findA {w W : World} {pa pb m : Nat} {Sa Sb : SS} {u : Un} (h : TwoB w W pa pb m Sa Sb u) (c k : Int) (hc : 0 ≤ c) (hk : 0 ≤ k) (hk2 : k < 18446744073709551616) : Calls Try.prog 19 #[.pointer (some ⟨pa, 0, none⟩), .agg #[.int .u64 c, .int .u64 k]] W fun e w' => e = .returned (.int .i64 (Sa.find c k)) ∧ Touch (fun _ => False) W w' := by
  obtain ⟨t0, hm, hb, A, B, a, b, _⟩ := h
  exact a.find c k hc hk hk2
theorem TwoB.atB {w W : World} {pa pb m : Nat} {Sa Sb : SS} {u : Un} (h : TwoB w W pa pb m Sa Sb u) (i : Int) (hi : -4611686018427387904 ≤ i ∧ i ≤ 4611686018427387904) : Calls Try.prog 21 #[.pointer (some ⟨pb, 0, none⟩), .int .i64 i] W fun e w' => e = .returned (.tuple #[.agg #[.int .u64 ((Sb.at_ i).1).c, .int .u64 ((Sb.at_ i).1).k, .int .u64 ((Sb.at_ i).1).lc, .int .u64 ((Sb.at_ i).1).lk, .int .u64 ((Sb.at_ i).1).rc, .int .u64 ((Sb.at_ i).1).rk], .bool (Sb.at_ i).2]) ∧ Touch (fun _ => False) W w' := by
  obtain ⟨t0, hm, hb, A, B, a, b, _⟩ := h
  exact b.at' i hi
theorem TwoB.box {w W : World} {pa pb m : Nat} {Sa Sb : SS} {u : Un} (h : TwoB w W pa pb m Sa Sb u) (v : Un) : TwoB w (W.alloc (unO v)) pa pb W.heap.size Sa Sb v := by
  obtain ⟨t0, hm, hb, A, B, a, b, c⟩ := h
  have t := (Touch.refl (fun _ => False) W).alloc (unO v)
  exact ⟨t0.trans t, t0.size, heap_alloc_new _ _, A, B, a.touch t, b.touch t, c⟩
theorem run_not {S : SS} {u : Un} {n : Int} (hm : S.may u n = false) : S.run u n = S := by unfold SS.run; rw [hm]; rfl
/-- A unit that is there isn't laid again. -/
theorem Inv.may_there {S : SS} (h : Inv S) {u : Un} (hu : ∃ v ∈ S.units, v.c = u.c ∧ v.k = u.k) : S.may u 1 = false := by
  obtain ⟨v, hv, e1, e2⟩ := hu
  cases hm : S.may u 1 with
  | false => rfl
  | true =>
    have h1 := (may_iff.1 hm).2.2.2.1
    have h2 := h.hasAny_true hv
    rw [e1, e2, h1] at h2
    cases h2
/-- Units without origins. -/
theorem Inv.may_free {S : SS} (h : Inv S) {u : Un} {n : Nat} (hn : 1 ≤ n) (hc : numOk u.c = true) (hk : numOk u.k = true) (hkn : (n : Int) - 1 ≤ 9007199254740991 - u.k) (hf : ∀ v ∈ S.units, v.k < u.k) (hl : u.lc = 0 ∧ u.lk = 0) (hr : u.rc = 0 ∧ u.rk = 0) : S.may u n = true := by
  have hc' : 1 ≤ u.c ∧ u.c ≤ 9007199254740991 := by simpa [numOk] using hc
  have hk' : 1 ≤ u.k ∧ u.k ≤ 9007199254740991 := by simpa [numOk] using hk
  refine may_iff.2 ⟨⟨hc, hk⟩, by omega, hkn, h.hasAny_false hc'.1 (by omega) (by omega) fun v hv hh => by have := hf v hv; omega, ?_⟩
  have h0 : S.find 0 0 = -1 := h.find_none (by omega) (by omega) fun v hv => by have := h.units_ok hv; omega
  have ht := h.total_nn
  unfold SS.between SS.rightOf
  rw [if_pos hr, hl.1, hl.2, h0, if_neg]
  rintro (⟨a, b⟩ | a)
  · exact b ⟨rfl, rfl⟩
  · omega
def tpU : Un := ⟨5, 9007199254740990, 0, 0, 0, 0⟩
theorem tpU_ok : tpU.ok := ⟨by decide, ⟨by decide, by decide⟩, by decide, ⟨by decide, by decide⟩, by decide, ⟨by decide, by decide⟩⟩
theorem tpU_three (S : SS) : S.may tpU 3 = false := by
  cases hm : S.may tpU 3 with
  | false => rfl
  | true =>
    have h1 := (may_iff.1 hm).2.2.1
    have h2 : (3 : Int) - 1 ≤ 9007199254740991 - 9007199254740990 := h1
    omega
/-- All that SeqRuns asks of a: behind the run, and behind the two units at the top. -/
structure RunA (S A1 A2 : SS) (u : Un) (p n : Nat) : Prop where
  may1 : S.may u n = true
  run1 : A1 = S.run u n
  inv1 : Inv A1
  size1 : Size A1 60
  again : A1.may u 1 = false
  find1 : ∀ j, j < n → A1.find u.c (u.k + (j : Int)) = ((p + j : Nat) : Int)
  notop : A1.find 5 9007199254740990 = -1
  may2 : A1.may tpU 2 = true
  run2 : A2 = A1.run tpU 2
  inv2 : Inv A2
  size2 : Size A2 62
  has : ∀ v, v ∈ S.units.take p ++ runUns u n ++ S.units.drop p → 0 ≤ A2.find v.c v.k
  len : A2.units.length = S.units.length + n + 2
theorem RunA.mk' {S : SS} (h : Inv S) (hz : Size S 40) {c k : Int} (hc : 1 ≤ c ∧ c ≤ 1000) (hk : 1 ≤ k ∧ k ≤ 100000) (hf : ∀ v ∈ S.units, v.k < k) {p n : Nat} (hp : p ≤ S.units.length) (hn : 1 ≤ n ∧ n ≤ 20) : RunA S (S.run (btU S c k p) n) ((S.run (btU S c k p) n).run tpU 2) (btU S c k p) p n := by
  have hu := btU_ok h c k hc.1 ⟨hk.1, by omega⟩ p
  obtain ⟨l1, l2, l3⟩ := btU_laid h hz (by omega) c k hc (by omega) p n hp (by omega) (fun v hv hh => by have := hf v hv; omega)
  obtain ⟨_, z1⟩ := h.runN hu (n : Int) (by omega) hz (by omega)
  have z1' : Size (S.run (btU S c k p) n) 60 := z1.mono (by omega)
  have htl : (S.units.take p).length = p := by rw [List.length_take]; omega
  have hkb : ∀ v ∈ (S.run (btU S c k p) n).units, v.k < 9007199254740990 := fun v hv => by
    rw [l3] at hv
    have old : v ∈ S.units → v.k < 9007199254740990 := fun hv => by have := hf v hv; omega
    rcases List.mem_append.1 hv with hv | hv
    · rcases List.mem_append.1 hv with hv | hv
      · exact old (List.mem_of_mem_take hv)
      · obtain ⟨q, hq, rfl⟩ := List.mem_map.1 hv
        have hq' := List.mem_range.1 hq
        rw [(runUn_c _ q).2.1]
        show k + (q : Int) < _
        omega
    · exact old (List.mem_of_mem_drop hv)
  have m2 : (S.run (btU S c k p) n).may tpU (2 : Nat) = true := l2.may_free (by omega) (by decide) (by decide) (by decide) hkb ⟨rfl, rfl⟩ ⟨rfl, rfl⟩
  obtain ⟨i2, z2⟩ := l2.runN tpU_ok 2 (by omega) z1' (by omega)
  obtain ⟨q, hq, _, e2⟩ := l2.run_unitsN tpU_ok (n := 2) (by omega) m2 (by have := z1'.pcs; omega)
  have e2' : ((S.run (btU S c k p) n).run tpU 2).units = (S.run (btU S c k p) n).units.take q ++ runUns tpU 2 ++ (S.run (btU S c k p) n).units.drop q := e2
  refine ⟨l1, rfl, l2, z1', ?_, ?_, ?_, m2, rfl, i2, z2.mono (by decide), ?_, ?_⟩
  · refine l2.may_there ⟨btU S c k p, ?_, rfl, rfl⟩
    rw [l3]
    refine List.mem_append_left _ (List.mem_append_right _ ?_)
    exact List.mem_map.2 ⟨0, List.mem_range.2 (by omega), rfl⟩
  · intro j hj
    have := find_run l2 l3 j hj
    rw [htl] at this
    exact this
  · exact l2.find_none (by omega) (by omega) fun v hv hh => by have := hkb v hv; omega
  · intro v hv
    have hv1 : v ∈ (S.run (btU S c k p) n).units := by rw [l3]; exact hv
    have hv2 : v ∈ ((S.run (btU S c k p) n).run tpU 2).units := by
      rw [e2']
      rw [← List.take_append_drop q (S.run (btU S c k p) n).units] at hv1
      rcases List.mem_append.1 hv1 with h | h
      · exact List.mem_append_left _ (List.mem_append_left _ h)
      · exact List.mem_append_right _ h
    obtain ⟨m, hm, rfl⟩ := List.mem_iff_getElem.1 hv2
    rw [i2.find_units m hm]; omega
  · have hl3 : (S.run (btU S c k p) n).units.length = S.units.length + n := by
      rw [l3, List.length_append, List.length_append, htl, runUns_len, List.length_drop]; omega
    rw [e2', List.length_append, List.length_append, runUns_len, List.length_take, List.length_drop]
    omega
/-- What b is behind i of the run's units, one by one. -/
structure RnI (S T : SS) (u : Un) (p i : Nat) : Prop where
  inv : Inv T
  size : Size T (40 + i)
  units : T.units = S.units.take p ++ runUns u i ++ S.units.drop p
theorem RnI.zero {S : SS} {u : Un} {p : Nat} (h : Inv S) (hz : Size S 40) : RnI S S u p 0 := ⟨h, hz, by simp [runUns]⟩
theorem runUn_ok {u : Un} (hu : u.ok) (hk : u.k ≤ 1000000) (hc : 1 ≤ u.c) (j : Nat) (hj : j ≤ 1000) : (runUn u j).ok := by
  have h1 := hu.k.1
  unfold runUn
  split
  · exact hu
  · exact ⟨hu.c, ⟨by show 0 ≤ u.k + (j : Int); omega, by show u.k + (j : Int) < _; omega⟩, hu.c, ⟨by show 0 ≤ u.k + (j : Int) - 1; omega, by show u.k + (j : Int) - 1 < _; omega⟩, hu.rc, hu.rk⟩
theorem RnI.step {S T : SS} {c k : Int} {p i : Nat} (hS : Inv S) (hc : 1 ≤ c ∧ c ≤ 1000) (hk : 1 ≤ k ∧ k ≤ 100000) (hf : ∀ v ∈ S.units, v.k < k) (hp : p ≤ S.units.length) (h : RnI S T (btU S c k p) p i) (hi : i ≤ 100) : (runUn (btU S c k p) i).ok ∧ T.may (runUn (btU S c k p) i) 1 = true ∧ RnI S (T.run (runUn (btU S c k p) i) 1) (btU S c k p) p (i + 1) := by
  have hu := btU_ok hS c k hc.1 ⟨hk.1, by omega⟩ p
  have hok : (runUn (btU S c k p) i).ok := runUn_ok hu (by show k ≤ 1000000; omega) hc.1 i (by omega)
  have htl : (S.units.take p).length = p := by rw [List.length_take]; omega
  have hrl : (runUns (btU S c k p) i).length = i := runUns_len _ _
  have hul : T.units.length = S.units.length + i := by
    rw [h.units, List.length_append, List.length_append, htl, hrl, List.length_drop]; omega
  have hget : ∀ q (hq : q < i), ∃ hq' : p + q < T.units.length, T.units[p + q] = runUn (btU S c k p) q := fun q hq => by
    refine ⟨by omega, ?_⟩
    have : T.units[p + q]? = some (runUn (btU S c k p) q) := by
      rw [h.units, List.append_assoc, List.getElem?_append_right (by omega), List.getElem?_append_left (by omega), htl, show p + q - p = q by omega, List.getElem?_eq_getElem (by omega), runUns_get]
    rw [List.getElem?_eq_getElem (by omega)] at this
    exact Option.some.inj this
  have hright : ∀ (hq : p + i < T.units.length), ∃ hq' : p < S.units.length, T.units[p + i] = S.units[p] := fun hq => by
    refine ⟨by omega, ?_⟩
    have : T.units[p + i]? = some S.units[p] := by
      rw [h.units, List.getElem?_append_right (by rw [List.length_append]; omega), List.length_append, htl, hrl, show p + i - (p + i) = 0 by omega, List.getElem?_drop, Nat.add_zero, List.getElem?_eq_getElem]
    rw [List.getElem?_eq_getElem hq] at this
    exact Option.some.inj this
  have hbet : (T.between (runUn (btU S c k p) i)).2.2 = true ∧ T.placeFor (runUn (btU S c k p) i) = ((p + i : Nat) : Int) := by
    obtain ⟨_, _, e3, e4⟩ := runUn_c (btU S c k p) i
    refine h.inv.between_at (by omega) ?_ ?_ ?_ ?_
    · intro e
      have hi0 : i = 0 := by omega
      subst hi0
      show (S.at_ ((p : Int) - 1)).1.c = 0 ∧ (S.at_ ((p : Int) - 1)).1.k = 0
      rw [hS.at_none _ (by omega)]; exact ⟨rfl, rfl⟩
    · intro q hq e
      by_cases hi0 : i = 0
      · subst hi0
        have hTS : T.units = S.units := by rw [h.units]; simp [runUns]
        show T.units[q].c = (S.at_ ((p : Int) - 1)).1.c ∧ T.units[q].k = (S.at_ ((p : Int) - 1)).1.k
        have hq' : q < S.units.length := by omega
        have e1 : T.units[q] = S.units[q] := by simp only [hTS]
        rw [e1, show (p : Int) - 1 = (q : Int) by omega, hS.at_units q hq']
        exact ⟨rfl, rfl⟩
      · obtain ⟨hq', e1⟩ := hget (i - 1) (by omega)
        have hqe : q = p + (i - 1) := by omega
        subst hqe
        rw [e1, (runUn_c _ _).1, (runUn_c _ _).2.1]
        unfold runUn
        rw [if_neg hi0]
        exact ⟨rfl, by show k + ((i - 1 : Nat) : Int) = k + (i : Int) - 1; omega⟩
    · intro e
      rw [e3, e4]
      show (S.at_ (p : Int)).1.c = 0 ∧ (S.at_ (p : Int)).1.k = 0
      rw [hS.at_none _ (by omega)]; exact ⟨rfl, rfl⟩
    · intro hq
      obtain ⟨hq', e1⟩ := hright hq
      rw [e1, e3, e4]
      show S.units[p].c = (S.at_ (p : Int)).1.c ∧ S.units[p].k = (S.at_ (p : Int)).1.k
      rw [hS.at_units p hq']
      exact ⟨rfl, rfl⟩
  have hnew : ∀ v ∈ T.units, ¬ (v.c = (runUn (btU S c k p) i).c ∧ (runUn (btU S c k p) i).k ≤ v.k ∧ v.k < (runUn (btU S c k p) i).k + 1) := fun v hv => by
    obtain ⟨e1, e2, _, _⟩ := runUn_c (btU S c k p) i
    rw [e1, e2]
    have ek : (btU S c k p).k = k := rfl
    have old : v ∈ S.units → ¬ (v.c = (btU S c k p).c ∧ (btU S c k p).k + (i : Int) ≤ v.k ∧ v.k < (btU S c k p).k + (i : Int) + 1) := fun hv => by
      have := hf v hv
      omega
    rw [h.units] at hv
    rcases List.mem_append.1 hv with hv | hv
    · rcases List.mem_append.1 hv with hv | hv
      · exact old (List.mem_of_mem_take hv)
      · obtain ⟨q, hq, rfl⟩ := List.mem_map.1 hv
        have hq' := List.mem_range.1 hq
        rw [(runUn_c _ q).2.1]
        omega
    · exact old (List.mem_of_mem_drop hv)
  have hmay : T.may (runUn (btU S c k p) i) 1 = true := by
    obtain ⟨e1, e2, _, _⟩ := runUn_c (btU S c k p) i
    have ec : (btU S c k p).c = c := rfl
    have ek : (btU S c k p).k = k := rfl
    refine may_iff.2 ⟨⟨?_, ?_⟩, Int.le_refl _, ?_, ?_, hbet.1⟩
    · rw [e1, ec]; simp [numOk]; omega
    · rw [e2, ek]; simp [numOk]; omega
    · rw [e2, ek]; omega
    · exact h.inv.hasAny_false (by rw [e1, ec]; omega) (by rw [e2, ek]; omega) (Int.le_refl _) hnew
  obtain ⟨r1, r2⟩ := h.inv.run1 hok h.size (by omega)
  obtain ⟨q, hq, eq, eu⟩ := h.inv.run_units hok hmay (h.size.room (by omega) 1 (by omega))
  have hqp : q = p + i := by omega
  subst hqp
  refine ⟨hok, hmay, r1, by rw [Nat.add_assoc] at r2; exact r2, ?_⟩
  have htake : T.units.take (p + i) = S.units.take p ++ runUns (btU S c k p) i := by
    rw [h.units]
    exact List.take_left' (by rw [List.length_append]; omega)
  have hdrop : T.units.drop (p + i) = S.units.drop p := by
    rw [h.units]
    exact List.drop_left' (by rw [List.length_append]; omega)
  rw [eu, htake, hdrop, runUns_succ]
  simp only [List.append_assoc, List.singleton_append]
end Go.Proofs.Ytnbphdmpbjahhaa
