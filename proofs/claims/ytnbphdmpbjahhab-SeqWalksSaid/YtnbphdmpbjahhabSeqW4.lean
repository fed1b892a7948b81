/- Package seq: lay. -/
import Derived.Test.YtnbphdmpbjahhabSeqW2
import Derived.Test.YtnbphdmpbjahhabPart17
namespace Go.Proofs.Ytnbphdmpbjahhab
open Go.RowKit
set_option linter.unusedVariables false
set_option linter.unusedSimpArgs false
set_option maxRecDepth 100000

theorem un_cases {a b : Un} (h : a ≠ b) : (a.c == b.c) = false ∨ ((a.c == b.c) = true ∧ (a.k == b.k) = false) ∨ ((a.c == b.c) = true ∧ (a.k == b.k) = true ∧ (a.lc == b.lc) = false) ∨ ((a.c == b.c) = true ∧ (a.k == b.k) = true ∧ (a.lc == b.lc) = true ∧ (a.lk == b.lk) = false) ∨ ((a.c == b.c) = true ∧ (a.k == b.k) = true ∧ (a.lc == b.lc) = true ∧ (a.lk == b.lk) = true ∧ (a.rc == b.rc) = false) ∨ ((a.c == b.c) = true ∧ (a.k == b.k) = true ∧ (a.lc == b.lc) = true ∧ (a.lk == b.lk) = true ∧ (a.rc == b.rc) = true ∧ (a.rk == b.rk) = false) := by
  obtain ⟨a1, a2, a3, a4, a5, a6⟩ := a
  obtain ⟨b1, b2, b3, b4, b5, b6⟩ := b
  simp only [ne_eq, Un.mk.injEq, not_and] at h
  simp only [beq_eq_false_iff_ne, beq_iff_eq, ne_eq]
  by_cases h1 : a1 = b1
  · by_cases h2 : a2 = b2
    · by_cases h3 : a3 = b3
      · by_cases h4 : a4 = b4
        · by_cases h5 : a5 = b5
          · exact .inr (.inr (.inr (.inr (.inr ⟨h1, h2, h3, h4, h5, h h1 h2 h3 h4 h5⟩))))
          · exact .inr (.inr (.inr (.inr (.inl ⟨h1, h2, h3, h4, h5⟩))))
        · exact .inr (.inr (.inr (.inl ⟨h1, h2, h3, h4⟩)))
      · exact .inr (.inr (.inl ⟨h1, h2, h3⟩))
    · exact .inr (.inl ⟨h1, h2⟩)
  · exact .inl h1
theorem cut_runs (S : SS) (p : Int) : (S.cut p).runs = S.runs := by unfold SS.cut; split <;> rfl
theorem cut_pcs (S : SS) (p : Int) : S.pcs.length ≤ (S.cut p).pcs.length := by
  unfold SS.cut
  split
  · show S.pcs.length ≤ (S.pcs ++ [_]).length
    simp
  · exact Nat.le_refl _
set_option maxHeartbeats 32000000 in
theorem lay_any {w : World} {B : Bk} {S : SS} (h : SeqM w B S) (hI : Inv S) (place : Int) (hI1 : Inv (S.cut place)) (hp : 0 ≤ place ∧ place ≤ S.total) (u : Un) (hu : u.ok) (hu1 : 1 ≤ u.c) (p : Sp) (hpr : p.run < S.runs.length) (n : Int) (hn : 0 ≤ n ∧ n ≤ 9007199254740992) (hs : (S.cut place).total + n ≤ 1152921504606846976) :
    Calls Try.prog 36 #[sP B, iV place, .agg #[u64 (u).c, u64 (u).k, u64 (u).lc, u64 (u).lk, u64 (u).rc, u64 (u).rk], .agg #[iV ((p).run : Int), u64 (p).pos], iV n] w fun e w' => e = .returned (.tuple #[]) ∧ Laid w w' B (S.lay place u p n) := by
  obtain ⟨E, hE⟩ : ∃ E, Hid (E = (w.alloc (unO u)).alloc (spO p)) := ⟨_, Eq.refl _⟩
  have HTE : Hid (Touch (fun _ => False) w E) := by rw [hE.out]; exact ((Touch.refl _ _).alloc _).alloc _
  have HEB : Hid (E.heap[w.heap.size]? = some (unO u) ∧ E.heap[w.heap.size + 1]? = some (spO p)) := by rw [hE.out]; exact heap_two _ _ _
  have HCut : Hid (Calls Try.prog 58 #[sP B, iV place] E fun e w' => e = .returned (iV (S.cutAt place : Int)) ∧ Laid E w' B (S.cut place)) := cut_any (h.keep0 HTE.out) hI place hp
  have hal : S.cutAt place < (S.cut place).pcs.length := Nat.lt_of_lt_of_le (hI.atOk (place - 1)).1 (cut_pcs S place)
  obtain ⟨he1, he2, he3⟩ := hI1.endOk hal
  have hpo := hI1.pcOk hal
  have HEn : Hid (∀ W B1, SeqM W B1 (S.cut place) → B1.b = B.b → Calls Try.prog 59 #[sP B, iV (S.cutAt place : Int)] W fun e w' => e = .returned (.agg #[iV (((S.cut place).endOf (S.cutAt place)).run : Int), u64 ((S.cut place).endOf (S.cutAt place)).pos]) ∧ Touch (fun _ => False) W w') := fun W B1 hW hb => by
    have := endOf_any hW (S.cutAt place) hal hpo.2.1 ⟨hpo.2.2.2.2, by have := hpo.2.2.1; have := hpo.2.2.2.1; omega⟩
    rw [show sP B = sP B1 from by rw [sP, sP, hb]]
    exact this
  have HUn : Hid (∀ W B1, SeqM W B1 (S.cut place) → B1.b = B.b → Calls Try.prog 25 #[sP B, .agg #[iV (((S.cut place).endOf (S.cutAt place)).run : Int), u64 ((S.cut place).endOf (S.cutAt place)).pos]] W fun e w' => e = .returned (.agg #[u64 ((S.cut place).unit ((S.cut place).endOf (S.cutAt place))).c, u64 ((S.cut place).unit ((S.cut place).endOf (S.cutAt place))).k, u64 ((S.cut place).unit ((S.cut place).endOf (S.cutAt place))).lc, u64 ((S.cut place).unit ((S.cut place).endOf (S.cutAt place))).lk, u64 ((S.cut place).unit ((S.cut place).endOf (S.cutAt place))).rc, u64 ((S.cut place).unit ((S.cut place).endOf (S.cutAt place))).rk]) ∧ Touch (fun _ => False) W w') := fun W B1 hW hb => by
    rw [show sP B = sP B1 from by rw [sP, sP, hb]]
    exact hW.unit he1
  have HLay : Hid (((S.cut place).unit ((S.cut place).endOf (S.cutAt place)) = u → S.lay place u p n = (S.cut place).grow (S.cutAt place) n) ∧ (¬ (S.cut place).unit ((S.cut place).endOf (S.cutAt place)) = u → S.lay place u p n = ((S.cut place).addRun u p).addPiece (S.cutAt place) ((S.cut place).piece u.c u.k) ⟨S.runs.length, 0⟩ n)) := ⟨fun e => if_pos e, fun e => if_neg e⟩
  have hi0 : (S.cut place).unit ((S.cut place).endOf (S.cutAt place)) = u → S.cutAt place ≠ 0 := fun e e0 => by
    rw [e0] at e
    have e1 : (S.cut place).endOf 0 = .zero := by unfold SS.endOf; rw [hI1.p0, hI1.ordF.zero]; rfl
    rw [e1] at e
    have : ((S.cut place).unit .zero).c = (rn (S.cut place).runs 0).first.c := unitR_c _ _
    rw [e, hI1.root] at this
    have : u.c = 0 := this
    omega
  have HGr : Hid ((S.cut place).unit ((S.cut place).endOf (S.cutAt place)) = u → ∀ W B1, SeqM W B1 (S.cut place) → B1.b = B.b → Calls Try.prog 60 #[rP B.b 2, iV (S.cutAt place : Int), iV n] W fun e w' => e = .returned (.tuple #[]) ∧ SeqM w' B1 ((S.cut place).grow (S.cutAt place) n) ∧ Touch B1.has W w') := fun e W B1 hW hb => by
    rw [← hb]
    exact hW.grow (by omega) _ hal (hi0 e) n (by have := hI1.ordF.long (S.cutAt place); omega) ⟨by omega, by omega⟩
  have HPc : Hid (∀ W B1, SeqM W B1 (S.cut place) → B1.b = B.b → Calls Try.prog 28 #[sP B, .agg #[u64 u.c, u64 u.k]] W fun e w' => e = .returned (iV ((S.cut place).piece u.c u.k : Int)) ∧ Touch (fun _ => False) W w') := fun W B1 hW hb => by
    rw [show sP B = sP B1 from by rw [sP, sP, hb]]
    exact pieceOf_any hW hI1 u.c u.k
  have HAr : Hid (∀ W B1, SeqM W B1 (S.cut place) → B1.b = B.b → Calls Try.prog 62 #[sP B, .agg #[u64 (u).c, u64 (u).k, u64 (u).lc, u64 (u).lk, u64 (u).rc, u64 (u).rk], .agg #[iV ((p).run : Int), u64 (p).pos]] W fun e w' => e = .returned (.agg #[iV (S.runs.length : Int), u64 0]) ∧ Laid W w' B1 ((S.cut place).addRun u p)) := fun W B1 hW hb => by
    rw [show sP B = sP B1 from by rw [sP, sP, hb]]
    have := addRun_any hW hI1 u p (by rw [cut_runs]; exact hpr)
    rw [cut_runs] at this
    exact this
  have HAp : Hid (∀ W B1, SeqM W B1 ((S.cut place).addRun u p) → B1.b = B.b → Calls Try.prog 61 #[sP B, iV (S.cutAt place : Int), iV ((S.cut place).piece u.c u.k : Int), .agg #[iV (S.runs.length : Int), u64 0], iV n] W fun e w' => e = .returned (.tuple #[]) ∧ Laid W w' B1 (((S.cut place).addRun u p).addPiece (S.cutAt place) ((S.cut place).piece u.c u.k) ⟨S.runs.length, 0⟩ n)) := fun W B1 hW hb => by
    rw [show sP B = sP B1 from by rw [sP, sP, hb]]
    exact addPiece_any hW _ _ ⟨S.runs.length, 0⟩ n hal (hI1.piece_lt _ _) hn.1 hs hI1.pmax
  have HBox : Hid (∀ (B1 : Bk), (∀ x, B1.has x → B.has x ∨ E.heap.size ≤ x) → ∀ k, w.heap.size ≤ k → k < E.heap.size → ¬ B1.has k) := fun B1 f k hk1 hk2 hb => by
    rcases f k hb with e | e
    · have := h.lt e
      omega
    · omega
  have hes : E.heap.size = w.heap.size + 1 + 1 := by rw [hE.out]; simp
  have HEs : Hid (E.heap.size = w.heap.size + 1 + 1) := hes
  clear hes
  obtain ⟨L', hL'⟩ : ∃ s, Hid (s = S.lay place u p n) := ⟨_, Eq.refl _⟩
  rw [← hL'.out] at HLay ⊢
  obtain ⟨fu, hfu⟩ : ∃ x, Hid (x = (S.cut place).unit ((S.cut place).endOf (S.cutAt place))) := ⟨_, Eq.refl _⟩
  rw [← hfu.out] at HUn HLay HGr
  have hcs : u ≠ u ∨ True := .inr trivial
  generalize ((S.cut place).addRun u p).addPiece (S.cutAt place) ((S.cut place).piece u.c u.k) ⟨S.runs.length, 0⟩ n = Sf at *
  generalize (S.cut place).addRun u p = Sr at *
  generalize (S.cut place).grow (S.cutAt place) n = Sg at *
  generalize (S.cut place).endOf (S.cutAt place) = ef at *
  generalize (S.cut place).piece u.c u.k = py at *
  generalize S.cut place = S1 at *
  generalize S.cutAt place = i at *
  generalize S.runs.length = nr at *
  have HNe : Hid (fu ≠ u → _) := un_cases (a := fu) (b := u)
  have HEq : Hid (fu = u → L' = Sg) := HLay.out.1
  have HNq : Hid (fu ≠ u → L' = Sf) := HLay.out.2
  clear h hI hI1 hal he1 he2 he3 hpo hp hn hs hpr hi0 hu hu1 hL' HLay hcs hfu
  obtain ⟨er, ep⟩ := ef
  obtain ⟨pr, pp⟩ := p
  obtain ⟨uc, uk, ulc, ulk, urc, urk⟩ := u
  obtain ⟨fc, fk, flc, flk, frc, frk⟩ := fu
  simp only at hE HEB HEn HUn HPc HAr HNe ⊢
  go_enter Try.func36, Try.ntmps36
  go_upto_region 1 with fail
  rw [← hE.out]
  clear hE
  obtain ⟨m, hm⟩ : ∃ m, Hid (m = w.heap.size) := ⟨_, Eq.refl _⟩
  rw [← hm.out] at HEB ⊢
  go_wp2_with fail
  refine HCut.out.mono ?_
  rintro e W1 ⟨rfl, l1⟩
  clear HCut
  obtain ⟨B1, m1, b1, f1, t1⟩ := l1
  have H1 : Hid (SeqM W1 B1 S1 ∧ B1.b = B.b ∧ (∀ x, B1.has x → B.has x ∨ E.heap.size ≤ x) ∧ Touch B.has E W1) := ⟨m1, b1, f1, t1⟩
  have HU : Hid (∀ W : World, W.heap[m]? = some (unO ⟨uc, uk, ulc, ulk, urc, urk⟩) → W.heap[m + 1]? = some (spO ⟨pr, pp⟩) → (W.cell? ⟨m, 0, none⟩ = some (u64 uc) ∧ W.cell? ⟨m, 1, none⟩ = some (u64 uk) ∧ W.cell? ⟨m, 2, none⟩ = some (u64 ulc) ∧ W.cell? ⟨m, 3, none⟩ = some (u64 ulk) ∧ W.cell? ⟨m, 4, none⟩ = some (u64 urc) ∧ W.cell? ⟨m, 5, none⟩ = some (u64 urk)) ∧ W.cell? ⟨m + 1, 0, none⟩ = some (iV (pr : Int)) ∧ W.cell? ⟨m + 1, 1, none⟩ = some (u64 pp)) := fun W h1 h2 => ⟨unO_cells h1, (spO_cells h2).1, (spO_cells h2).2.1⟩
  have HW1 : Hid (W1.heap[m]? = some (unO ⟨uc, uk, ulc, ulk, urc, urk⟩) ∧ W1.heap[m + 1]? = some (spO ⟨pr, pp⟩)) := by
    have hk := HBox.out B (fun x hx => .inl hx)
    have hz := HEs.out
    have hmm := hm.out
    exact ⟨(t1.block m (by omega) (hk m (by omega) (by omega))).trans HEB.out.1, (t1.block (m + 1) (by omega) (hk (m + 1) (by omega) (by omega))).trans HEB.out.2⟩
  clear m1 b1 f1 t1
  have s0 := (HU.out W1.drew HW1.out.1 HW1.out.2).1
  go_upto_region 2 with fail
  have HBx : Hid (∀ W, Touch (fun _ => False) W1 W → W.heap[m]? = some (unO ⟨uc, uk, ulc, ulk, urc, urk⟩) ∧ W.heap[m + 1]? = some (spO ⟨pr, pp⟩)) := fun W t => ⟨heap_keep t HW1.out.1, heap_keep t HW1.out.2⟩
  by_cases hq : (⟨fc, fk, flc, flk, frc, frk⟩ : Un) = ⟨uc, uk, ulc, ulk, urc, urk⟩
  · have HL : Hid (L' = Sg) := HEq.out hq
    have HG2 : Hid (∀ W B1, SeqM W B1 S1 → B1.b = B.b → Calls Try.prog 60 #[rP B.b 2, iV (i : Int), iV n] W fun e w' => e = .returned (.tuple #[]) ∧ SeqM w' B1 Sg ∧ Touch B1.has W w') := HGr.out hq
    simp only [Un.mk.injEq] at hq
    obtain ⟨rfl, rfl, rfl, rfl, rfl, rfl⟩ := hq
    clear HNe HEq HNq HGr HPc HAr HAp
    go_region_held3 (fun W => W.cell? ⟨m, 0, none⟩ = some (u64 fc) ∧ W.cell? ⟨m, 1, none⟩ = some (u64 fk) ∧ W.cell? ⟨m, 2, none⟩ = some (u64 flc) ∧ W.cell? ⟨m, 3, none⟩ = some (u64 flk) ∧ W.cell? ⟨m, 4, none⟩ = some (u64 frc) ∧ W.cell? ⟨m, 5, none⟩ = some (u64 frk)) (first | assumption)
      (first
        | (go_at_call 59; (with_reducible refine (HEn.out _ _ (H1.out.1.keep0 (Touch.refl _ W1).drew) H1.out.2.1).mono ?_); rintro e W2 ⟨rfl, t2⟩; have HT2 : Hid (Touch (fun _ => False) W1 W2) := (Touch.refl _ W1).drew.trans t2; have s2 := (HU.out W2 (HBx.out W2 HT2.out).1 (HBx.out W2 HT2.out).2).1; clear t2)
        | (go_at_call 25; (with_reducible refine (HUn.out _ _ (H1.out.1.keep0 HT2.out) H1.out.2.1).mono ?_); rintro e W3 ⟨rfl, t3⟩; have HT3 : Hid (Touch (fun _ => False) W1 W3) := HT2.out.trans t3; have s3 := (HU.out W3 (HBx.out W3 HT3.out).1 (HBx.out W3 HT3.out).2).1; clear t3))
    all_goals
      go_wp2_with fail
      refine (HG2.out _ _ (H1.out.1.keep0 HT3.out) H1.out.2.1).mono ?_
      rintro e W4 ⟨rfl, m4, t4⟩
      have HF : Hid (Laid w W4 B L') := by
        rw [HL.out]
        refine Laid.after0 HTE.out ?_
        refine Laid.step (B1 := B1) (w1 := W3) (S1 := S1) ⟨H1.out.1.keep0 HT3.out, H1.out.2.1, H1.out.2.2.1, H1.out.2.2.2.trans (HT3.out.mono fun _ _ e => False.elim e)⟩ ?_
        exact ⟨B1, m4, rfl, fun x hx => .inl hx, t4⟩
      clear m4 t4
      go_wp2_with fail
      refine bodyPost_ret (v := .tuple #[]) (by simp [results, Try.results36, go_sem]) rfl ?_
      exact ⟨rfl, HF.out⟩
  · have HL : Hid (L' = Sf) := HNq.out hq
    have hne := HNe.out hq
    clear HNe HEq HNq HGr hq
    have HFx : Hid (∀ W1' W5 W6 B5, Touch (fun _ => False) W1 W1' → Laid W1' W5 B1 Sr → SeqM W5 B5 Sr ∧ B5.b = B1.b ∧ (∀ x, B5.has x → B1.has x ∨ W1'.heap.size ≤ x) ∧ Touch B1.has W1' W5 → Laid W5 W6 B5 Sf → Laid w W6 B L') := fun W1' W5 W6 B5 t0 _ l5 l6 => by
      rw [HL.out]
      refine Laid.after0 HTE.out ?_
      refine Laid.step (B1 := B1) (w1 := W1') (S1 := S1) ⟨H1.out.1.keep0 t0, H1.out.2.1, H1.out.2.2.1, H1.out.2.2.2.trans (t0.mono fun _ _ e => False.elim e)⟩ ?_
      exact Laid.step l5 l6
    go_cut [20] (fun t wx => t = .bool false ∧ Hid (Touch (fun _ => False) W1 wx))
    case first =>
      rcases hne with e1 | ⟨e1, e2⟩ | ⟨e1, e2, e3⟩ | ⟨e1, e2, e3, e4⟩ | ⟨e1, e2, e3, e4, e5⟩ | ⟨e1, e2, e3, e4, e5, e6⟩
      all_goals
        go_wp2_with fail
        go_region_held3 (fun W => (W.cell? ⟨m, 0, none⟩ = some (u64 uc) ∧ W.cell? ⟨m, 1, none⟩ = some (u64 uk) ∧ W.cell? ⟨m, 2, none⟩ = some (u64 ulc) ∧ W.cell? ⟨m, 3, none⟩ = some (u64 ulk) ∧ W.cell? ⟨m, 4, none⟩ = some (u64 urc) ∧ W.cell? ⟨m, 5, none⟩ = some (u64 urk))) (first | assumption)
          (first
            | (go_at_call 59; (with_reducible refine (HEn.out _ _ (H1.out.1.keep0 (Touch.refl _ W1).drew) H1.out.2.1).mono ?_); rintro e W2 ⟨rfl, t2⟩; have HT2 : Hid (Touch (fun _ => False) W1 W2) := (Touch.refl _ W1).drew.trans t2; have s2 := (HU.out W2 (HBx.out W2 HT2.out).1 (HBx.out W2 HT2.out).2).1; clear t2)
            | (go_at_call 25; (with_reducible refine (HUn.out _ _ (H1.out.1.keep0 HT2.out) H1.out.2.1).mono ?_); rintro e W3 ⟨rfl, t3⟩; have HT3 : Hid (Touch (fun _ => False) W1 W3) := HT2.out.trans t3; have s3 := (HU.out W3 (HBx.out W3 HT3.out).1 (HBx.out W3 HT3.out).2).1; clear t3))
        all_goals (try go_wp2_with fail)
        all_goals go_meet
        all_goals (case rel => exact ⟨rfl, HT3.out⟩)
    case rest =>
      obtain ⟨rfl, HT3⟩ := hcut
      obtain ⟨W3, hW3⟩ : ∃ we, we = wc := ⟨_, rfl⟩
      subst hW3
      clear s0 hne
      have H3 : Hid (SeqM W3 B1 S1 ∧ B1.b = B.b) := ⟨H1.out.1.keep0 HT3.out, H1.out.2.1⟩
      have HB3 : Hid (∀ W, Touch (fun _ => False) W3 W → W.heap[m]? = some (unO ⟨uc, uk, ulc, ulk, urc, urk⟩) ∧ W.heap[m + 1]? = some (spO ⟨pr, pp⟩)) := fun W t => HBx.out W (HT3.out.trans t)
      have HB5 : Hid (∀ W5 W6, Touch (fun _ => False) W3 W5 → Touch B1.has W5 W6 → W6.heap[m]? = some (unO ⟨uc, uk, ulc, ulk, urc, urk⟩) ∧ W6.heap[m + 1]? = some (spO ⟨pr, pp⟩)) := fun W5 W6 t5 t6 => by
        have hk := HBox.out B1 H1.out.2.2.1
        have hz := HEs.out
        have hmm := hm.out
        have a := HB3.out W5 t5
        exact ⟨(t6.block m (lt_of_heap a.1) (hk m (by omega) (by omega))).trans a.1, (t6.block (m + 1) (lt_of_heap a.2) (hk (m + 1) (by omega) (by omega))).trans a.2⟩
      have HB7 : Hid (∀ W5 W6 W7 B6, Touch (fun _ => False) W3 W5 → Touch B1.has W5 W6 → (∀ x, B6.has x → B1.has x ∨ W5.heap.size ≤ x) → Touch (Bk.has B6) W6 W7 → W7.heap[m]? = some (unO ⟨uc, uk, ulc, ulk, urc, urk⟩) ∧ W7.heap[m + 1]? = some (spO ⟨pr, pp⟩)) := fun W5 W6 W7 B6 t5 t6 f6 t7 => by
        have hk := HBox.out B1 H1.out.2.2.1
        have hz := HEs.out
        have hmm := hm.out
        have a := HB5.out W5 W6 t5 t6
        have a5 := HB3.out W5 t5
        have l5 := lt_of_heap a5.1
        have l6 := lt_of_heap a5.2
        refine ⟨(t7.block m (lt_of_heap a.1) fun e => ?_).trans a.1, (t7.block (m + 1) (lt_of_heap a.2) fun e => ?_).trans a.2⟩
        · rcases f6 m e with e | e
          · exact hk m (by omega) (by omega) e
          · omega
        · rcases f6 (m + 1) e with e | e
          · exact hk (m + 1) (by omega) (by omega) e
          · omega
      have s0 := HU.out W3.drew (HB3.out _ (Touch.refl _ W3).drew).1 (HB3.out _ (Touch.refl _ W3).drew).2
      clear HEn HUn
      go_upto_region 4 with fail
      go_region_held3 (fun W => (W.cell? ⟨m, 0, none⟩ = some (u64 uc) ∧ W.cell? ⟨m, 1, none⟩ = some (u64 uk) ∧ W.cell? ⟨m, 2, none⟩ = some (u64 ulc) ∧ W.cell? ⟨m, 3, none⟩ = some (u64 ulk) ∧ W.cell? ⟨m, 4, none⟩ = some (u64 urc) ∧ W.cell? ⟨m, 5, none⟩ = some (u64 urk)) ∧ W.cell? ⟨m + 1, 0, none⟩ = some (iV (pr : Int)) ∧ W.cell? ⟨m + 1, 1, none⟩ = some (u64 pp)) (first | assumption)
        (first
          | (go_at_call 28; (with_reducible refine (HPc.out _ _ (H3.out.1.keep0 (Touch.refl _ W3).drew) H3.out.2).mono ?_); rintro e W4 ⟨rfl, t4⟩; have HT4 : Hid (Touch (fun _ => False) W3 W4) := (Touch.refl _ W3).drew.trans t4; have s4 := HU.out W4 (HB3.out W4 HT4.out).1 (HB3.out W4 HT4.out).2; clear t4)
          | (go_at_call 62; (with_reducible refine (HAr.out _ _ (H3.out.1.keep0 HT4.out) H3.out.2).mono ?_); rintro e W5 ⟨rfl, l5⟩; obtain ⟨B5, m5, b5, f5, t5⟩ := l5; have H5 : Hid (SeqM W5 B5 Sr ∧ B5.b = B1.b ∧ (∀ x, B5.has x → B1.has x ∨ W4.heap.size ≤ x) ∧ Touch B1.has W4 W5) := ⟨m5, b5, f5, t5⟩; have s5 := HU.out W5 (HB5.out W4 W5 HT4.out t5).1 (HB5.out W4 W5 HT4.out t5).2; clear m5 b5 f5 t5)
          | (go_at_call 61; (with_reducible refine (HAp.out _ _ H5.out.1 (H5.out.2.1.trans H3.out.2)).mono ?_); rintro e W6 ⟨rfl, l6⟩; have HF : Hid (Laid w W6 B L') := HFx.out W4 W5 W6 B5 (HT3.out.trans HT4.out) ⟨B5, H5.out⟩ H5.out l6; obtain ⟨B6, m6, b6, f6, t6⟩ := l6; have s6 := HU.out W6 (HB7.out W4 W5 W6 B5 HT4.out H5.out.2.2.2 H5.out.2.2.1 t6).1 (HB7.out W4 W5 W6 B5 HT4.out H5.out.2.2.2 H5.out.2.2.1 t6).2; clear m6 b6 f6 t6))
      all_goals (try go_wp2_with fail)
      all_goals go_end0
      all_goals exact ⟨rfl, HF.out⟩
end Go.Proofs.Ytnbphdmpbjahhab
