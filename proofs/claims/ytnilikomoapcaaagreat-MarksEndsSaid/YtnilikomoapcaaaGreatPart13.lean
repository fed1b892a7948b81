/- Package seq: endOf. -/
import Derived.Test.YtnilikomoapcaaaGreatPart9
import Derived.Test.YtnilikomoapcaaaGreatSeqW1
import Derived.Test.YtnilikomoapcaaaGreatPart11
import Derived.Test.YtnilikomoapcaaaGreatSeqW2
namespace Go.Proofs.YtnilikomoapcaaaGreat
open Go.RowKit
set_option linter.unusedVariables false
set_option linter.unusedSimpArgs false
set_option maxRecDepth 100000

set_option maxHeartbeats 8000000 in
theorem endOf_any {w : World} {B : Bk} {S : SS} (h : SeqM w B S) (i : Nat) (hi : i < S.pcs.length) (h0 : 0 ≤ (S.pc i).pos) (hb : 0 ≤ S.len i ∧ (S.pc i).pos + S.len i ≤ 9007199254740992) :
    Calls Tryz.prog 52 #[sP B, iV (i : Int)] w fun e w' => e = .returned (.agg #[iV ((S.endOf i).run : Int), u64 (S.endOf i).pos]) ∧ Touch (fun _ => False) w w' := by
  obtain ⟨E, hE⟩ : ∃ E, Hid (E = w.alloc zeroSO) := ⟨_, Eq.refl _⟩
  have HTE : Hid (Touch (fun _ => False) w E) := by rw [hE.out]; exact (Touch.refl _ _).alloc _
  have HEB : Hid (E.heap[w.heap.size]? = some (spO ⟨0, 0⟩)) := by rw [hE.out]; exact heap_alloc_new _ _
  have HC : Hid (∀ W, Touch (fun _ => False) E W → W.cell? ⟨B.b, 1, none⟩ = some (.slice (some ⟨B.gp, 0, none⟩) S.pcs.length B.kp) ∧ W.cell? ⟨B.gp, i * 2, none⟩ = some (iV ((S.pc i).run : Int)) ∧ W.cell? ⟨B.gp, i * 2 + 1, none⟩ = some (u64 (S.pc i).pos)) := fun W t => by
    have hW := h.keep0 (HTE.out.trans t)
    exact ⟨hW.pcs.cell, hW.pc hi⟩
  have HLn : Hid (∀ W, Touch (fun _ => False) E W → Calls Tryz.prog 39 #[rP B.b 2, iV (i : Int)] W fun e w' => e = .returned (iV (S.len i)) ∧ w' = W) := fun W t => r_lengthOf (h.keep0 (HTE.out.trans t)).ord _ hi
  unfold SS.endOf
  simp only
  have l0 : (i : Int) < (S.pcs.length : Int) := by omega
  have l1 : (0 : Int) ≤ (i : Int) := by omega
  generalize S.len i = ln at *
  generalize (S.pc i).run = xr at *
  generalize (S.pc i).pos = xp at *
  generalize S.pcs.length = n at *
  have e1 : IntKind.u64.wrap ln = ln := by rw [IntKind.wrap_u64]; omega
  have e2 : IntKind.u64.wrap (xp + ln) = xp + ln := by rw [IntKind.wrap_u64]; omega
  obtain ⟨q1, q2, q3⟩ := HC.out E (Touch.refl _ _)
  clear h hi h0 hb
  go_enter Tryz.func52, Tryz.ntmps52
  go_upto_region 1 with fail
  rw [← hE.out]
  clear hE
  go_upto_region 2 with fail
  clear q1 q2 q3
  obtain ⟨we, hwe⟩ : ∃ W, Hid (W = E.alloc (.cells #[iV (xr : Int), u64 xp] 64)) := ⟨_, Eq.refl _⟩
  have HB : Hid (Touch (fun _ => False) E we ∧ E.heap.size ≤ E.heap.size ∧ we.heap[E.heap.size]? = some (spO ⟨xr, xp⟩)) := by rw [hwe.out]; exact ⟨(Touch.refl _ _).alloc _, Nat.le_refl _, heap_alloc_new _ _⟩
  rw [← hwe.out]
  clear hwe
  have HM : Hid (∀ W, Touch (fun _ => False) we W → (W.cell? ⟨E.heap.size, 1, none⟩ = some (u64 xp) ∧ W.frozen? ⟨E.heap.size, 1, none⟩ = false) ∧ Touch (fun _ => False) E W ∧ W.heap[E.heap.size]? = some (spO ⟨xr, xp⟩)) := fun W t => by
    have a := heap_keep t HB.out.2.2
    have b := spO_cells a
    exact ⟨⟨b.2.1, b.2.2.2⟩, HB.out.1.trans t, a⟩
  obtain ⟨m, hm⟩ : ∃ m, Hid (m = E.heap.size) := ⟨_, Eq.refl _⟩
  rw [← hm.out] at HM HB ⊢
  go_cut [5] (fun t wx => t = .pointer (some ⟨m, 0, none⟩) ∧ Hid (Touch (fun _ => False) E wx ∧ wx.heap[m]? = some (spO ⟨xr, xp + ln⟩)))
  case first =>
    obtain ⟨⟨k1, k2⟩, -⟩ := HM.out _ (Touch.refl _ we).drew
    go_wp2_with fail
    go_region_with (go_at_call 39; (with_reducible refine (HLn.out _ (HM.out _ (Touch.refl _ we).drew).2.1).mono ?_); rintro e w1 ⟨rfl, rfl⟩)
    all_goals (try go_wp2_with fail)
    all_goals go_meet
    all_goals (case rel => exact ⟨rfl, (HB.out.1.drew).fresh _ _ _ (Nat.le_of_eq hm.out.symm), spO_set1 (HM.out _ (Touch.refl _ we).drew).2.2⟩)
  case rest =>
    obtain ⟨rfl, HD⟩ := hcut
    obtain ⟨wf, hwf⟩ : ∃ we, we = wc := ⟨_, rfl⟩
    subst hwf
    obtain ⟨k0, k1, -, -⟩ := spO_cells HD.out.2
    have k2 := heap_keep HD.out.1 HEB.out
    obtain ⟨r0, r1, z0, z1⟩ := spO_cells k2
    obtain ⟨B0, hB0⟩ : ∃ m, Hid (m = w.heap.size) := ⟨_, Eq.refl _⟩
    rw [← hB0.out] at k2 r0 r1 z0 z1 ⊢
    have HF : Hid (Touch (fun _ => False) w ((wf.setCell ⟨B0, 0, none⟩ (iV (xr : Int))).setCell ⟨B0, 1, none⟩ (u64 (xp + ln)))) := by
      have hb : w.heap.size ≤ B0 := by rw [hB0.out]; omega
      exact ((HTE.out.trans HD.out.1).fresh _ _ _ hb).fresh _ _ _ hb
    have u0 : (wf.setCell ⟨B0, 0, none⟩ (iV (xr : Int))).cell? ⟨B0, 1, none⟩ = some (u64 0) := by rw [cell_of_block (heap_setCell_same _ _ _ _ k2)]; rfl
    obtain ⟨v0, v1, -, -⟩ := spO_cells (spO_set (yr := xr) (yp := xp + ln) k2)
    clear k2
    go_wp2_with fail
    refine bodyPost_ret (v := .agg #[iV (xr : Int), u64 (xp + ln)]) (by simp [results, Tryz.results52, go_sem, v0, v1]) rfl ?_
    exact ⟨rfl, HF.out⟩
end Go.Proofs.YtnilikomoapcaaaGreat

/- Package seq: cut. -/
namespace Go.Proofs.YtnilikomoapcaaaGreat
open Go.RowKit
set_option linter.unusedVariables false
set_option linter.unusedSimpArgs false
set_option maxRecDepth 100000

theorem Laid.after {w w1 w2 : World} {B : Bk} {S' : SS} (t : Touch B.has w w1) (h : Laid w1 w2 B S') : Laid w w2 B S' := by
  obtain ⟨B', h1, h2, h3, h4⟩ := h
  exact ⟨B', h1, h2, fun x hx => (h3 x hx).imp id (fun e => Nat.le_trans t.size e), t.trans h4⟩
theorem Laid.after0 {w w1 w2 : World} {B : Bk} {S' : SS} (t : Touch (fun _ => False) w w1) (h : Laid w1 w2 B S') : Laid w w2 B S' := h.after (t.mono fun _ _ e => False.elim e)
theorem Laid.step {w w1 w2 : World} {B B1 : Bk} {S1 S' : SS} (h0 : SeqM w1 B1 S1 ∧ B1.b = B.b ∧ (∀ x, B1.has x → B.has x ∨ w.heap.size ≤ x) ∧ Touch B.has w w1) (h : Laid w1 w2 B1 S') : Laid w w2 B S' := by
  obtain ⟨a, b, c, d⟩ := h0
  obtain ⟨B', h1, h2, h3, h4⟩ := h
  refine ⟨B', h1, h2.trans b, fun x hx => ?_, d.then h4 fun x hx e => ?_⟩
  · rcases h3 x hx with e | e
    · exact c x e
    · exact .inr (Nat.le_trans d.size e)
  · rcases c x e with e | e
    · exact e
    · omega
theorem Laid.more {w w1 w2 : World} {B : Bk} {S1 : SS} (h : Laid w w1 B S1) (t : Touch (fun _ => False) w1 w2) : Laid w w2 B S1 := by
  obtain ⟨B', h1, h2, h3, h4⟩ := h
  exact ⟨B', h1.keep0 t, h2, h3, h4.trans (t.mono fun _ _ e => False.elim e)⟩
theorem SeqM.laid {w : World} {B : Bk} {S : SS} (h : SeqM w B S) : Laid w w B S := ⟨B, h, rfl, fun x hx => .inl hx, Touch.refl _ _⟩
theorem SeqM.grow {w : World} {B : Bk} {S : SS} (h : SeqM w B S) (hs : S.total ≤ 1152921504606846976) (i : Nat) (hi : i < S.pcs.length) (hi0 : i ≠ 0) (m : Int) (hm : 0 ≤ S.len i + m) (hb : -1152921504606846976 ≤ m ∧ m ≤ 1152921504606846976) :
    Calls Tryz.prog 53 #[rP B.b 2, iV (i : Int), iV m] w fun e w' => e = .returned (.tuple #[]) ∧ SeqM w' B (S.grow i m) ∧ Touch B.has w w' := by
  refine (r_grow h.ord hs i hi hi0 m hm hb).mono ?_
  rintro e w' ⟨rfl, h1, t⟩
  have hap := h.apart
  simp only [List.nodup_cons, List.mem_cons, List.not_mem_nil, or_false, not_or, List.nodup_nil, and_true, not_false_eq_true] at hap
  obtain ⟨⟨n1, n2, n3⟩, ⟨n4, n5⟩, n6⟩ := hap
  have hbo := h.ord.ne
  obtain ⟨c, hc⟩ := h.blk
  refine ⟨rfl, ⟨⟨c, (t.block _ (lt_of_heap hc) hbo).trans hc⟩, h.runs.keep t hbo n2, h.pcs.keep t hbo n4, h1, h.idx.keep t hbo (Ne.symm n6), h.apart⟩, t.mono fun x _ e => .inr (.inr (.inr (.inl e)))⟩
set_option maxHeartbeats 16000000 in
theorem cut_any {w : World} {B : Bk} {S : SS} (h : SeqM w B S) (hI : Inv S) (place : Int) (hp : 0 ≤ place ∧ place ≤ S.total) :
    Calls Tryz.prog 51 #[sP B, iV place] w fun e w' => e = .returned (iV (S.cutAt place : Int)) ∧ Laid w w' B (S.cut place) := by
  have hsm := hI.smax
  obtain ⟨ha, hb, hc⟩ := hI.atOk (place - 1)
  have hpo := hI.pcOk ha
  have hz : S.len 0 = 0 := hI.ordF.zero
  have HA : Hid (Calls Tryz.prog 70 #[rP B.b 2, iV (place - 1)] w fun e w' => e = .returned (.tuple #[iV (S.cutAt place : Int), iV (atF S.len S.ord (place - 1)).2]) ∧ Touch (fun _ => False) w w') := r_at h.ord (Int.le_trans hI.smax (by decide)) (place - 1) ⟨by omega, by omega⟩
  have HLn : Hid (∀ W, Touch (fun _ => False) w W → Calls Tryz.prog 39 #[rP B.b 2, iV (S.cutAt place : Int)] W fun e w' => e = .returned (iV (S.len (S.cutAt place))) ∧ w' = W) := fun W t => r_lengthOf (h.keep0 t).ord _ ha
  have HM : Hid (∀ W, Touch (fun _ => False) w W → SeqM W B S) := fun W t => h.keep0 t
  have hrd : S.restAt place = S.len (S.cutAt place) - (atF S.len S.ord (place - 1)).2 - 1 := rfl
  have hln := hI.len_le (S.cutAt place)
  have HG : Hid (0 < S.restAt place → ∀ W, Touch (fun _ => False) w W → Calls Tryz.prog 53 #[rP B.b 2, iV (S.cutAt place : Int), iV (-S.restAt place)] W fun e w' => e = .returned (.tuple #[]) ∧ SeqM w' B (S.grow (S.cutAt place) (-S.restAt place)) ∧ Touch B.has W w') := fun hr W t => by
    refine (h.keep0 t).grow (by omega) (S.cutAt place) ha (fun e => ?_) _ ?_ ⟨?_, ?_⟩
    · rw [e] at hrd
      rw [hz] at hrd
      have : 0 ≤ (atF S.len S.ord (place - 1)).2 := hb
      omega
    · show 0 ≤ S.len (S.cutAt place) + -S.restAt place
      rw [hrd]
      have : 0 ≤ (atF S.len S.ord (place - 1)).2 := hb
      omega
    · have : 0 ≤ (atF S.len S.ord (place - 1)).2 := hb
      omega
    · omega
  have hgl : 0 < S.restAt place → (S.grow (S.cutAt place) (-S.restAt place)).len (S.cutAt place) = S.len (S.cutAt place) - S.restAt place := fun _ => by
    show S.len _ + (if S.cutAt place = S.cutAt place then _ else _) = _
    rw [if_pos rfl]; omega
  have HE : Hid (0 < S.restAt place → ∀ W, SeqM W B (S.grow (S.cutAt place) (-S.restAt place)) → Calls Tryz.prog 52 #[sP B, iV (S.cutAt place : Int)] W fun e w' => e = .returned (.agg #[iV (((S.grow (S.cutAt place) (-S.restAt place)).endOf (S.cutAt place)).run : Int), u64 ((S.grow (S.cutAt place) (-S.restAt place)).endOf (S.cutAt place)).pos]) ∧ Touch (fun _ => False) W w') := fun hr W hW => by
    have hb' : 0 ≤ (atF S.len S.ord (place - 1)).2 := hb
    have h5 : (rn S.runs (S.pc (S.cutAt place)).run).first.k + (S.pc (S.cutAt place)).pos + S.len (S.cutAt place) ≤ 9007199254740992 := hpo.2.2.2.1
    have h6 : 0 ≤ (rn S.runs (S.pc (S.cutAt place)).run).first.k := hpo.2.2.1
    have h7 := hgl hr
    refine endOf_any hW _ ha hpo.2.1 ⟨?_, ?_⟩
    · rw [h7]; omega
    · show (S.pc (S.cutAt place)).pos + (S.grow (S.cutAt place) (-S.restAt place)).len (S.cutAt place) ≤ _
      rw [h7]; omega
  have hi0 : 0 < S.restAt place → S.cutAt place ≠ 0 := fun hr e => by
    rw [e] at hrd
    rw [hz] at hrd
    have : 0 ≤ (atF S.len S.ord (place - 1)).2 := hb
    omega
  have HP : Hid (0 < S.restAt place → ∀ W, SeqM W B (S.grow (S.cutAt place) (-S.restAt place)) → Calls Tryz.prog 54 #[sP B, iV (S.cutAt place : Int), iV (S.cutAt place : Int), .agg #[iV (((S.grow (S.cutAt place) (-S.restAt place)).endOf (S.cutAt place)).run : Int), u64 ((S.grow (S.cutAt place) (-S.restAt place)).endOf (S.cutAt place)).pos], iV (S.restAt place)] W fun e w' => e = .returned (.tuple #[]) ∧ Laid W w' B (S.cut place)) := fun hr W hW => by
    have hcut : S.cut place = (S.grow (S.cutAt place) (-S.restAt place)).addPiece (S.cutAt place) (S.cutAt place) ((S.grow (S.cutAt place) (-S.restAt place)).endOf (S.cutAt place)) (S.restAt place) := if_pos hr
    rw [hcut]
    refine addPiece_any hW _ _ _ _ ha ha (by omega) ?_ hI.pmax
    have : (S.grow (S.cutAt place) (-S.restAt place)).total = S.total + -S.restAt place := sum_grow hI.ordF ha (hi0 hr) _
    rw [this]; omega
  have HN : Hid (¬ 0 < S.restAt place → S.cut place = S) := fun hr => if_neg hr
  have HS : Hid (∀ W, Touch (fun _ => False) w W → Laid w W B S) := fun W t => h.laid.more t
  have e1 : IntKind.i64.wrap (place - 1) = place - 1 := by rw [IntKind.wrap_i64]; omega
  have e2 : IntKind.i64.wrap (S.len (S.cutAt place) - (atF S.len S.ord (place - 1)).2) = S.len (S.cutAt place) - (atF S.len S.ord (place - 1)).2 := by
    have : 0 ≤ (atF S.len S.ord (place - 1)).2 := hb
    have : (atF S.len S.ord (place - 1)).2 ≤ S.len (S.cutAt place) := hc
    rw [IntKind.wrap_i64]; omega
  have e3 : IntKind.i64.wrap (S.len (S.cutAt place) - (atF S.len S.ord (place - 1)).2 - 1) = S.restAt place := by
    have : 0 ≤ (atF S.len S.ord (place - 1)).2 := hb
    have : (atF S.len S.ord (place - 1)).2 ≤ S.len (S.cutAt place) := hc
    rw [IntKind.wrap_i64, hrd]; omega
  have e4 : IntKind.i64.wrap (-S.restAt place) = -S.restAt place := by
    have : 0 ≤ (atF S.len S.ord (place - 1)).2 := hb
    have : (atF S.len S.ord (place - 1)).2 ≤ S.len (S.cutAt place) := hc
    rw [IntKind.wrap_i64]; omega
  obtain ⟨S', hS'⟩ : ∃ s, Hid (s = S.cut place) := ⟨_, Eq.refl _⟩
  rw [← hS'.out] at HP HN ⊢
  generalize (S.grow (S.cutAt place) (-S.restAt place)).endOf (S.cutAt place) = ef at *
  generalize S.grow (S.cutAt place) (-S.restAt place) = Sg at *
  generalize S.len (S.cutAt place) = ln at *
  generalize (atF S.len S.ord (place - 1)).2 = wi at *
  generalize S.restAt place = rest at *
  generalize S.cutAt place = i at *
  obtain ⟨er, ep⟩ := ef
  simp only at HE HP
  clear h hI hsm ha hb hc hpo hz hrd hln hgl hi0
  go_enter Tryz.func51, Tryz.ntmps51
  go_wp2_with fail
  refine HA.out.mono ?_
  rintro e W1 ⟨rfl, t1⟩
  have HT1 : Hid (Touch (fun _ => False) w W1) := t1
  clear t1 HA
  go_wp2_with fail
  refine (HLn.out _ HT1.out).mono ?_
  rintro e W2 ⟨rfl, hw2⟩
  rw [hw2]
  clear hw2 HLn
  by_cases hr : 0 < rest
  · have HG2 : Hid (∀ W, Touch (fun _ => False) w W → Calls Tryz.prog 53 #[rP B.b 2, iV (i : Int), iV (-rest)] W fun e w' => e = .returned (.tuple #[]) ∧ SeqM w' B Sg ∧ Touch B.has W w') := HG.out hr
    have HE2 : Hid (∀ W, SeqM W B Sg → Calls Tryz.prog 52 #[sP B, iV (i : Int)] W fun e w' => e = .returned (.agg #[iV (er : Int), u64 ep]) ∧ Touch (fun _ => False) W w') := HE.out hr
    have HP2 : Hid (∀ W, SeqM W B Sg → Calls Tryz.prog 54 #[sP B, iV (i : Int), iV (i : Int), .agg #[iV (er : Int), u64 ep], iV rest] W fun e w' => e = .returned (.tuple #[]) ∧ Laid W w' B S') := HP.out hr
    clear HG HE HP HN
    go_wp2_with fail
    refine (HG2.out _ HT1.out).mono ?_
    rintro e W3 ⟨rfl, h3, t3⟩
    have H3 : Hid (SeqM W3 B Sg ∧ Touch B.has w W3) := ⟨h3, (HT1.out.mono fun _ _ e => False.elim e).trans t3⟩
    clear h3 t3 HG2
    go_wp2_with fail
    refine (HE2.out _ H3.out.1).mono ?_
    rintro e W4 ⟨rfl, t4⟩
    have H4 : Hid (SeqM W4 B Sg ∧ Touch B.has w W4) := ⟨H3.out.1.keep0 t4, H3.out.2.trans (t4.mono fun _ _ e => False.elim e)⟩
    clear t4 HE2 H3
    go_wp2_with fail
    refine (HP2.out _ H4.out.1).mono ?_
    rintro e W5 ⟨rfl, l5⟩
    have H5 : Hid (Laid w W5 B S') := l5.after H4.out.2
    clear l5 HP2
    go_wp2_with fail
    go_ret
    exact ⟨rfl, H5.out⟩
  · have HX : Hid (Laid w W1 B S') := by rw [HN.out (by omega)]; exact HS.out _ HT1.out
    clear HG HE HP HN
    go_wp2_with fail
    go_ret
    exact ⟨rfl, HX.out⟩
end Go.Proofs.YtnilikomoapcaaaGreat

/- Package seq: lay. -/
namespace Go.Proofs.YtnilikomoapcaaaGreat
open Go.RowKit
set_option linter.unusedVariables false
set_option linter.unusedSimpArgs false
set_option maxRecDepth 100000

theorem un_cases {a b : Un} (h : a ≠ b) : (a.c == b.c) = false ∨ ((a.c == b.c) = true ∧ (a.k == b.k) = false) ∨ ((a.c == b.c) = true ∧ (a.k == b.k) = true ∧ (a.lc == b.lc) = false) ∨ ((a.c == b.c) = true ∧ (a.k == b.k) = true ∧ (a.lc == b.lc) = true ∧ (a.lk == b.lk) = false) ∨ ((a.c == b.c) = true ∧ (a.k == b.k) = true ∧ (a.lc == b.lc) = true ∧ (a.lk == b.lk) = true ∧ (a.rc == b.rc) = false) ∨ ((a.c == b.c) = true ∧ (a.k == b.k) = true ∧ (a.lc == b.lc) = true ∧ (a.lk == b.lk) = true ∧ (a.rc == b.rc) = true ∧ (a.rk == b.rk) = false) := by
  obtain ⟨a1, a2, a3, a4, a5, a6⟩ := a
  obtain ⟨b1, b2, b3, b4, b5, b6⟩ := b
  simp only [ne_eq, Un.mk.injEq, not_and] at h
  simp only [beq_eq_false_iff_ne, beq_iff_eq, ne_eq]
  by_cases h1 : a1 = b1
  · by_cases h2 : a2 = b2
    · by_cases h3 : a3 = b3
      · by_cases h4 : a4 = b4
        · by_cases h5 : a5 = b5
          · exact .inr (.inr (.inr (.inr (.inr ⟨h1, h2, h3, h4, h5, h h1 h2 h3 h4 h5⟩))))
          · exact .inr (.inr (.inr (.inr (.inl ⟨h1, h2, h3, h4, h5⟩))))
        · exact .inr (.inr (.inr (.inl ⟨h1, h2, h3, h4⟩)))
      · exact .inr (.inr (.inl ⟨h1, h2, h3⟩))
    · exact .inr (.inl ⟨h1, h2⟩)
  · exact .inl h1
theorem cut_runs (S : SS) (p : Int) : (S.cut p).runs = S.runs := by unfold SS.cut; split <;> rfl
theorem cut_pcs (S : SS) (p : Int) : S.pcs.length ≤ (S.cut p).pcs.length := by
  unfold SS.cut
  split
  · show S.pcs.length ≤ (S.pcs ++ [_]).length
    simp
  · exact Nat.le_refl _
set_option maxHeartbeats 32000000 in
theorem lay_any {w : World} {B : Bk} {S : SS} (h : SeqM w B S) (hI : Inv S) (place : Int) (hI1 : Inv (S.cut place)) (hp : 0 ≤ place ∧ place ≤ S.total) (u : Un) (hu : u.ok) (hu1 : 1 ≤ u.c) (p : Sp) (hpr : p.run < S.runs.length) (n : Int) (hn : 0 ≤ n ∧ n ≤ 9007199254740992) (hs : (S.cut place).total + n ≤ 1152921504606846976) :
    Calls Tryz.prog 27 #[sP B, iV place, .agg #[u64 (u).c, u64 (u).k, u64 (u).lc, u64 (u).lk, u64 (u).rc, u64 (u).rk], .agg #[iV ((p).run : Int), u64 (p).pos], iV n] w fun e w' => e = .returned (.tuple #[]) ∧ Laid w w' B (S.lay place u p n) := by
  obtain ⟨E, hE⟩ : ∃ E, Hid (E = (w.alloc (unO u)).alloc (spO p)) := ⟨_, Eq.refl _⟩
  have HTE : Hid (Touch (fun _ => False) w E) := by rw [hE.out]; exact ((Touch.refl _ _).alloc _).alloc _
  have HEB : Hid (E.heap[w.heap.size]? = some (unO u) ∧ E.heap[w.heap.size + 1]? = some (spO p)) := by rw [hE.out]; exact heap_two _ _ _
  have HCut : Hid (Calls Tryz.prog 51 #[sP B, iV place] E fun e w' => e = .returned (iV (S.cutAt place : Int)) ∧ Laid E w' B (S.cut place)) := cut_any (h.keep0 HTE.out) hI place hp
  have hal : S.cutAt place < (S.cut place).pcs.length := Nat.lt_of_lt_of_le (hI.atOk (place - 1)).1 (cut_pcs S place)
  obtain ⟨he1, he2, he3⟩ := hI1.endOk hal
  have hpo := hI1.pcOk hal
  have HEn : Hid (∀ W B1, SeqM W B1 (S.cut place) → B1.b = B.b → Calls Tryz.prog 52 #[sP B, iV (S.cutAt place : Int)] W fun e w' => e = .returned (.agg #[iV (((S.cut place).endOf (S.cutAt place)).run : Int), u64 ((S.cut place).endOf (S.cutAt place)).pos]) ∧ Touch (fun _ => False) W w') := fun W B1 hW hb => by
    have := endOf_any hW (S.cutAt place) hal hpo.2.1 ⟨hpo.2.2.2.2, by have := hpo.2.2.1; have := hpo.2.2.2.1; omega⟩
    rw [show sP B = sP B1 from by rw [sP, sP, hb]]
    exact this
  have HUn : Hid (∀ W B1, SeqM W B1 (S.cut place) → B1.b = B.b → Calls Tryz.prog 36 #[sP B, .agg #[iV (((S.cut place).endOf (S.cutAt place)).run : Int), u64 ((S.cut place).endOf (S.cutAt place)).pos]] W fun e w' => e = .returned (.agg #[u64 ((S.cut place).unit ((S.cut place).endOf (S.cutAt place))).c, u64 ((S.cut place).unit ((S.cut place).endOf (S.cutAt place))).k, u64 ((S.cut place).unit ((S.cut place).endOf (S.cutAt place))).lc, u64 ((S.cut place).unit ((S.cut place).endOf (S.cutAt place))).lk, u64 ((S.cut place).unit ((S.cut place).endOf (S.cutAt place))).rc, u64 ((S.cut place).unit ((S.cut place).endOf (S.cutAt place))).rk]) ∧ Touch (fun _ => False) W w') := fun W B1 hW hb => by
    rw [show sP B = sP B1 from by rw [sP, sP, hb]]
    exact hW.unit he1
  have HLay : Hid (((S.cut place).unit ((S.cut place).endOf (S.cutAt place)) = u → S.lay place u p n = (S.cut place).grow (S.cutAt place) n) ∧ (¬ (S.cut place).unit ((S.cut place).endOf (S.cutAt place)) = u → S.lay place u p n = ((S.cut place).addRun u p).addPiece (S.cutAt place) ((S.cut place).piece u.c u.k) ⟨S.runs.length, 0⟩ n)) := ⟨fun e => if_pos e, fun e => if_neg e⟩
  have hi0 : (S.cut place).unit ((S.cut place).endOf (S.cutAt place)) = u → S.cutAt place ≠ 0 := fun e e0 => by
    rw [e0] at e
    have e1 : (S.cut place).endOf 0 = .zero := by unfold SS.endOf; rw [hI1.p0, hI1.ordF.zero]; rfl
    rw [e1] at e
    have : ((S.cut place).unit .zero).c = (rn (S.cut place).runs 0).first.c := unitR_c _ _
    rw [e, hI1.root] at this
    have : u.c = 0 := this
    omega
  have HGr : Hid ((S.cut place).unit ((S.cut place).endOf (S.cutAt place)) = u → ∀ W B1, SeqM W B1 (S.cut place) → B1.b = B.b → Calls Tryz.prog 53 #[rP B.b 2, iV (S.cutAt place : Int), iV n] W fun e w' => e = .returned (.tuple #[]) ∧ SeqM w' B1 ((S.cut place).grow (S.cutAt place) n) ∧ Touch B1.has W w') := fun e W B1 hW hb => by
    rw [← hb]
    exact hW.grow (by omega) _ hal (hi0 e) n (by have := hI1.ordF.long (S.cutAt place); omega) ⟨by omega, by omega⟩
  have HPc : Hid (∀ W B1, SeqM W B1 (S.cut place) → B1.b = B.b → Calls Tryz.prog 38 #[sP B, .agg #[u64 u.c, u64 u.k]] W fun e w' => e = .returned (iV ((S.cut place).piece u.c u.k : Int)) ∧ Touch (fun _ => False) W w') := fun W B1 hW hb => by
    rw [show sP B = sP B1 from by rw [sP, sP, hb]]
    exact pieceOf_any hW hI1 u.c u.k
  have HAr : Hid (∀ W B1, SeqM W B1 (S.cut place) → B1.b = B.b → Calls Tryz.prog 55 #[sP B, .agg #[u64 (u).c, u64 (u).k, u64 (u).lc, u64 (u).lk, u64 (u).rc, u64 (u).rk], .agg #[iV ((p).run : Int), u64 (p).pos]] W fun e w' => e = .returned (.agg #[iV (S.runs.length : Int), u64 0]) ∧ Laid W w' B1 ((S.cut place).addRun u p)) := fun W B1 hW hb => by
    rw [show sP B = sP B1 from by rw [sP, sP, hb]]
    have := addRun_any hW hI1 u p (by rw [cut_runs]; exact hpr)
    rw [cut_runs] at this
    exact this
  have HAp : Hid (∀ W B1, SeqM W B1 ((S.cut place).addRun u p) → B1.b = B.b → Calls Tryz.prog 54 #[sP B, iV (S.cutAt place : Int), iV ((S.cut place).piece u.c u.k : Int), .agg #[iV (S.runs.length : Int), u64 0], iV n] W fun e w' => e = .returned (.tuple #[]) ∧ Laid W w' B1 (((S.cut place).addRun u p).addPiece (S.cutAt place) ((S.cut place).piece u.c u.k) ⟨S.runs.length, 0⟩ n)) := fun W B1 hW hb => by
    rw [show sP B = sP B1 from by rw [sP, sP, hb]]
    exact addPiece_any hW _ _ ⟨S.runs.length, 0⟩ n hal (hI1.piece_lt _ _) hn.1 hs hI1.pmax
  have HBox : Hid (∀ (B1 : Bk), (∀ x, B1.has x → B.has x ∨ E.heap.size ≤ x) → ∀ k, w.heap.size ≤ k → k < E.heap.size → ¬ B1.has k) := fun B1 f k hk1 hk2 hb => by
    rcases f k hb with e | e
    · have := h.lt e
      omega
    · omega
  have hes : E.heap.size = w.heap.size + 1 + 1 := by rw [hE.out]; simp
  have HEs : Hid (E.heap.size = w.heap.size + 1 + 1) := hes
  clear hes
  obtain ⟨L', hL'⟩ : ∃ s, Hid (s = S.lay place u p n) := ⟨_, Eq.refl _⟩
  rw [← hL'.out] at HLay ⊢
  obtain ⟨fu, hfu⟩ : ∃ x, Hid (x = (S.cut place).unit ((S.cut place).endOf (S.cutAt place))) := ⟨_, Eq.refl _⟩
  rw [← hfu.out] at HUn HLay HGr
  have hcs : u ≠ u ∨ True := .inr trivial
  generalize ((S.cut place).addRun u p).addPiece (S.cutAt place) ((S.cut place).piece u.c u.k) ⟨S.runs.length, 0⟩ n = Sf at *
  generalize (S.cut place).addRun u p = Sr at *
  generalize (S.cut place).grow (S.cutAt place) n = Sg at *
  generalize (S.cut place).endOf (S.cutAt place) = ef at *
  generalize (S.cut place).piece u.c u.k = py at *
  generalize S.cut place = S1 at *
  generalize S.cutAt place = i at *
  generalize S.runs.length = nr at *
  have HNe : Hid (fu ≠ u → _) := un_cases (a := fu) (b := u)
  have HEq : Hid (fu = u → L' = Sg) := HLay.out.1
  have HNq : Hid (fu ≠ u → L' = Sf) := HLay.out.2
  clear h hI hI1 hal he1 he2 he3 hpo hp hn hs hpr hi0 hu hu1 hL' HLay hcs hfu
  obtain ⟨er, ep⟩ := ef
  obtain ⟨pr, pp⟩ := p
  obtain ⟨uc, uk, ulc, ulk, urc, urk⟩ := u
  obtain ⟨fc, fk, flc, flk, frc, frk⟩ := fu
  simp only at hE HEB HEn HUn HPc HAr HNe ⊢
  go_enter Tryz.func27, Tryz.ntmps27
  go_upto_region 1 with fail
  rw [← hE.out]
  clear hE
  obtain ⟨m, hm⟩ : ∃ m, Hid (m = w.heap.size) := ⟨_, Eq.refl _⟩
  rw [← hm.out] at HEB ⊢
  go_wp2_with fail
  refine HCut.out.mono ?_
  rintro e W1 ⟨rfl, l1⟩
  clear HCut
  obtain ⟨B1, m1, b1, f1, t1⟩ := l1
  have H1 : Hid (SeqM W1 B1 S1 ∧ B1.b = B.b ∧ (∀ x, B1.has x → B.has x ∨ E.heap.size ≤ x) ∧ Touch B.has E W1) := ⟨m1, b1, f1, t1⟩
  have HU : Hid (∀ W : World, W.heap[m]? = some (unO ⟨uc, uk, ulc, ulk, urc, urk⟩) → W.heap[m + 1]? = some (spO ⟨pr, pp⟩) → (W.cell? ⟨m, 0, none⟩ = some (u64 uc) ∧ W.cell? ⟨m, 1, none⟩ = some (u64 uk) ∧ W.cell? ⟨m, 2, none⟩ = some (u64 ulc) ∧ W.cell? ⟨m, 3, none⟩ = some (u64 ulk) ∧ W.cell? ⟨m, 4, none⟩ = some (u64 urc) ∧ W.cell? ⟨m, 5, none⟩ = some (u64 urk)) ∧ W.cell? ⟨m + 1, 0, none⟩ = some (iV (pr : Int)) ∧ W.cell? ⟨m + 1, 1, none⟩ = some (u64 pp)) := fun W h1 h2 => ⟨unO_cells h1, (spO_cells h2).1, (spO_cells h2).2.1⟩
  have HW1 : Hid (W1.heap[m]? = some (unO ⟨uc, uk, ulc, ulk, urc, urk⟩) ∧ W1.heap[m + 1]? = some (spO ⟨pr, pp⟩)) := by
    have hk := HBox.out B (fun x hx => .inl hx)
    have hz := HEs.out
    have hmm := hm.out
    exact ⟨(t1.block m (by omega) (hk m (by omega) (by omega))).trans HEB.out.1, (t1.block (m + 1) (by omega) (hk (m + 1) (by omega) (by omega))).trans HEB.out.2⟩
  clear m1 b1 f1 t1
  have s0 := (HU.out W1.drew HW1.out.1 HW1.out.2).1
  go_upto_region 2 with fail
  have HBx : Hid (∀ W, Touch (fun _ => False) W1 W → W.heap[m]? = some (unO ⟨uc, uk, ulc, ulk, urc, urk⟩) ∧ W.heap[m + 1]? = some (spO ⟨pr, pp⟩)) := fun W t => ⟨heap_keep t HW1.out.1, heap_keep t HW1.out.2⟩
  by_cases hq : (⟨fc, fk, flc, flk, frc, frk⟩ : Un) = ⟨uc, uk, ulc, ulk, urc, urk⟩
  · have HL : Hid (L' = Sg) := HEq.out hq
    have HG2 : Hid (∀ W B1, SeqM W B1 S1 → B1.b = B.b → Calls Tryz.prog 53 #[rP B.b 2, iV (i : Int), iV n] W fun e w' => e = .returned (.tuple #[]) ∧ SeqM w' B1 Sg ∧ Touch B1.has W w') := HGr.out hq
    simp only [Un.mk.injEq] at hq
    obtain ⟨rfl, rfl, rfl, rfl, rfl, rfl⟩ := hq
    clear HNe HEq HNq HGr HPc HAr HAp
    go_region_held3 (fun W => W.cell? ⟨m, 0, none⟩ = some (u64 fc) ∧ W.cell? ⟨m, 1, none⟩ = some (u64 fk) ∧ W.cell? ⟨m, 2, none⟩ = some (u64 flc) ∧ W.cell? ⟨m, 3, none⟩ = some (u64 flk) ∧ W.cell? ⟨m, 4, none⟩ = some (u64 frc) ∧ W.cell? ⟨m, 5, none⟩ = some (u64 frk)) (first | assumption)
      (first
        | (go_at_call 52; (with_reducible refine (HEn.out _ _ (H1.out.1.keep0 (Touch.refl _ W1).drew) H1.out.2.1).mono ?_); rintro e W2 ⟨rfl, t2⟩; have HT2 : Hid (Touch (fun _ => False) W1 W2) := (Touch.refl _ W1).drew.trans t2; have s2 := (HU.out W2 (HBx.out W2 HT2.out).1 (HBx.out W2 HT2.out).2).1; clear t2)
        | (go_at_call 36; (with_reducible refine (HUn.out _ _ (H1.out.1.keep0 HT2.out) H1.out.2.1).mono ?_); rintro e W3 ⟨rfl, t3⟩; have HT3 : Hid (Touch (fun _ => False) W1 W3) := HT2.out.trans t3; have s3 := (HU.out W3 (HBx.out W3 HT3.out).1 (HBx.out W3 HT3.out).2).1; clear t3))
    all_goals
      go_wp2_with fail
      refine (HG2.out _ _ (H1.out.1.keep0 HT3.out) H1.out.2.1).mono ?_
      rintro e W4 ⟨rfl, m4, t4⟩
      have HF : Hid (Laid w W4 B L') := by
        rw [HL.out]
        refine Laid.after0 HTE.out ?_
        refine Laid.step (B1 := B1) (w1 := W3) (S1 := S1) ⟨H1.out.1.keep0 HT3.out, H1.out.2.1, H1.out.2.2.1, H1.out.2.2.2.trans (HT3.out.mono fun _ _ e => False.elim e)⟩ ?_
        exact ⟨B1, m4, rfl, fun x hx => .inl hx, t4⟩
      clear m4 t4
      go_wp2_with fail
      refine bodyPost_ret (v := .tuple #[]) (by simp [results, Tryz.results27, go_sem]) rfl ?_
      exact ⟨rfl, HF.out⟩
  · have HL : Hid (L' = Sf) := HNq.out hq
    have hne := HNe.out hq
    clear HNe HEq HNq HGr hq
    have HFx : Hid (∀ W1' W5 W6 B5, Touch (fun _ => False) W1 W1' → Laid W1' W5 B1 Sr → SeqM W5 B5 Sr ∧ B5.b = B1.b ∧ (∀ x, B5.has x → B1.has x ∨ W1'.heap.size ≤ x) ∧ Touch B1.has W1' W5 → Laid W5 W6 B5 Sf → Laid w W6 B L') := fun W1' W5 W6 B5 t0 _ l5 l6 => by
      rw [HL.out]
      refine Laid.after0 HTE.out ?_
      refine Laid.step (B1 := B1) (w1 := W1') (S1 := S1) ⟨H1.out.1.keep0 t0, H1.out.2.1, H1.out.2.2.1, H1.out.2.2.2.trans (t0.mono fun _ _ e => False.elim e)⟩ ?_
      exact Laid.step l5 l6
    go_cut [20] (fun t wx => t = .bool false ∧ Hid (Touch (fun _ => False) W1 wx))
    case first =>
      rcases hne with e1 | ⟨e1, e2⟩ | ⟨e1, e2, e3⟩ | ⟨e1, e2, e3, e4⟩ | ⟨e1, e2, e3, e4, e5⟩ | ⟨e1, e2, e3, e4, e5, e6⟩
      all_goals
        go_wp2_with fail
        go_region_held3 (fun W => (W.cell? ⟨m, 0, none⟩ = some (u64 uc) ∧ W.cell? ⟨m, 1, none⟩ = some (u64 uk) ∧ W.cell? ⟨m, 2, none⟩ = some (u64 ulc) ∧ W.cell? ⟨m, 3, none⟩ = some (u64 ulk) ∧ W.cell? ⟨m, 4, none⟩ = some (u64 urc) ∧ W.cell? ⟨m, 5, none⟩ = some (u64 urk))) (first | assumption)
          (first
            | (go_at_call 52; (with_reducible refine (HEn.out _ _ (H1.out.1.keep0 (Touch.refl _ W1).drew) H1.out.2.1).mono ?_); rintro e W2 ⟨rfl, t2⟩; have HT2 : Hid (Touch (fun _ => False) W1 W2) := (Touch.refl _ W1).drew.trans t2; have s2 := (HU.out W2 (HBx.out W2 HT2.out).1 (HBx.out W2 HT2.out).2).1; clear t2)
            | (go_at_call 36; (with_reducible refine (HUn.out _ _ (H1.out.1.keep0 HT2.out) H1.out.2.1).mono ?_); rintro e W3 ⟨rfl, t3⟩; have HT3 : Hid (Touch (fun _ => False) W1 W3) := HT2.out.trans t3; have s3 := (HU.out W3 (HBx.out W3 HT3.out).1 (HBx.out W3 HT3.out).2).1; clear t3))
        all_goals (try go_wp2_with fail)
        all_goals go_meet
        all_goals (case rel => exact ⟨rfl, HT3.out⟩)
    case rest =>
      obtain ⟨rfl, HT3⟩ := hcut
      obtain ⟨W3, hW3⟩ : ∃ we, we = wc := ⟨_, rfl⟩
      subst hW3
      clear s0 hne
      have H3 : Hid (SeqM W3 B1 S1 ∧ B1.b = B.b) := ⟨H1.out.1.keep0 HT3.out, H1.out.2.1⟩
      have HB3 : Hid (∀ W, Touch (fun _ => False) W3 W → W.heap[m]? = some (unO ⟨uc, uk, ulc, ulk, urc, urk⟩) ∧ W.heap[m + 1]? = some (spO ⟨pr, pp⟩)) := fun W t => HBx.out W (HT3.out.trans t)
      have HB5 : Hid (∀ W5 W6, Touch (fun _ => False) W3 W5 → Touch B1.has W5 W6 → W6.heap[m]? = some (unO ⟨uc, uk, ulc, ulk, urc, urk⟩) ∧ W6.heap[m + 1]? = some (spO ⟨pr, pp⟩)) := fun W5 W6 t5 t6 => by
        have hk := HBox.out B1 H1.out.2.2.1
        have hz := HEs.out
        have hmm := hm.out
        have a := HB3.out W5 t5
        exact ⟨(t6.block m (lt_of_heap a.1) (hk m (by omega) (by omega))).trans a.1, (t6.block (m + 1) (lt_of_heap a.2) (hk (m + 1) (by omega) (by omega))).trans a.2⟩
      have HB7 : Hid (∀ W5 W6 W7 B6, Touch (fun _ => False) W3 W5 → Touch B1.has W5 W6 → (∀ x, B6.has x → B1.has x ∨ W5.heap.size ≤ x) → Touch (Bk.has B6) W6 W7 → W7.heap[m]? = some (unO ⟨uc, uk, ulc, ulk, urc, urk⟩) ∧ W7.heap[m + 1]? = some (spO ⟨pr, pp⟩)) := fun W5 W6 W7 B6 t5 t6 f6 t7 => by
        have hk := HBox.out B1 H1.out.2.2.1
        have hz := HEs.out
        have hmm := hm.out
        have a := HB5.out W5 W6 t5 t6
        have a5 := HB3.out W5 t5
        have l5 := lt_of_heap a5.1
        have l6 := lt_of_heap a5.2
        refine ⟨(t7.block m (lt_of_heap a.1) fun e => ?_).trans a.1, (t7.block (m + 1) (lt_of_heap a.2) fun e => ?_).trans a.2⟩
        · rcases f6 m e with e | e
          · exact hk m (by omega) (by omega) e
          · omega
        · rcases f6 (m + 1) e with e | e
          · exact hk (m + 1) (by omega) (by omega) e
          · omega
      have s0 := HU.out W3.drew (HB3.out _ (Touch.refl _ W3).drew).1 (HB3.out _ (Touch.refl _ W3).drew).2
      clear HEn HUn
      go_upto_region 4 with fail
      go_region_held3 (fun W => (W.cell? ⟨m, 0, none⟩ = some (u64 uc) ∧ W.cell? ⟨m, 1, none⟩ = some (u64 uk) ∧ W.cell? ⟨m, 2, none⟩ = some (u64 ulc) ∧ W.cell? ⟨m, 3, none⟩ = some (u64 ulk) ∧ W.cell? ⟨m, 4, none⟩ = some (u64 urc) ∧ W.cell? ⟨m, 5, none⟩ = some (u64 urk)) ∧ W.cell? ⟨m + 1, 0, none⟩ = some (iV (pr : Int)) ∧ W.cell? ⟨m + 1, 1, none⟩ = some (u64 pp)) (first | assumption)
        (first
          | (go_at_call 38; (with_reducible refine (HPc.out _ _ (H3.out.1.keep0 (Touch.refl _ W3).drew) H3.out.2).mono ?_); rintro e W4 ⟨rfl, t4⟩; have HT4 : Hid (Touch (fun _ => False) W3 W4) := (Touch.refl _ W3).drew.trans t4; have s4 := HU.out W4 (HB3.out W4 HT4.out).1 (HB3.out W4 HT4.out).2; clear t4)
          | (go_at_call 55; (with_reducible refine (HAr.out _ _ (H3.out.1.keep0 HT4.out) H3.out.2).mono ?_); rintro e W5 ⟨rfl, l5⟩; obtain ⟨B5, m5, b5, f5, t5⟩ := l5; have H5 : Hid (SeqM W5 B5 Sr ∧ B5.b = B1.b ∧ (∀ x, B5.has x → B1.has x ∨ W4.heap.size ≤ x) ∧ Touch B1.has W4 W5) := ⟨m5, b5, f5, t5⟩; have s5 := HU.out W5 (HB5.out W4 W5 HT4.out t5).1 (HB5.out W4 W5 HT4.out t5).2; clear m5 b5 f5 t5)
          | (go_at_call 54; (with_reducible refine (HAp.out _ _ H5.out.1 (H5.out.2.1.trans H3.out.2)).mono ?_); rintro e W6 ⟨rfl, l6⟩; have HF : Hid (Laid w W6 B L') := HFx.out W4 W5 W6 B5 (HT3.out.trans HT4.out) ⟨B5, H5.out⟩ H5.out l6; obtain ⟨B6, m6, b6, f6, t6⟩ := l6; have s6 := HU.out W6 (HB7.out W4 W5 W6 B5 HT4.out H5.out.2.2.2 H5.out.2.2.1 t6).1 (HB7.out W4 W5 W6 B5 HT4.out H5.out.2.2.2 H5.out.2.2.1 t6).2; clear m6 b6 f6 t6))
      all_goals (try go_wp2_with fail)
      all_goals go_end0
      all_goals exact ⟨rfl, HF.out⟩
end Go.Proofs.YtnilikomoapcaaaGreat
