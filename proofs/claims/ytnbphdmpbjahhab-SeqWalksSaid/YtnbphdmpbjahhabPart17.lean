/- Package seq: endOf. -/
import Derived.Test.YtnbphdmpbjahhabPart13
import Derived.Test.YtnbphdmpbjahhabSeqW1
import Derived.Test.YtnbphdmpbjahhabPart15
namespace Go.Proofs.Ytnbphdmpbjahhab
open Go.RowKit
set_option linter.unusedVariables false
set_option linter.unusedSimpArgs false
set_option maxRecDepth 100000

set_option maxHeartbeats 8000000 in
theorem endOf_any {w : World} {B : Bk} {S : SS} (h : SeqM w B S) (i : Nat) (hi : i < S.pcs.length) (h0 : 0 ≤ (S.pc i).pos) (hb : 0 ≤ S.len i ∧ (S.pc i).pos + S.len i ≤ 9007199254740992) :
    Calls Try.prog 59 #[sP B, iV (i : Int)] w fun e w' => e = .returned (.agg #[iV ((S.endOf i).run : Int), u64 (S.endOf i).pos]) ∧ Touch (fun _ => False) w w' := by
  obtain ⟨E, hE⟩ : ∃ E, Hid (E = w.alloc zeroSO) := ⟨_, Eq.refl _⟩
  have HTE : Hid (Touch (fun _ => False) w E) := by rw [hE.out]; exact (Touch.refl _ _).alloc _
  have HEB : Hid (E.heap[w.heap.size]? = some (spO ⟨0, 0⟩)) := by rw [hE.out]; exact heap_alloc_new _ _
  have HC : Hid (∀ W, Touch (fun _ => False) E W → W.cell? ⟨B.b, 1, none⟩ = some (.slice (some ⟨B.gp, 0, none⟩) S.pcs.length B.kp) ∧ W.cell? ⟨B.gp, i * 2, none⟩ = some (iV ((S.pc i).run : Int)) ∧ W.cell? ⟨B.gp, i * 2 + 1, none⟩ = some (u64 (S.pc i).pos)) := fun W t => by
    have hW := h.keep0 (HTE.out.trans t)
    exact ⟨hW.pcs.cell, hW.pc hi⟩
  have HLn : Hid (∀ W, Touch (fun _ => False) E W → Calls Try.prog 29 #[rP B.b 2, iV (i : Int)] W fun e w' => e = .returned (iV (S.len i)) ∧ w' = W) := fun W t => r_lengthOf (h.keep0 (HTE.out.trans t)).ord _ hi
  unfold SS.endOf
  simp only
  have l0 : (i : Int) < (S.pcs.length : Int) := by omega
  have l1 : (0 : Int) ≤ (i : Int) := by omega
  generalize S.len i = ln at *
  generalize (S.pc i).run = xr at *
  generalize (S.pc i).pos = xp at *
  generalize S.pcs.length = n at *
  have e1 : IntKind.u64.wrap ln = ln := by rw [IntKind.wrap_u64]; omega
  have e2 : IntKind.u64.wrap (xp + ln) = xp + ln := by rw [IntKind.wrap_u64]; omega
  obtain ⟨q1, q2, q3⟩ := HC.out E (Touch.refl _ _)
  clear h hi h0 hb
  go_enter Try.func59, Try.ntmps59
  go_upto_region 1 with fail
  rw [← hE.out]
  clear hE
  go_upto_region 2 with fail
  clear q1 q2 q3
  obtain ⟨we, hwe⟩ : ∃ W, Hid (W = E.alloc (.cells #[iV (xr : Int), u64 xp] 47)) := ⟨_, Eq.refl _⟩
  have HB : Hid (Touch (fun _ => False) E we ∧ E.heap.size ≤ E.heap.size ∧ we.heap[E.heap.size]? = some (spO ⟨xr, xp⟩)) := by rw [hwe.out]; exact ⟨(Touch.refl _ _).alloc _, Nat.le_refl _, heap_alloc_new _ _⟩
  rw [← hwe.out]
  clear hwe
  have HM : Hid (∀ W, Touch (fun _ => False) we W → (W.cell? ⟨E.heap.size, 1, none⟩ = some (u64 xp) ∧ W.frozen? ⟨E.heap.size, 1, none⟩ = false) ∧ Touch (fun _ => False) E W ∧ W.heap[E.heap.size]? = some (spO ⟨xr, xp⟩)) := fun W t => by
    have a := heap_keep t HB.out.2.2
    have b := spO_cells a
    exact ⟨⟨b.2.1, b.2.2.2⟩, HB.out.1.trans t, a⟩
  obtain ⟨m, hm⟩ : ∃ m, Hid (m = E.heap.size) := ⟨_, Eq.refl _⟩
  rw [← hm.out] at HM HB ⊢
  go_cut [5] (fun t wx => t = .pointer (some ⟨m, 0, none⟩) ∧ Hid (Touch (fun _ => False) E wx ∧ wx.heap[m]? = some (spO ⟨xr, xp + ln⟩)))
  case first =>
    obtain ⟨⟨k1, k2⟩, -⟩ := HM.out _ (Touch.refl _ we).drew
    go_wp2_with fail
    go_region_with (go_at_call 29; (with_reducible refine (HLn.out _ (HM.out _ (Touch.refl _ we).drew).2.1).mono ?_); rintro e w1 ⟨rfl, rfl⟩)
    all_goals (try go_wp2_with fail)
    all_goals go_meet
    all_goals (case rel => exact ⟨rfl, (HB.out.1.drew).fresh _ _ _ (Nat.le_of_eq hm.out.symm), spO_set1 (HM.out _ (Touch.refl _ we).drew).2.2⟩)
  case rest =>
    obtain ⟨rfl, HD⟩ := hcut
    obtain ⟨wf, hwf⟩ : ∃ we, we = wc := ⟨_, rfl⟩
    subst hwf
    obtain ⟨k0, k1, -, -⟩ := spO_cells HD.out.2
    have k2 := heap_keep HD.out.1 HEB.out
    obtain ⟨r0, r1, z0, z1⟩ := spO_cells k2
    obtain ⟨B0, hB0⟩ : ∃ m, Hid (m = w.heap.size) := ⟨_, Eq.refl _⟩
    rw [← hB0.out] at k2 r0 r1 z0 z1 ⊢
    have HF : Hid (Touch (fun _ => False) w ((wf.setCell ⟨B0, 0, none⟩ (iV (xr : Int))).setCell ⟨B0, 1, none⟩ (u64 (xp + ln)))) := by
      have hb : w.heap.size ≤ B0 := by rw [hB0.out]; omega
      exact ((HTE.out.trans HD.out.1).fresh _ _ _ hb).fresh _ _ _ hb
    have u0 : (wf.setCell ⟨B0, 0, none⟩ (iV (xr : Int))).cell? ⟨B0, 1, none⟩ = some (u64 0) := by rw [cell_of_block (heap_setCell_same _ _ _ _ k2)]; rfl
    obtain ⟨v0, v1, -, -⟩ := spO_cells (spO_set (yr := xr) (yp := xp + ln) k2)
    clear k2
    go_wp2_with fail
    refine bodyPost_ret (v := .agg #[iV (xr : Int), u64 (xp + ln)]) (by simp [results, Try.results59, go_sem, v0, v1]) rfl ?_
    exact ⟨rfl, HF.out⟩
end Go.Proofs.Ytnbphdmpbjahhab

/- Package seq: cut. -/
namespace Go.Proofs.Ytnbphdmpbjahhab
open Go.RowKit
set_option linter.unusedVariables false
set_option linter.unusedSimpArgs false
set_option maxRecDepth 100000

theorem Laid.after {w w1 w2 : World} {B : Bk} {S' : SS} (t : Touch B.has w w1) (h : Laid w1 w2 B S') : Laid w w2 B S' := by
  obtain ⟨B', h1, h2, h3, h4⟩ := h
  exact ⟨B', h1, h2, fun x hx => (h3 x hx).imp id (fun e => Nat.le_trans t.size e), t.trans h4⟩
theorem Laid.after0 {w w1 w2 : World} {B : Bk} {S' : SS} (t : Touch (fun _ => False) w w1) (h : Laid w1 w2 B S') : Laid w w2 B S' := h.after (t.mono fun _ _ e => False.elim e)
theorem Laid.step {w w1 w2 : World} {B B1 : Bk} {S1 S' : SS} (h0 : SeqM w1 B1 S1 ∧ B1.b = B.b ∧ (∀ x, B1.has x → B.has x ∨ w.heap.size ≤ x) ∧ Touch B.has w w1) (h : Laid w1 w2 B1 S') : Laid w w2 B S' := by
  obtain ⟨a, b, c, d⟩ := h0
  obtain ⟨B', h1, h2, h3, h4⟩ := h
  refine ⟨B', h1, h2.trans b, fun x hx => ?_, d.then h4 fun x hx e => ?_⟩
  · rcases h3 x hx with e | e
    · exact c x e
    · exact .inr (Nat.le_trans d.size e)
  · rcases c x e with e | e
    · exact e
    · omega
theorem Laid.more {w w1 w2 : World} {B : Bk} {S1 : SS} (h : Laid w w1 B S1) (t : Touch (fun _ => False) w1 w2) : Laid w w2 B S1 := by
  obtain ⟨B', h1, h2, h3, h4⟩ := h
  exact ⟨B', h1.keep0 t, h2, h3, h4.trans (t.mono fun _ _ e => False.elim e)⟩
theorem SeqM.laid {w : World} {B : Bk} {S : SS} (h : SeqM w B S) : Laid w w B S := ⟨B, h, rfl, fun x hx => .inl hx, Touch.refl _ _⟩
theorem SeqM.grow {w : World} {B : Bk} {S : SS} (h : SeqM w B S) (hs : S.total ≤ 1152921504606846976) (i : Nat) (hi : i < S.pcs.length) (hi0 : i ≠ 0) (m : Int) (hm : 0 ≤ S.len i + m) (hb : -1152921504606846976 ≤ m ∧ m ≤ 1152921504606846976) :
    Calls Try.prog 60 #[rP B.b 2, iV (i : Int), iV m] w fun e w' => e = .returned (.tuple #[]) ∧ SeqM w' B (S.grow i m) ∧ Touch B.has w w' := by
  refine (r_grow h.ord hs i hi hi0 m hm hb).mono ?_
  rintro e w' ⟨rfl, h1, t⟩
  have hap := h.apart
  simp only [List.nodup_cons, List.mem_cons, List.not_mem_nil, or_false, not_or, List.nodup_nil, and_true, not_false_eq_true] at hap
  obtain ⟨⟨n1, n2, n3⟩, ⟨n4, n5⟩, n6⟩ := hap
  have hbo := h.ord.ne
  obtain ⟨c, hc⟩ := h.blk
  refine ⟨rfl, ⟨⟨c, (t.block _ (lt_of_heap hc) hbo).trans hc⟩, h.runs.keep t hbo n2, h.pcs.keep t hbo n4, h1, h.idx.keep t hbo (Ne.symm n6), h.apart⟩, t.mono fun x _ e => .inr (.inr (.inr (.inl e)))⟩
set_option maxHeartbeats 16000000 in
theorem cut_any {w : World} {B : Bk} {S : SS} (h : SeqM w B S) (hI : Inv S) (place : Int) (hp : 0 ≤ place ∧ place ≤ S.total) :
    Calls Try.prog 58 #[sP B, iV place] w fun e w' => e = .returned (iV (S.cutAt place : Int)) ∧ Laid w w' B (S.cut place) := by
  have hsm := hI.smax
  obtain ⟨ha, hb, hc⟩ := hI.atOk (place - 1)
  have hpo := hI.pcOk ha
  have hz : S.len 0 = 0 := hI.ordF.zero
  have HA : Hid (Calls Try.prog 46 #[rP B.b 2, iV (place - 1)] w fun e w' => e = .returned (.tuple #[iV (S.cutAt place : Int), iV (atF S.len S.ord (place - 1)).2]) ∧ Touch (fun _ => False) w w') := r_at h.ord (Int.le_trans hI.smax (by decide)) (place - 1) ⟨by omega, by omega⟩
  have HLn : Hid (∀ W, Touch (fun _ => False) w W → Calls Try.prog 29 #[rP B.b 2, iV (S.cutAt place : Int)] W fun e w' => e = .returned (iV (S.len (S.cutAt place))) ∧ w' = W) := fun W t => r_lengthOf (h.keep0 t).ord _ ha
  have HM : Hid (∀ W, Touch (fun _ => False) w W → SeqM W B S) := fun W t => h.keep0 t
  have hrd : S.restAt place = S.len (S.cutAt place) - (atF S.len S.ord (place - 1)).2 - 1 := rfl
  have hln := hI.len_le (S.cutAt place)
  have HG : Hid (0 < S.restAt place → ∀ W, Touch (fun _ => False) w W → Calls Try.prog 60 #[rP B.b 2, iV (S.cutAt place : Int), iV (-S.restAt place)] W fun e w' => e = .returned (.tuple #[]) ∧ SeqM w' B (S.grow (S.cutAt place) (-S.restAt place)) ∧ Touch B.has W w') := fun hr W t => by
    refine (h.keep0 t).grow (by omega) (S.cutAt place) ha (fun e => ?_) _ ?_ ⟨?_, ?_⟩
    · rw [e] at hrd
      rw [hz] at hrd
      have : 0 ≤ (atF S.len S.ord (place - 1)).2 := hb
      omega
    · show 0 ≤ S.len (S.cutAt place) + -S.restAt place
      rw [hrd]
      have : 0 ≤ (atF S.len S.ord (place - 1)).2 := hb
      omega
    · have : 0 ≤ (atF S.len S.ord (place - 1)).2 := hb
      omega
    · omega
  have hgl : 0 < S.restAt place → (S.grow (S.cutAt place) (-S.restAt place)).len (S.cutAt place) = S.len (S.cutAt place) - S.restAt place := fun _ => by
    show S.len _ + (if S.cutAt place = S.cutAt place then _ else _) = _
    rw [if_pos rfl]; omega
  have HE : Hid (0 < S.restAt place → ∀ W, SeqM W B (S.grow (S.cutAt place) (-S.restAt place)) → Calls Try.prog 59 #[sP B, iV (S.cutAt place : Int)] W fun e w' => e = .returned (.agg #[iV (((S.grow (S.cutAt place) (-S.restAt place)).endOf (S.cutAt place)).run : Int), u64 ((S.grow (S.cutAt place) (-S.restAt place)).endOf (S.cutAt place)).pos]) ∧ Touch (fun _ => False) W w') := fun hr W hW => by
    have hb' : 0 ≤ (atF S.len S.ord (place - 1)).2 := hb
    have h5 : (rn S.runs (S.pc (S.cutAt place)).run).first.k + (S.pc (S.cutAt place)).pos + S.len (S.cutAt place) ≤ 9007199254740992 := hpo.2.2.2.1
    have h6 : 0 ≤ (rn S.runs (S.pc (S.cutAt place)).run).first.k := hpo.2.2.1
    have h7 := hgl hr
    refine endOf_any hW _ ha hpo.2.1 ⟨?_, ?_⟩
    · rw [h7]; omega
    · show (S.pc (S.cutAt place)).pos + (S.grow (S.cutAt place) (-S.restAt place)).len (S.cutAt place) ≤ _
      rw [h7]; omega
  have hi0 : 0 < S.restAt place → S.cutAt place ≠ 0 := fun hr e => by
    rw [e] at hrd
    rw [hz] at hrd
    have : 0 ≤ (atF S.len S.ord (place - 1)).2 := hb
    omega
  have HP : Hid (0 < S.restAt place → ∀ W, SeqM W B (S.grow (S.cutAt place) (-S.restAt place)) → Calls Try.prog 61 #[sP B, iV (S.cutAt place : Int), iV (S.cutAt place : Int), .agg #[iV (((S.grow (S.cutAt place) (-S.restAt place)).endOf (S.cutAt place)).run : Int), u64 ((S.grow (S.cutAt place) (-S.restAt place)).endOf (S.cutAt place)).pos], iV (S.restAt place)] W fun e w' => e = .returned (.tuple #[]) ∧ Laid W w' B (S.cut place)) := fun hr W hW => by
    have hcut : S.cut place = (S.grow (S.cutAt place) (-S.restAt place)).addPiece (S.cutAt place) (S.cutAt place) ((S.grow (S.cutAt place) (-S.restAt place)).endOf (S.cutAt place)) (S.restAt place) := if_pos hr
    rw [hcut]
    refine addPiece_any hW _ _ _ _ ha ha (by omega) ?_ hI.pmax
    have : (S.grow (S.cutAt place) (-S.restAt place)).total = S.total + -S.restAt place := sum_grow hI.ordF ha (hi0 hr) _
    rw [this]; omega
  have HN : Hid (¬ 0 < S.restAt place → S.cut place = S) := fun hr => if_neg hr
  have HS : Hid (∀ W, Touch (fun _ => False) w W → Laid w W B S) := fun W t => h.laid.more t
  have e1 : IntKind.i64.wrap (place - 1) = place - 1 := by rw [IntKind.wrap_i64]; omega
  have e2 : IntKind.i64.wrap (S.len (S.cutAt place) - (atF S.len S.ord (place - 1)).2) = S.len (S.cutAt place) - (atF S.len S.ord (place - 1)).2 := by
    have : 0 ≤ (atF S.len S.ord (place - 1)).2 := hb
    have : (atF S.len S.ord (place - 1)).2 ≤ S.len (S.cutAt place) := hc
    rw [IntKind.wrap_i64]; omega
  have e3 : IntKind.i64.wrap (S.len (S.cutAt place) - (atF S.len S.ord (place - 1)).2 - 1) = S.restAt place := by
    have : 0 ≤ (atF S.len S.ord (place - 1)).2 := hb
    have : (atF S.len S.ord (place - 1)).2 ≤ S.len (S.cutAt place) := hc
    rw [IntKind.wrap_i64, hrd]; omega
  have e4 : IntKind.i64.wrap (-S.restAt place) = -S.restAt place := by
    have : 0 ≤ (atF S.len S.ord (place - 1)).2 := hb
    have : (atF S.len S.ord (place - 1)).2 ≤ S.len (S.cutAt place) := hc
    rw [IntKind.wrap_i64]; omega
  obtain ⟨S', hS'⟩ : ∃ s, Hid (s = S.cut place) := ⟨_, Eq.refl _⟩
  rw [← hS'.out] at HP HN ⊢
  generalize (S.grow (S.cutAt place) (-S.restAt place)).endOf (S.cutAt place) = ef at *
  generalize S.grow (S.cutAt place) (-S.restAt place) = Sg at *
  generalize S.len (S.cutAt place) = ln at *
  generalize (atF S.len S.ord (place - 1)).2 = wi at *
  generalize S.restAt place = rest at *
  generalize S.cutAt place = i at *
  obtain ⟨er, ep⟩ := ef
  simp only at HE HP
  clear h hI hsm ha hb hc hpo hz hrd hln hgl hi0
  go_enter Try.func58, Try.ntmps58
  go_wp2_with fail
  refine HA.out.mono ?_
  rintro e W1 ⟨rfl, t1⟩
  have HT1 : Hid (Touch (fun _ => False) w W1) := t1
  clear t1 HA
  go_wp2_with fail
  refine (HLn.out _ HT1.out).mono ?_
  rintro e W2 ⟨rfl, hw2⟩
  rw [hw2]
  clear hw2 HLn
  by_cases hr : 0 < rest
  · have HG2 : Hid (∀ W, Touch (fun _ => False) w W → Calls Try.prog 60 #[rP B.b 2, iV (i : Int), iV (-rest)] W fun e w' => e = .returned (.tuple #[]) ∧ SeqM w' B Sg ∧ Touch B.has W w') := HG.out hr
    have HE2 : Hid (∀ W, SeqM W B Sg → Calls Try.prog 59 #[sP B, iV (i : Int)] W fun e w' => e = .returned (.agg #[iV (er : Int), u64 ep]) ∧ Touch (fun _ => False) W w') := HE.out hr
    have HP2 : Hid (∀ W, SeqM W B Sg → Calls Try.prog 61 #[sP B, iV (i : Int), iV (i : Int), .agg #[iV (er : Int), u64 ep], iV rest] W fun e w' => e = .returned (.tuple #[]) ∧ Laid W w' B S') := HP.out hr
    clear HG HE HP HN
    go_wp2_with fail
    refine (HG2.out _ HT1.out).mono ?_
    rintro e W3 ⟨rfl, h3, t3⟩
    have H3 : Hid (SeqM W3 B Sg ∧ Touch B.has w W3) := ⟨h3, (HT1.out.mono fun _ _ e => False.elim e).trans t3⟩
    clear h3 t3 HG2
    go_wp2_with fail
    refine (HE2.out _ H3.out.1).mono ?_
    rintro e W4 ⟨rfl, t4⟩
    have H4 : Hid (SeqM W4 B Sg ∧ Touch B.has w W4) := ⟨H3.out.1.keep0 t4, H3.out.2.trans (t4.mono fun _ _ e => False.elim e)⟩
    clear t4 HE2 H3
    go_wp2_with fail
    refine (HP2.out _ H4.out.1).mono ?_
    rintro e W5 ⟨rfl, l5⟩
    have H5 : Hid (Laid w W5 B S') := l5.after H4.out.2
    clear l5 HP2
    go_wp2_with fail
    go_ret
    exact ⟨rfl, H5.out⟩
  · have HX : Hid (Laid w W1 B S') := by rw [HN.out (by omega)]; exact HS.out _ HT1.out
    clear HG HE HP HN
    go_wp2_with fail
    go_ret
    exact ⟨rfl, HX.out⟩
end Go.Proofs.Ytnbphdmpbjahhab
