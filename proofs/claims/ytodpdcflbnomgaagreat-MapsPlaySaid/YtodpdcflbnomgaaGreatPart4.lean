/- What the search says of an id, no Go in it: an id is shown if no range has it. -/
import Derived.Test.YtodpdcflbnomgaaGreatPart3
import Derived.Test.YtodpdcflbnomgaaGreatIdHas
import Derived.BigQuiet
import Derived.Deep.RegionHeld3
namespace Go.Proofs.YtodpdcflbnomgaaGreat
set_option linter.unusedVariables false
set_option linter.unusedSimpArgs false

theorem lessI_iff (a b c d : Int) : lessI a b c d = true ↔ a < c ∨ (a = c ∧ b < d) := by
  unfold lessI
  by_cases h : a = c
  · rw [if_pos h, decide_eq_true_iff]; constructor
    · intro q; exact .inr ⟨h, q⟩
    · rintro (q | ⟨_, q⟩)
      · omega
      · exact q
  · rw [if_neg h, decide_eq_true_iff]; constructor
    · intro q; exact .inl q
    · rintro (q | ⟨q, _⟩)
      · exact q
      · exact absurd q h
theorem beg_low (r : Rg) (c k : Int) : begC r c k < 0 ↔ r.c < c ∨ (r.c = c ∧ r.f < k) := by
  rw [← lessI_iff]
  unfold begC
  by_cases h : lessI r.c r.f c k = true
  · rw [if_pos h]; simp [h]
  · rw [if_neg h]; split <;> simp [h]
theorem beg_zero (r : Rg) (c k : Int) : begC r c k = 0 ↔ r.c = c ∧ r.f = k := by
  have h1 := lessI_iff r.c r.f c k
  have h2 := lessI_iff c k r.c r.f
  unfold begC
  by_cases g1 : lessI r.c r.f c k = true
  · rw [if_pos g1]
    rcases h1.1 g1 with q | ⟨q, p⟩ <;> constructor <;> intro z <;> omega
  · rw [if_neg g1]
    by_cases g2 : lessI c k r.c r.f = true
    · rw [if_pos g2]
      rcases h2.1 g2 with q | ⟨q, p⟩ <;> constructor <;> intro z <;> omega
    · rw [if_neg g2]
      have n1 : ¬ (r.c < c ∨ (r.c = c ∧ r.f < k)) := fun z => g1 (h1.2 z)
      have n2 : ¬ (c < r.c ∨ (c = r.c ∧ k < r.f)) := fun z => g2 (h2.2 z)
      refine ⟨fun _ => by omega, fun _ => rfl⟩
/-- They stand one behind the other, and each is right. -/
def Rise (l : List Rg) : Prop := l.Pairwise (fun a b => a.c < b.c ∨ (a.c = b.c ∧ a.t ≤ b.f)) ∧ ∀ r ∈ l, r.ok = true
theorem Rise.of_canon : ∀ (l : List Rg), Canon (tns l) → Rise l
  | [], _ => ⟨.nil, by simp⟩
  | x :: l, h => by
    have ih := Rise.of_canon l h.tail
    refine ⟨List.pairwise_cons.2 ⟨fun y hy => ?_, ih.1⟩, fun r hr => ?_⟩
    · have := h.bef y.tn (List.mem_map_of_mem hy)
      unfold Bef at this
      exact this
    · rcases List.mem_cons.1 hr with rfl | hr
      · have := h.ok
        rw [Rg.tn_ok] at this; exact this
      · exact ih.2 r hr
theorem Rise.get {l : List Rg} (h : Rise l) {i j : Nat} (hij : i < j) (hj : j < l.length) : l[i].c < l[j].c ∨ (l[i].c = l[j].c ∧ l[i].t ≤ l[j].f) := List.pairwise_iff_getElem.1 h.1 i j (by omega) hj hij
theorem Rise.ok {l : List Rg} (h : Rise l) {i : Nat} (hi : i < l.length) : l[i].f < l[i].t := by
  have := Rg.ok_iff.1 (h.2 l[i] (List.getElem_mem hi)); omega
theorem getD_at (l : List Rg) (i : Nat) (h : i < l.length) : l.getD i ⟨0, 0, 0⟩ = l[i] := by rw [List.getD_eq_getElem?_getD, List.getElem?_eq_getElem h]; rfl
/-- How many begin ahead of the id. -/
theorem bsI_spec {l : List Rg} (h : Rise l) (c k : Int) : bsI l c k ≤ l.length ∧ (∀ (t : Nat) (ht : t < l.length), t < bsI l c k → begC l[t] c k < 0) ∧ (∀ (t : Nat) (ht : t < l.length), bsI l c k ≤ t → 0 ≤ begC l[t] c k) := by
  have mono : ∀ i j (hij : i < j) (hj : j < l.length), begC l[j] c k < 0 → begC (l[i]'(by omega)) c k < 0 := by
    intro i j hij hj hl
    rw [beg_low] at hl ⊢
    have h1 := h.get hij hj
    have h2 := h.ok (i := i) (by omega)
    omega
  obtain ⟨m, hm, h1, h2⟩ : ∃ m, m ≤ l.length ∧ (∀ (t : Nat) (ht : t < l.length), t < m → begC l[t] c k < 0) ∧ (∀ (t : Nat) (ht : t < l.length), m ≤ t → 0 ≤ begC l[t] c k) := by
    have : ∀ n, n ≤ l.length → ∃ m, m ≤ n ∧ (∀ (t : Nat) (ht : t < l.length), t < m → begC l[t] c k < 0) ∧ (∀ (t : Nat) (ht : t < l.length), m ≤ t → t < n → 0 ≤ begC l[t] c k) := by
      intro n
      induction n with
      | zero => exact fun _ => ⟨0, Nat.le_refl _, fun t _ q => by omega, fun t _ _ q => by omega⟩
      | succ n ih =>
        intro hn
        obtain ⟨m, e1, e2, e3⟩ := ih (by omega)
        by_cases hl : begC (l[n]'(by omega)) c k < 0
        · refine ⟨n + 1, Nat.le_refl _, fun t ht q => ?_, fun t _ q p => by omega⟩
          by_cases ht' : t = n
          · subst ht'; exact hl
          · exact mono t n (by omega) (by omega) hl
        · refine ⟨m, by omega, e2, fun t ht q p => ?_⟩
          by_cases ht' : t = n
          · subst ht'; omega
          · exact e3 t ht q (by omega)
    obtain ⟨m, e1, e2, e3⟩ := this l.length (Nat.le_refl _)
    exact ⟨m, e1, e2, fun t ht q => e3 t ht q ht⟩
  have e : bsI l c k = m := by
    refine bsH_cut l.length 0 l.length m (by omega) (by omega) hm (fun t ht => ?_) (fun t q p => ?_)
    · rw [lowR, getD_at l t (by omega)]; exact decide_eq_true (h1 t (by omega) ht)
    · rw [lowR, getD_at l t p]; have := h2 t p q; exact decide_eq_false (by omega)
  rw [e]; exact ⟨hm, h1, h2⟩
theorem hasB_iff {l : List Rg} (h : Rise l) (c k : Int) : hasB l c k = true ↔ ∃ (i : Nat) (hi : i < l.length), l[i].c = c ∧ l[i].f ≤ k ∧ k < l[i].t := by
  unfold hasB
  rw [List.filter_eq_self.2 h.2, List.any_eq_true]
  constructor
  · rintro ⟨r, hr, hh⟩
    obtain ⟨i, hi, rfl⟩ := List.mem_iff_getElem.1 hr
    exact ⟨i, hi, Tn.has_iff.1 (show (l[i]).tn.has c k = true from hh)⟩
  · rintro ⟨i, hi, q⟩
    exact ⟨l[i], List.getElem_mem hi, (Tn.has_iff (x := (l[i]).tn)).2 q⟩
/-- isShown, as a function of the hidden ranges. -/
def shownB (l : List Rg) (c k : Int) : Bool := !bsF l c k && (decide (bsI l c k = 0) || !hasB ((l.take (bsI l c k)).drop (bsI l c k - 1)) c k)
theorem one_at (l : List Rg) (n : Nat) (h0 : 0 < n) (hn : n ≤ l.length) : (l.take n).drop (n - 1) = [l[n - 1]'(by omega)] := by
  obtain ⟨m, rfl⟩ : ∃ m, n = m + 1 := ⟨n - 1, by omega⟩
  simp only [Nat.add_sub_cancel]
  rw [List.take_succ_eq_append_getElem (by omega), List.drop_left' (by simp; omega)]
theorem shown_spec {l : List Rg} (h : Rise l) (c k : Int) : shownB l c k = !hasB l c k := by
  obtain ⟨h0, h1, h2⟩ := bsI_spec h c k
  have hb := hasB_iff h c k
  unfold shownB bsF
  generalize bsI l c k = n at *
  have hs : ∀ (hn : 0 < n), hasB ((l.take n).drop (n - 1)) c k = true ↔ (l[n - 1]'(by omega)).c = c ∧ (l[n - 1]'(by omega)).f ≤ k ∧ k < (l[n - 1]'(by omega)).t := by
    intro hn
    rw [one_at l n hn h0, hasB_iff ⟨List.pairwise_singleton _ _, fun r hr => by rw [List.mem_singleton.1 hr]; exact h.2 _ (List.getElem_mem _)⟩]
    constructor
    · rintro ⟨i, hi, q⟩
      have : i = 0 := by simpa using hi
      subst this; exact q
    · intro q; exact ⟨0, by simp, q⟩
  rw [Bool.eq_iff_iff]
  constructor
  · intro q
    rw [Bool.and_eq_true, Bool.not_eq_true', Bool.or_eq_true, Bool.not_eq_true', decide_eq_true_iff] at q
    rw [Bool.not_eq_true', Bool.eq_false_iff]
    intro hh
    obtain ⟨i, hi, e1, e2, e3⟩ := hb.1 hh
    by_cases hin : i < n
    · have hn1 : n - 1 < l.length := by omega
      have hlow := (beg_low _ c k).1 (h1 (n - 1) hn1 (by omega))
      have hi1 : i = n - 1 := by
        by_cases hc : i = n - 1
        · exact hc
        · have := h.get (i := i) (j := n - 1) (by omega) hn1
          omega
      subst hi1
      have := (hs (by omega)).2 ⟨e1, e2, e3⟩
      rcases q.2 with z | z
      · omega
      · rw [this] at z; cases z
    · have hnl : n < l.length := by omega
      have a1 := h2 i hi (by omega)
      have a2 := h2 n hnl (Nat.le_refl _)
      have z1 : ¬ begC l[i] c k < 0 := by omega
      have z2 : ¬ begC l[n] c k < 0 := by omega
      rw [beg_low] at z1 z2
      have hz : begC l[n] c k = 0 := by
        rw [beg_zero]
        by_cases hc : n = i
        · subst hc; omega
        · have := h.get (i := n) (j := i) (by omega) hi
          have o1 := h.ok hnl
          omega
      have := q.1
      rw [getD_at l n hnl, hz] at this
      simp [hnl] at this
  · intro q
    rw [Bool.not_eq_true', Bool.eq_false_iff] at q
    rw [Bool.and_eq_true, Bool.not_eq_true', Bool.or_eq_true, Bool.not_eq_true', decide_eq_true_iff]
    refine ⟨?_, ?_⟩
    · rw [Bool.eq_false_iff]
      intro z
      rw [Bool.and_eq_true, decide_eq_true_iff, decide_eq_true_iff] at z
      obtain ⟨hnl, z⟩ := z
      rw [getD_at l n hnl, beg_zero] at z
      have := h.ok hnl
      exact q (hb.2 ⟨n, hnl, z.1, by omega, by omega⟩)
    · by_cases hn : n = 0
      · exact .inl hn
      · refine .inr ?_
        rw [Bool.eq_false_iff]
        intro z
        have := (hs (by omega)).1 z
        exact q (hb.2 ⟨n - 1, by omega, this⟩)
end Go.Proofs.YtodpdcflbnomgaaGreat

/- maps: isShown. -/
namespace Go.Proofs.YtodpdcflbnomgaaGreat
open Go.RowKit
set_option linter.unusedVariables false
set_option linter.unusedSimpArgs false
set_option maxRecDepth 100000

set_option maxHeartbeats 8000000 in
theorem shownM_any (g : Nat) (l : List Rg) (v : Value) (c k : Int) (w : World) (hg : w.cell? ⟨g, 2, none⟩ = some v) (hs : SlR w v l) (hr : Rise l) (hll : l.length ≤ 1073741824) :
    Calls Tryz.prog 25 #[.pointer (some ⟨g, 0, none⟩), idV c k] w fun e w' => e = .returned (.bool (!hasB l c k)) ∧ Touch (fun _ => False) w w' := by
  have HSl : Hid (SlR w v l) := hs
  have HG : Hid (w.cell? ⟨g, 2, none⟩ = some v) := hg
  have hI := (bsI_spec hr c k).1
  have HS : Hid ((!hasB l c k) = (!bsF l c k && (decide (bsI l c k = 0) || !hasB ((l.take (bsI l c k)).drop (bsI l c k - 1)) c k))) := (shown_spec hr c k).symm
  generalize hR : (!hasB l c k) = R at *
  clear hR
  obtain ⟨E, hE⟩ : ∃ E, Hid (E = w.alloc (idO c k)) := ⟨_, Eq.refl _⟩
  have HTE : Hid (Touch (fun _ => False) w E) := by rw [hE.out]; exact (Touch.refl _ _).alloc _
  have HB : Hid (E.heap[w.heap.size]? = some (idO c k)) := by rw [hE.out]; exact heap_alloc_new _ _
  have HK : Hid (∀ W, Touch (fun _ => False) E W → W.cell? ⟨g, 2, none⟩ = some v ∧ W.cell? ⟨w.heap.size, 0, none⟩ = some (.int .u64 c) ∧ W.cell? ⟨w.heap.size, 1, none⟩ = some (.int .u64 k)) := fun W t => by
    have e := (t.block _ (lt_of_heap HB.out) id).trans HB.out
    refine ⟨?_, by rw [cell_of_block e]; rfl, by rw [cell_of_block e]; rfl⟩
    rw [World.cell?_of_block ((HTE.out.trans t).block _ (World.block_lt_of_cell? _ _ HG.out) id)]; exact HG.out
  have HC : Hid (∀ W, Touch (fun _ => False) E W → Calls Tryz.prog 45 #[v, idV c k, .func (.func 46) #[] #[]] W fun e w' => e = .returned (.tuple #[.int .i64 (bsI l c k : Int), .bool (bsF l c k)]) ∧ Touch (fun _ => False) W w') := fun W t => bsearch_any l v c k W (HSl.out.touch (HTE.out.trans t)) hll
  have hv1 : v.oneCell' = true := by obtain ⟨ao, cap, rfl, _⟩ := hs; rfl
  obtain ⟨ao, cap, rfl, h1, h2, h3⟩ := hs.shape
  generalize hF : bsF l c k = F at *
  generalize hn : bsI l c k = n at *
  clear hF hn hs hg
  cases F with
  | true =>
      have HR : Hid (R = false) := by rw [Hid, HS.out]; rfl
      clear HS
      have S0 := HK.out E (Touch.refl _ _)
      have S1 := HK.out E.drew (Touch.refl _ _).drew
      go_enter Tryz.func25, Tryz.ntmps25
      go_upto_region 1 with fail
      rw [← hE.out]
      clear hE HB
      go_region_held3 (fun W => W.cell? ⟨g, 2, none⟩ = some (.slice ao l.length cap) ∧ W.cell? ⟨w.heap.size, 0, none⟩ = some (.int .u64 c) ∧ W.cell? ⟨w.heap.size, 1, none⟩ = some (.int .u64 k)) (first | assumption)
        (first | (go_at_call 45; (with_reducible refine (HC.out _ (by first | exact Touch.refl _ _ | exact (Touch.refl _ _).drew)).mono ?_); rintro e w' ⟨rfl, hT⟩; have TT : Touch (fun _ => False) E w' := (by first | exact hT | exact (Touch.refl _ _).drew.trans hT); have S9 := HK.out _ TT; clear hT))
      all_goals (try go_wp2_with fail)
      all_goals (go_quiet (fail))
      all_goals (go_wp2_with fail)
      all_goals go_ret
      all_goals exact ⟨by rw [HR.out]; rfl, HTE.out.trans (TT.trans ⟨rfl, rfl, rfl, Nat.le_refl _, fun _ _ _ => rfl⟩)⟩
  | false =>
    rcases Nat.eq_zero_or_pos n with h0 | h0
    · subst h0
      have HR : Hid (R = true) := by rw [Hid, HS.out]; rfl
      clear HS
      have S0 := HK.out E (Touch.refl _ _)
      have S1 := HK.out E.drew (Touch.refl _ _).drew
      go_enter Tryz.func25, Tryz.ntmps25
      go_upto_region 1 with fail
      rw [← hE.out]
      clear hE HB
      go_region_held3 (fun W => W.cell? ⟨g, 2, none⟩ = some (.slice ao l.length cap) ∧ W.cell? ⟨w.heap.size, 0, none⟩ = some (.int .u64 c) ∧ W.cell? ⟨w.heap.size, 1, none⟩ = some (.int .u64 k)) (first | assumption)
        (first | (go_at_call 45; (with_reducible refine (HC.out _ (by first | exact Touch.refl _ _ | exact (Touch.refl _ _).drew)).mono ?_); rintro e w' ⟨rfl, hT⟩; have TT : Touch (fun _ => False) E w' := (by first | exact hT | exact (Touch.refl _ _).drew.trans hT); have S9 := HK.out _ TT; clear hT))
      all_goals (try go_wp2_with fail)
      all_goals (go_quiet (fail))
      all_goals (go_wp2_with fail)
      all_goals go_ret
      all_goals exact ⟨by rw [HR.out]; rfl, HTE.out.trans (TT.trans ⟨rfl, rfl, rfl, Nat.le_refl _, fun _ _ _ => rfl⟩)⟩
    · obtain ⟨m, hnm⟩ : ∃ m, n = m + 1 := ⟨n - 1, by omega⟩
      have hcm : ¬ cap = m := by omega
      have hq := (HSl.out.upto n hI).from m (by rw [List.length_take]; omega)
      rw [if_neg hcm] at hq
      have hl1 : ((l.take n).drop m).length = 1 := by rw [List.length_drop, List.length_take]; omega
      have HR : Hid (R = !hasB ((l.take n).drop m) c k) := by
        rw [Hid, HS.out, show n - 1 = m by omega]
        simp only [Bool.not_false, Bool.true_and]
        rw [show decide (n = 0) = false from by simp; omega]; rfl
      have HH : Hid (∀ W, Touch (fun _ => False) E W → Calls Tryz.prog 47 #[.slice (ao.map (fun x => x.add (m * 3))) (n - m) (cap - m), idV c k] W fun e w' => e = .returned (.bool (hasB ((l.take n).drop m) c k)) ∧ Touch (fun _ => False) W w') := fun W t => has_any _ _ c k W (hq.touch (HTE.out.trans t)) (by omega)
      generalize hasB ((l.take n).drop m) c k = hb at *
      have hm0 : (0 : Int) ≤ (m : Int) := by omega
      have hm1 : (m : Int) ≤ (n : Int) := by omega
      have hm2 : (n : Int) ≤ (cap : Int) := by omega
      have hm3 : (n : Int) ≤ 1073741824 := by omega
      have hw : IntKind.i64.wrap ((n : Int) - 1) = (m : Int) := by rw [IntKind.wrap_i64]; omega
      have hn0 : ((n : Int) == 0) = false := by simp; omega
      clear HS hq hl1 hI h0 h1 hnm
      cases hb with
      | false =>
          have S0 := HK.out E (Touch.refl _ _)
          have S1 := HK.out E.drew (Touch.refl _ _).drew
          go_enter Tryz.func25, Tryz.ntmps25
          go_upto_region 1 with fail
          rw [← hE.out]
          clear hE HB
          go_region_held3 (fun W => W.cell? ⟨g, 2, none⟩ = some (.slice ao l.length cap) ∧ W.cell? ⟨w.heap.size, 0, none⟩ = some (.int .u64 c) ∧ W.cell? ⟨w.heap.size, 1, none⟩ = some (.int .u64 k)) (first | assumption)
            (first | (go_at_call 45; (with_reducible refine (HC.out _ (by first | exact Touch.refl _ _ | exact (Touch.refl _ _).drew)).mono ?_); rintro e w' ⟨rfl, hT⟩; have TT : Touch (fun _ => False) E w' := (by first | exact hT | exact (Touch.refl _ _).drew.trans hT); have S9 := HK.out _ TT; clear hT))
          all_goals (try go_wp2_with fail)
          all_goals (go_region_held3 (fun W => W.cell? ⟨g, 2, none⟩ = some (.slice ao l.length cap) ∧ W.cell? ⟨w.heap.size, 0, none⟩ = some (.int .u64 c) ∧ W.cell? ⟨w.heap.size, 1, none⟩ = some (.int .u64 k)) (first | assumption)
            (first | (go_at_call 47; (with_reducible refine (HH.out _ (by first | assumption | exact Touch.drew (by assumption))).mono ?_); rintro e w' ⟨rfl, hT⟩; have T2 : Touch (fun _ => False) E w' := (by first | exact Touch.trans (by assumption) hT | exact (Touch.drew (by assumption)).trans hT); have S8 := HK.out _ T2; clear hT)))
          all_goals (try go_wp2_with fail)
          all_goals go_ret
          all_goals exact ⟨by rw [HR.out]; rfl, HTE.out.trans T2⟩
      | true =>
          have S0 := HK.out E (Touch.refl _ _)
          have S1 := HK.out E.drew (Touch.refl _ _).drew
          go_enter Tryz.func25, Tryz.ntmps25
          go_upto_region 1 with fail
          rw [← hE.out]
          clear hE HB
          go_region_held3 (fun W => W.cell? ⟨g, 2, none⟩ = some (.slice ao l.length cap) ∧ W.cell? ⟨w.heap.size, 0, none⟩ = some (.int .u64 c) ∧ W.cell? ⟨w.heap.size, 1, none⟩ = some (.int .u64 k)) (first | assumption)
            (first | (go_at_call 45; (with_reducible refine (HC.out _ (by first | exact Touch.refl _ _ | exact (Touch.refl _ _).drew)).mono ?_); rintro e w' ⟨rfl, hT⟩; have TT : Touch (fun _ => False) E w' := (by first | exact hT | exact (Touch.refl _ _).drew.trans hT); have S9 := HK.out _ TT; clear hT))
          all_goals (try go_wp2_with fail)
          all_goals (go_region_held3 (fun W => W.cell? ⟨g, 2, none⟩ = some (.slice ao l.length cap) ∧ W.cell? ⟨w.heap.size, 0, none⟩ = some (.int .u64 c) ∧ W.cell? ⟨w.heap.size, 1, none⟩ = some (.int .u64 k)) (first | assumption)
            (first | (go_at_call 47; (with_reducible refine (HH.out _ (by first | assumption | exact Touch.drew (by assumption))).mono ?_); rintro e w' ⟨rfl, hT⟩; have T2 : Touch (fun _ => False) E w' := (by first | exact Touch.trans (by assumption) hT | exact (Touch.drew (by assumption)).trans hT); have S8 := HK.out _ T2; clear hT)))
          all_goals (try go_wp2_with fail)
          all_goals go_ret
          all_goals exact ⟨by rw [HR.out]; rfl, HTE.out.trans T2⟩
end Go.Proofs.YtodpdcflbnomgaaGreat
