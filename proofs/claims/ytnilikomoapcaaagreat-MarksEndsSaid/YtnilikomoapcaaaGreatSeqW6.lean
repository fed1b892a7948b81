/- Package seq: New, Insert, At. -/
import Derived.Test.YtnilikomoapcaaaGreatSqO
namespace Go.Proofs.YtnilikomoapcaaaGreat
open Go.RowKit
set_option linter.unusedVariables false
set_option linter.unusedSimpArgs false
set_option maxRecDepth 100000

theorem Inv.new : Inv .new := by
  have hf : RowF 1 [] (fun _ => (0 : Int)) := ⟨by omega, List.nodup_nil, fun x => ⟨fun h => (List.not_mem_nil h).elim, fun h => absurd h.2 (by omega)⟩, fun _ => Int.le_refl _, rfl, fun _ _ => rfl⟩
  have hz : ∀ r, rn SS.new.runs r = .zero := fun r => by
    by_cases h : r = 0
    · subst h; rfl
    · exact rn_out (by show 1 ≤ r; omega)
  refine ⟨rfl, by decide, by decide, by decide, by decide, fun r h1 h2 => absurd h2 (by show ¬ r < 1; omega), fun r => ?_, rfl, hf, hf, fun i h1 h2 => absurd h2 (by show ¬ i < 1; omega), List.Pairwise.nil⟩
  rw [hz r]
  exact ⟨by decide, by decide, by decide, by decide, by decide, by decide⟩
theorem row_new {w : World} {b k g : Nat} (hc : w.cell? ⟨b, k, none⟩ = some (.slice (some ⟨g, 0, none⟩) 1 1)) (hb : b ≠ g) (hg : w.heap[g]? = some (.cells #[iV 0, iV 0, iV 0, iV 0, iV 0] 111 (0, 0))) : RowAt w b k g 1 1 [] (fun _ => 0) := by
  refine ⟨[⟨0, 0, 0, 0, 0⟩], .nil, ⟨hc, hb, _, hg, rfl, Nat.le_refl _, by decide, rfl⟩, rfl, RowOk.new, rfl, fun x => ?_⟩
  by_cases h : x = 0
  · subst h; rfl
  · rw [gt_out (by show 1 ≤ x; omega)]
set_option maxHeartbeats 8000000 in
theorem new_any (w : World) : Calls Tryz.prog 7 #[] w fun e w' => ∃ B, e = .returned (sP B) ∧ SeqM w' B .new ∧ (∀ x, B.has x → w.heap.size ≤ x) ∧ Touch (fun _ => False) w w' := by
  have bz1 : ∀ W : World, (Instr.buildSlice 67 1 #[(0, .agg #[u64 0, u64 0, u64 0, u64 0, u64 0, u64 0, iV 0, u64 0, iV 0, u64 0, iV 0])]).run Tryz.prog W = .ok (.slice (some ⟨W.heap.size, 0, none⟩) 1 1) (W.alloc (.cells #[u64 0, u64 0, u64 0, u64 0, u64 0, u64 0, iV 0, u64 0, iV 0, u64 0, iV 0] 66)) := fun W => by kernel_rfl
  have bz2 : ∀ W : World, (Instr.buildSlice 68 1 #[(0, .agg #[iV 0, u64 0])]).run Tryz.prog W = .ok (.slice (some ⟨W.heap.size, 0, none⟩) 1 1) (W.alloc (.cells #[iV 0, u64 0] 64)) := fun W => by kernel_rfl
  have hw := heap_two w (.cells #[u64 0, u64 0, u64 0, u64 0, u64 0, u64 0, iV 0, u64 0, iV 0, u64 0, iV 0] 66) (.cells #[iV 0, u64 0] 64)
  obtain ⟨E, hE⟩ : ∃ E, Hid (E = (w.alloc (.cells #[u64 0, u64 0, u64 0, u64 0, u64 0, u64 0, iV 0, u64 0, iV 0, u64 0, iV 0] 66)).alloc (.cells #[iV 0, u64 0] 64)) := ⟨_, Eq.refl _⟩
  have HE : Hid (Touch (fun _ => False) w E ∧ E.heap[w.heap.size]? = some (.cells #[u64 0, u64 0, u64 0, u64 0, u64 0, u64 0, iV 0, u64 0, iV 0, u64 0, iV 0] 66) ∧ E.heap[w.heap.size + 1]? = some (.cells #[iV 0, u64 0] 64) ∧ w.heap.size + 2 ≤ E.heap.size) := by
    rw [hE.out]
    exact ⟨((Touch.refl _ _).alloc _).alloc _, hw.1, hw.2, by simp⟩
  clear hw
  go_enter Tryz.func7, Tryz.ntmps7
  go_wp2_with fail
  rw [← hE.out]
  clear hE bz1 bz2
  refine (newRow_any E).mono ?_
  rintro e W1 ⟨g1, rfl, q1, q2, t1⟩
  have H1 : Hid (E.heap.size ≤ g1 ∧ W1.heap[g1]? = some (.cells #[iV 0, iV 0, iV 0, iV 0, iV 0] 111 (0, 0)) ∧ Touch (fun _ => False) E W1) := ⟨q1, q2, t1⟩
  clear q1 q2 t1
  go_wp2_with fail
  refine (newRow_any W1).mono ?_
  rintro e W2 ⟨g2, rfl, q1, q2, t1⟩
  have H2 : Hid (W1.heap.size ≤ g2 ∧ W2.heap[g2]? = some (.cells #[iV 0, iV 0, iV 0, iV 0, iV 0] 111 (0, 0)) ∧ Touch (fun _ => False) W1 W2) := ⟨q1, q2, t1⟩
  clear q1 q2 t1
  have HF : Hid (SeqM (W2.alloc (.cells #[.slice (some ⟨w.heap.size, 0, none⟩) 1 1, .slice (some ⟨w.heap.size + 1, 0, none⟩) 1 1, .slice (some ⟨g1, 0, none⟩) 1 1, .slice (some ⟨g2, 0, none⟩) 1 1] 74)) ⟨W2.heap.size, w.heap.size, 1, w.heap.size + 1, 1, g1, 1, g2, 1⟩ .new) := by
    have tt := (Touch.refl (fun _ => False) W2).alloc (.cells #[.slice (some ⟨w.heap.size, 0, none⟩) 1 1, .slice (some ⟨w.heap.size + 1, 0, none⟩) 1 1, .slice (some ⟨g1, 0, none⟩) 1 1, .slice (some ⟨g2, 0, none⟩) 1 1] 74)
    have hb := heap_alloc_new W2 (.cells #[.slice (some ⟨w.heap.size, 0, none⟩) 1 1, .slice (some ⟨w.heap.size + 1, 0, none⟩) 1 1, .slice (some ⟨g1, 0, none⟩) 1 1, .slice (some ⟨g2, 0, none⟩) 1 1] 74)
    have a0 := lt_of_heap H1.out.2.1
    have a1 := lt_of_heap H2.out.2.1
    have a2 := H1.out.1
    have a3 := H2.out.1
    have a4 := HE.out.2.2.2
    have a5 := H2.out.2.2.size
    have a6 := H1.out.2.2.size
    have t2 := H1.out.2.2.trans H2.out.2.2
    refine ⟨⟨_, hb⟩, ⟨by rw [cell_of_block hb]; rfl, by show W2.heap.size ≠ w.heap.size; omega, _, heap_keep (t2.trans tt) HE.out.2.1, rfl, Nat.le_refl _, by show 1 ≤ _; decide, rfl⟩, ⟨by rw [cell_of_block hb]; rfl, by show W2.heap.size ≠ w.heap.size + 1; omega, _, heap_keep (t2.trans tt) HE.out.2.2.1, rfl, Nat.le_refl _, by show 1 ≤ _; decide, rfl⟩, row_new (by rw [cell_of_block hb]; rfl) (by show W2.heap.size ≠ g1; omega) (heap_keep (H2.out.2.2.trans tt) H1.out.2.1), row_new (by rw [cell_of_block hb]; rfl) (by show W2.heap.size ≠ g2; omega) (heap_keep tt H2.out.2.1), ?_⟩
    simp only [List.nodup_cons, List.mem_cons, List.not_mem_nil, or_false, not_or, List.nodup_nil, and_true, not_false_eq_true]
    exact ⟨⟨by omega, by omega, by omega⟩, ⟨by omega, by omega⟩, by omega⟩
  have HS : Hid (∀ x, Bk.has ⟨W2.heap.size, w.heap.size, 1, w.heap.size + 1, 1, g1, 1, g2, 1⟩ x → w.heap.size ≤ x) := by
    have a2 := H1.out.1
    have a3 := H2.out.1
    have a4 := HE.out.2.2.2
    have a5 := H2.out.2.2.size
    have a6 := H1.out.2.2.size
    rintro x (e | e | e | e | e)
    · have e' : x = W2.heap.size := e
      omega
    · have e' : x = w.heap.size := e
      omega
    · have e' : x = w.heap.size + 1 := e
      omega
    · have e' : x = g1 := e
      omega
    · have e' : x = g2 := e
      omega
  have HT : Hid (Touch (fun _ => False) w (W2.alloc (.cells #[.slice (some ⟨w.heap.size, 0, none⟩) 1 1, .slice (some ⟨w.heap.size + 1, 0, none⟩) 1 1, .slice (some ⟨g1, 0, none⟩) 1 1, .slice (some ⟨g2, 0, none⟩) 1 1] 74))) := (HE.out.1.trans (H1.out.2.2.trans H2.out.2.2)).alloc _
  go_wp2_with fail
  go_ret
  exact ⟨_, rfl, HF.out, HS.out, HT.out⟩
/-- What a step asks and leaves, all told. -/
structure Room (S : SS) (m : Nat) : Prop where
  tot : S.total + m ≤ 281474976710656
  pcs : S.pcs.length + 2 * m ≤ 1073741824
  runs : S.runs.length + m ≤ 1073741824
theorem SeqM.run {w : World} {B : Bk} {S : SS} (h : SeqM w B S) (hI : Inv S) (u : Un) (hu : u.ok) (n : Int) (m : Nat) (hn : n ≤ m) (hn2 : -1152921504606846976 ≤ n) (hm : 1 ≤ m) (hR : Room S m) :
    Calls Tryz.prog 9 #[sP B, .agg #[u64 (u).c, u64 (u).k, u64 (u).lc, u64 (u).lk, u64 (u).rc, u64 (u).rk], iV n] w fun e w' => e = .returned (.bool (S.may u n)) ∧ Laid w w' B (S.run u n) := by
  have := hR.tot
  have := hR.pcs
  have := hI.total_nn
  refine run_any h hI u hu n ⟨hn2, by omega⟩ fun hmay => ?_
  obtain ⟨c1, c2, c3⟩ := hI.cutI (S.placeFor u) (by omega)
  exact ⟨c1, by rw [c2]; omega⟩
set_option maxHeartbeats 4000000 in
theorem insert_any {w : World} {B : Bk} {S : SS} (h : SeqM w B S) (hI : Inv S) (u : Un) (hu : u.ok) (hR : Room S 1) :
    Calls Tryz.prog 11 #[sP B, .agg #[u64 (u).c, u64 (u).k, u64 (u).lc, u64 (u).lk, u64 (u).rc, u64 (u).rk]] w fun e w' => e = .returned (.bool (S.may u 1)) ∧ Laid w w' B (S.run u 1) := by
  have hT : Touch (fun _ => False) w (w.alloc (.cells #[u64 u.c, u64 u.k, u64 u.lc, u64 u.lk, u64 u.rc, u64 u.rk] 32)) := (Touch.refl _ _).alloc _
  have HL : Hid (Calls Tryz.prog 9 #[sP B, .agg #[u64 (u).c, u64 (u).k, u64 (u).lc, u64 (u).lk, u64 (u).rc, u64 (u).rk], iV 1] (w.alloc (.cells #[u64 u.c, u64 u.k, u64 u.lc, u64 u.lk, u64 u.rc, u64 u.rk] 32)) fun e w' => e = .returned (.bool (S.may u 1)) ∧ Laid (w.alloc (.cells #[u64 u.c, u64 u.k, u64 u.lc, u64 u.lk, u64 u.rc, u64 u.rk] 32)) w' B (S.run u 1)) := (h.keep0 hT).run hI u hu 1 1 (by omega) (by omega) (by omega) hR
  have HT : Hid (Touch (fun _ => False) w (w.alloc (.cells #[u64 u.c, u64 u.k, u64 u.lc, u64 u.lk, u64 u.rc, u64 u.rk] 32))) := hT
  generalize S.may u 1 = may at *
  generalize S.run u 1 = S' at *
  obtain ⟨uc, uk, ulc, ulk, urc, urk⟩ := u
  simp only at HL HT ⊢
  clear h hI hu hT hR
  go_enter Tryz.func11, Tryz.ntmps11
  go_wp2_with fail
  refine HL.out.mono ?_
  rintro e w1 ⟨rfl, l1⟩
  have HF : Hid (Laid w w1 B S') := l1.after0 HT.out
  clear l1
  go_wp2_with fail
  go_ret
  exact ⟨rfl, HF.out⟩
theorem atF_lt {len : Nat → Int} (hl : ∀ x, 0 ≤ len x) : ∀ (l : List Nat) (p : Int), 0 ≤ p → p < sumF len l → (atF len l p).1 ∈ l ∧ 0 ≤ (atF len l p).2 ∧ (atF len l p).2 < len (atF len l p).1
  | [], p, h1, h2 => by rw [sumF_nil] at h2; omega
  | i :: l, p, h1, h2 => by
    rw [sumF_cons] at h2
    unfold atF
    rw [if_neg (by omega)]
    by_cases h : p < len i
    · rw [if_pos h]; exact ⟨by simp, h1, h⟩
    · rw [if_neg h]
      obtain ⟨a, b, c⟩ := atF_lt hl l (p - len i) (by omega) (by omega)
      exact ⟨by simp [a], b, c⟩
set_option maxHeartbeats 8000000 in
theorem at_any2 {w : World} {B : Bk} {S : SS} (h : SeqM w B S) (hI : Inv S) (i : Int) (hi : -4611686018427387904 ≤ i ∧ i ≤ 4611686018427387904) :
    Calls Tryz.prog 14 #[sP B, iV i] w fun e w' => e = .returned (.tuple #[.agg #[u64 ((S.at_ i).1).c, u64 ((S.at_ i).1).k, u64 ((S.at_ i).1).lc, u64 ((S.at_ i).1).lk, u64 ((S.at_ i).1).rc, u64 ((S.at_ i).1).rk], .bool (S.at_ i).2]) ∧ Touch (fun _ => False) w w' := by
  obtain ⟨E, hE⟩ : ∃ E, Hid (E = w.alloc zeroUO) := ⟨_, Eq.refl _⟩
  have HTE : Hid (Touch (fun _ => False) w E) := by rw [hE.out]; exact (Touch.refl _ _).alloc _
  have HEB : Hid (E.heap[w.heap.size]? = some zeroUO) := by rw [hE.out]; exact heap_alloc_new _ _
  have HL : Hid (∀ W, Touch (fun _ => False) E W → Calls Tryz.prog 13 #[sP B] W fun e w' => e = .returned (iV S.total) ∧ Touch (fun _ => False) W w') := fun W t => len_any (h.keep0 (HTE.out.trans t))
  have HSa : Hid (∀ W, Touch (fun _ => False) E W → Calls Tryz.prog 37 #[sP B, iV i] W fun e w' => e = .returned (.agg #[iV ((S.spotAt i).run : Int), u64 (S.spotAt i).pos]) ∧ Touch (fun _ => False) W w') := fun W t => spotAt_any (h.keep0 (HTE.out.trans t)) hI i hi
  have HUn : Hid (∀ W, Touch (fun _ => False) E W → Calls Tryz.prog 36 #[sP B, .agg #[iV ((S.spotAt i).run : Int), u64 (S.spotAt i).pos]] W fun e w' => e = .returned (.agg #[u64 (S.unit (S.spotAt i)).c, u64 (S.unit (S.spotAt i)).k, u64 (S.unit (S.spotAt i)).lc, u64 (S.unit (S.spotAt i)).lk, u64 (S.unit (S.spotAt i)).rc, u64 (S.unit (S.spotAt i)).rk]) ∧ Touch (fun _ => False) W w') := fun W t => (h.keep0 (HTE.out.trans t)).unit (hI.spotAtOk i).1
  unfold SS.at_
  generalize S.unit (S.spotAt i) = u at *
  generalize S.spotAt i = sx at *
  generalize S.total = tt at *
  obtain ⟨uc, uk, ulc, ulk, urc, urk⟩ := u
  obtain ⟨sr, sp⟩ := sx
  simp only at HSa HUn ⊢
  obtain ⟨res, hres⟩ : ∃ r : Un × Bool, Hid (r = if i < 0 ∨ tt ≤ i then (.zero, false) else (⟨uc, uk, ulc, ulk, urc, urk⟩, true)) := ⟨_, Eq.refl _⟩
  rw [← hres.out]
  clear h hI hi
  go_enter Tryz.func14, Tryz.ntmps14
  go_upto_region 1 with fail
  rw [← hE.out]
  clear hE
  obtain ⟨n, hn⟩ : ∃ m, Hid (m = w.heap.size) := ⟨_, Eq.refl _⟩
  rw [← hn.out] at HEB ⊢
  have hnn : w.heap.size ≤ n := Nat.le_of_eq hn.out.symm
  have HNN : Hid (w.heap.size ≤ n) := hnn
  clear hnn
  by_cases h1 : i < 0
  · have HX : Hid (res = (.zero, false)) := by rw [hres.out]; exact if_pos (.inl h1)
    have HT : Hid (Touch (fun _ => False) w E) := HTE.out
    have hz := HEB.out
    have hnn := HNN.out
    have st1 : (E.setCell ⟨n, 0, none⟩ (u64 0)).cell? ⟨n, 1, none⟩ = some (u64 0) := by rw [cell_of_block (heap_setCell_same _ _ _ _ hz)]; rfl
    have st2 : ((E.setCell ⟨n, 0, none⟩ (u64 0)).setCell ⟨n, 1, none⟩ (u64 0)).cell? ⟨n, 2, none⟩ = some (u64 0) := by rw [cell_of_block (heap_setCell_same _ _ _ _ (heap_setCell_same _ _ _ _ hz))]; rfl
    have st3 : (((E.setCell ⟨n, 0, none⟩ (u64 0)).setCell ⟨n, 1, none⟩ (u64 0)).setCell ⟨n, 2, none⟩ (u64 0)).cell? ⟨n, 3, none⟩ = some (u64 0) := by rw [cell_of_block (heap_setCell_same _ _ _ _ (heap_setCell_same _ _ _ _ (heap_setCell_same _ _ _ _ hz)))]; rfl
    have st4 : ((((E.setCell ⟨n, 0, none⟩ (u64 0)).setCell ⟨n, 1, none⟩ (u64 0)).setCell ⟨n, 2, none⟩ (u64 0)).setCell ⟨n, 3, none⟩ (u64 0)).cell? ⟨n, 4, none⟩ = some (u64 0) := by rw [cell_of_block (heap_setCell_same _ _ _ _ (heap_setCell_same _ _ _ _ (heap_setCell_same _ _ _ _ (heap_setCell_same _ _ _ _ hz))))]; rfl
    have st5 : (((((E.setCell ⟨n, 0, none⟩ (u64 0)).setCell ⟨n, 1, none⟩ (u64 0)).setCell ⟨n, 2, none⟩ (u64 0)).setCell ⟨n, 3, none⟩ (u64 0)).setCell ⟨n, 4, none⟩ (u64 0)).cell? ⟨n, 5, none⟩ = some (u64 0) := by rw [cell_of_block (heap_setCell_same _ _ _ _ (heap_setCell_same _ _ _ _ (heap_setCell_same _ _ _ _ (heap_setCell_same _ _ _ _ (heap_setCell_same _ _ _ _ hz)))))]; rfl
    have en0 : ((((((E.setCell ⟨n, 0, none⟩ (u64 0)).setCell ⟨n, 1, none⟩ (u64 0)).setCell ⟨n, 2, none⟩ (u64 0)).setCell ⟨n, 3, none⟩ (u64 0)).setCell ⟨n, 4, none⟩ (u64 0)).setCell ⟨n, 5, none⟩ (u64 0)).cell? ⟨n, 0, none⟩ = some (u64 0) := by rw [cell_of_block (heap_setCell_same _ _ _ _ (heap_setCell_same _ _ _ _ (heap_setCell_same _ _ _ _ (heap_setCell_same _ _ _ _ (heap_setCell_same _ _ _ _ (heap_setCell_same _ _ _ _ hz))))))]; rfl
    have en1 : ((((((E.setCell ⟨n, 0, none⟩ (u64 0)).setCell ⟨n, 1, none⟩ (u64 0)).setCell ⟨n, 2, none⟩ (u64 0)).setCell ⟨n, 3, none⟩ (u64 0)).setCell ⟨n, 4, none⟩ (u64 0)).setCell ⟨n, 5, none⟩ (u64 0)).cell? ⟨n, 1, none⟩ = some (u64 0) := by rw [cell_of_block (heap_setCell_same _ _ _ _ (heap_setCell_same _ _ _ _ (heap_setCell_same _ _ _ _ (heap_setCell_same _ _ _ _ (heap_setCell_same _ _ _ _ (heap_setCell_same _ _ _ _ hz))))))]; rfl
    have en2 : ((((((E.setCell ⟨n, 0, none⟩ (u64 0)).setCell ⟨n, 1, none⟩ (u64 0)).setCell ⟨n, 2, none⟩ (u64 0)).setCell ⟨n, 3, none⟩ (u64 0)).setCell ⟨n, 4, none⟩ (u64 0)).setCell ⟨n, 5, none⟩ (u64 0)).cell? ⟨n, 2, none⟩ = some (u64 0) := by rw [cell_of_block (heap_setCell_same _ _ _ _ (heap_setCell_same _ _ _ _ (heap_setCell_same _ _ _ _ (heap_setCell_same _ _ _ _ (heap_setCell_same _ _ _ _ (heap_setCell_same _ _ _ _ hz))))))]; rfl
    have en3 : ((((((E.setCell ⟨n, 0, none⟩ (u64 0)).setCell ⟨n, 1, none⟩ (u64 0)).setCell ⟨n, 2, none⟩ (u64 0)).setCell ⟨n, 3, none⟩ (u64 0)).setCell ⟨n, 4, none⟩ (u64 0)).setCell ⟨n, 5, none⟩ (u64 0)).cell? ⟨n, 3, none⟩ = some (u64 0) := by rw [cell_of_block (heap_setCell_same _ _ _ _ (heap_setCell_same _ _ _ _ (heap_setCell_same _ _ _ _ (heap_setCell_same _ _ _ _ (heap_setCell_same _ _ _ _ (heap_setCell_same _ _ _ _ hz))))))]; rfl
    have en4 : ((((((E.setCell ⟨n, 0, none⟩ (u64 0)).setCell ⟨n, 1, none⟩ (u64 0)).setCell ⟨n, 2, none⟩ (u64 0)).setCell ⟨n, 3, none⟩ (u64 0)).setCell ⟨n, 4, none⟩ (u64 0)).setCell ⟨n, 5, none⟩ (u64 0)).cell? ⟨n, 4, none⟩ = some (u64 0) := by rw [cell_of_block (heap_setCell_same _ _ _ _ (heap_setCell_same _ _ _ _ (heap_setCell_same _ _ _ _ (heap_setCell_same _ _ _ _ (heap_setCell_same _ _ _ _ (heap_setCell_same _ _ _ _ hz))))))]; rfl
    have en5 : ((((((E.setCell ⟨n, 0, none⟩ (u64 0)).setCell ⟨n, 1, none⟩ (u64 0)).setCell ⟨n, 2, none⟩ (u64 0)).setCell ⟨n, 3, none⟩ (u64 0)).setCell ⟨n, 4, none⟩ (u64 0)).setCell ⟨n, 5, none⟩ (u64 0)).cell? ⟨n, 5, none⟩ = some (u64 0) := by rw [cell_of_block (heap_setCell_same _ _ _ _ (heap_setCell_same _ _ _ _ (heap_setCell_same _ _ _ _ (heap_setCell_same _ _ _ _ (heap_setCell_same _ _ _ _ (heap_setCell_same _ _ _ _ hz))))))]; rfl
    have fz0 : E.frozen? ⟨n, 0, none⟩ = false := free_of_block hz
    have fz1 : E.frozen? ⟨n, 1, none⟩ = false := free_of_block hz
    have fz2 : E.frozen? ⟨n, 2, none⟩ = false := free_of_block hz
    have fz3 : E.frozen? ⟨n, 3, none⟩ = false := free_of_block hz
    have fz4 : E.frozen? ⟨n, 4, none⟩ = false := free_of_block hz
    have fz5 : E.frozen? ⟨n, 5, none⟩ = false := free_of_block hz
    have cz0 : E.cell? ⟨n, 0, none⟩ = some (u64 0) := by rw [cell_of_block hz]; rfl
    have cz1 : E.cell? ⟨n, 1, none⟩ = some (u64 0) := by rw [cell_of_block hz]; rfl
    have cz2 : E.cell? ⟨n, 2, none⟩ = some (u64 0) := by rw [cell_of_block hz]; rfl
    have cz3 : E.cell? ⟨n, 3, none⟩ = some (u64 0) := by rw [cell_of_block hz]; rfl
    have cz4 : E.cell? ⟨n, 4, none⟩ = some (u64 0) := by rw [cell_of_block hz]; rfl
    have cz5 : E.cell? ⟨n, 5, none⟩ = some (u64 0) := by rw [cell_of_block hz]; rfl
    have HF : Hid (Touch (fun _ => False) w ((((((E.setCell ⟨n, 0, none⟩ (u64 0)).setCell ⟨n, 1, none⟩ (u64 0)).setCell ⟨n, 2, none⟩ (u64 0)).setCell ⟨n, 3, none⟩ (u64 0)).setCell ⟨n, 4, none⟩ (u64 0)).setCell ⟨n, 5, none⟩ (u64 0))) := ((((((HT.out.fresh n 0 (u64 0) hnn).fresh n 1 (u64 0) hnn).fresh n 2 (u64 0) hnn).fresh n 3 (u64 0) hnn).fresh n 4 (u64 0) hnn).fresh n 5 (u64 0) hnn)
    clear hz hnn
    go_wp2_with fail
    refine bodyPost_ret (v := .tuple #[.agg #[u64 0, u64 0, u64 0, u64 0, u64 0, u64 0], .bool false]) (by simp [results, Tryz.results14, go_sem, en0, en1, en2, en3, en4, en5]) rfl ?_
    exact ⟨by (rw [HX.out] <;> rfl), HF.out⟩
  · go_wp2_with fail
    refine (HL.out _ (Touch.refl _ E)).mono ?_
    rintro e W1 ⟨rfl, t1⟩
    have HT1 : Hid (Touch (fun _ => False) E W1) := t1
    clear t1 HL
    by_cases h2 : tt ≤ i
    · have HX : Hid (res = (.zero, false)) := by rw [hres.out]; exact if_pos (.inr h2)
      have HT : Hid (Touch (fun _ => False) w W1) := HTE.out.trans HT1.out
      have hz := heap_keep HT1.out HEB.out
      have hnn := HNN.out
      have st1 : (W1.setCell ⟨n, 0, none⟩ (u64 0)).cell? ⟨n, 1, none⟩ = some (u64 0) := by rw [cell_of_block (heap_setCell_same _ _ _ _ hz)]; rfl
      have st2 : ((W1.setCell ⟨n, 0, none⟩ (u64 0)).setCell ⟨n, 1, none⟩ (u64 0)).cell? ⟨n, 2, none⟩ = some (u64 0) := by rw [cell_of_block (heap_setCell_same _ _ _ _ (heap_setCell_same _ _ _ _ hz))]; rfl
      have st3 : (((W1.setCell ⟨n, 0, none⟩ (u64 0)).setCell ⟨n, 1, none⟩ (u64 0)).setCell ⟨n, 2, none⟩ (u64 0)).cell? ⟨n, 3, none⟩ = some (u64 0) := by rw [cell_of_block (heap_setCell_same _ _ _ _ (heap_setCell_same _ _ _ _ (heap_setCell_same _ _ _ _ hz)))]; rfl
      have st4 : ((((W1.setCell ⟨n, 0, none⟩ (u64 0)).setCell ⟨n, 1, none⟩ (u64 0)).setCell ⟨n, 2, none⟩ (u64 0)).setCell ⟨n, 3, none⟩ (u64 0)).cell? ⟨n, 4, none⟩ = some (u64 0) := by rw [cell_of_block (heap_setCell_same _ _ _ _ (heap_setCell_same _ _ _ _ (heap_setCell_same _ _ _ _ (heap_setCell_same _ _ _ _ hz))))]; rfl
      have st5 : (((((W1.setCell ⟨n, 0, none⟩ (u64 0)).setCell ⟨n, 1, none⟩ (u64 0)).setCell ⟨n, 2, none⟩ (u64 0)).setCell ⟨n, 3, none⟩ (u64 0)).setCell ⟨n, 4, none⟩ (u64 0)).cell? ⟨n, 5, none⟩ = some (u64 0) := by rw [cell_of_block (heap_setCell_same _ _ _ _ (heap_setCell_same _ _ _ _ (heap_setCell_same _ _ _ _ (heap_setCell_same _ _ _ _ (heap_setCell_same _ _ _ _ hz)))))]; rfl
      have en0 : ((((((W1.setCell ⟨n, 0, none⟩ (u64 0)).setCell ⟨n, 1, none⟩ (u64 0)).setCell ⟨n, 2, none⟩ (u64 0)).setCell ⟨n, 3, none⟩ (u64 0)).setCell ⟨n, 4, none⟩ (u64 0)).setCell ⟨n, 5, none⟩ (u64 0)).cell? ⟨n, 0, none⟩ = some (u64 0) := by rw [cell_of_block (heap_setCell_same _ _ _ _ (heap_setCell_same _ _ _ _ (heap_setCell_same _ _ _ _ (heap_setCell_same _ _ _ _ (heap_setCell_same _ _ _ _ (heap_setCell_same _ _ _ _ hz))))))]; rfl
      have en1 : ((((((W1.setCell ⟨n, 0, none⟩ (u64 0)).setCell ⟨n, 1, none⟩ (u64 0)).setCell ⟨n, 2, none⟩ (u64 0)).setCell ⟨n, 3, none⟩ (u64 0)).setCell ⟨n, 4, none⟩ (u64 0)).setCell ⟨n, 5, none⟩ (u64 0)).cell? ⟨n, 1, none⟩ = some (u64 0) := by rw [cell_of_block (heap_setCell_same _ _ _ _ (heap_setCell_same _ _ _ _ (heap_setCell_same _ _ _ _ (heap_setCell_same _ _ _ _ (heap_setCell_same _ _ _ _ (heap_setCell_same _ _ _ _ hz))))))]; rfl
      have en2 : ((((((W1.setCell ⟨n, 0, none⟩ (u64 0)).setCell ⟨n, 1, none⟩ (u64 0)).setCell ⟨n, 2, none⟩ (u64 0)).setCell ⟨n, 3, none⟩ (u64 0)).setCell ⟨n, 4, none⟩ (u64 0)).setCell ⟨n, 5, none⟩ (u64 0)).cell? ⟨n, 2, none⟩ = some (u64 0) := by rw [cell_of_block (heap_setCell_same _ _ _ _ (heap_setCell_same _ _ _ _ (heap_setCell_same _ _ _ _ (heap_setCell_same _ _ _ _ (heap_setCell_same _ _ _ _ (heap_setCell_same _ _ _ _ hz))))))]; rfl
      have en3 : ((((((W1.setCell ⟨n, 0, none⟩ (u64 0)).setCell ⟨n, 1, none⟩ (u64 0)).setCell ⟨n, 2, none⟩ (u64 0)).setCell ⟨n, 3, none⟩ (u64 0)).setCell ⟨n, 4, none⟩ (u64 0)).setCell ⟨n, 5, none⟩ (u64 0)).cell? ⟨n, 3, none⟩ = some (u64 0) := by rw [cell_of_block (heap_setCell_same _ _ _ _ (heap_setCell_same _ _ _ _ (heap_setCell_same _ _ _ _ (heap_setCell_same _ _ _ _ (heap_setCell_same _ _ _ _ (heap_setCell_same _ _ _ _ hz))))))]; rfl
      have en4 : ((((((W1.setCell ⟨n, 0, none⟩ (u64 0)).setCell ⟨n, 1, none⟩ (u64 0)).setCell ⟨n, 2, none⟩ (u64 0)).setCell ⟨n, 3, none⟩ (u64 0)).setCell ⟨n, 4, none⟩ (u64 0)).setCell ⟨n, 5, none⟩ (u64 0)).cell? ⟨n, 4, none⟩ = some (u64 0) := by rw [cell_of_block (heap_setCell_same _ _ _ _ (heap_setCell_same _ _ _ _ (heap_setCell_same _ _ _ _ (heap_setCell_same _ _ _ _ (heap_setCell_same _ _ _ _ (heap_setCell_same _ _ _ _ hz))))))]; rfl
      have en5 : ((((((W1.setCell ⟨n, 0, none⟩ (u64 0)).setCell ⟨n, 1, none⟩ (u64 0)).setCell ⟨n, 2, none⟩ (u64 0)).setCell ⟨n, 3, none⟩ (u64 0)).setCell ⟨n, 4, none⟩ (u64 0)).setCell ⟨n, 5, none⟩ (u64 0)).cell? ⟨n, 5, none⟩ = some (u64 0) := by rw [cell_of_block (heap_setCell_same _ _ _ _ (heap_setCell_same _ _ _ _ (heap_setCell_same _ _ _ _ (heap_setCell_same _ _ _ _ (heap_setCell_same _ _ _ _ (heap_setCell_same _ _ _ _ hz))))))]; rfl
      have fz0 : W1.frozen? ⟨n, 0, none⟩ = false := free_of_block hz
      have fz1 : W1.frozen? ⟨n, 1, none⟩ = false := free_of_block hz
      have fz2 : W1.frozen? ⟨n, 2, none⟩ = false := free_of_block hz
      have fz3 : W1.frozen? ⟨n, 3, none⟩ = false := free_of_block hz
      have fz4 : W1.frozen? ⟨n, 4, none⟩ = false := free_of_block hz
      have fz5 : W1.frozen? ⟨n, 5, none⟩ = false := free_of_block hz
      have cz0 : W1.cell? ⟨n, 0, none⟩ = some (u64 0) := by rw [cell_of_block hz]; rfl
      have cz1 : W1.cell? ⟨n, 1, none⟩ = some (u64 0) := by rw [cell_of_block hz]; rfl
      have cz2 : W1.cell? ⟨n, 2, none⟩ = some (u64 0) := by rw [cell_of_block hz]; rfl
      have cz3 : W1.cell? ⟨n, 3, none⟩ = some (u64 0) := by rw [cell_of_block hz]; rfl
      have cz4 : W1.cell? ⟨n, 4, none⟩ = some (u64 0) := by rw [cell_of_block hz]; rfl
      have cz5 : W1.cell? ⟨n, 5, none⟩ = some (u64 0) := by rw [cell_of_block hz]; rfl
      have HF : Hid (Touch (fun _ => False) w ((((((W1.setCell ⟨n, 0, none⟩ (u64 0)).setCell ⟨n, 1, none⟩ (u64 0)).setCell ⟨n, 2, none⟩ (u64 0)).setCell ⟨n, 3, none⟩ (u64 0)).setCell ⟨n, 4, none⟩ (u64 0)).setCell ⟨n, 5, none⟩ (u64 0))) := ((((((HT.out.fresh n 0 (u64 0) hnn).fresh n 1 (u64 0) hnn).fresh n 2 (u64 0) hnn).fresh n 3 (u64 0) hnn).fresh n 4 (u64 0) hnn).fresh n 5 (u64 0) hnn)
      clear hz hnn
      go_wp2_with fail
      refine bodyPost_ret (v := .tuple #[.agg #[u64 0, u64 0, u64 0, u64 0, u64 0, u64 0], .bool false]) (by simp [results, Tryz.results14, go_sem, en0, en1, en2, en3, en4, en5]) rfl ?_
      exact ⟨by (rw [HX.out] <;> rfl), HF.out⟩
    · have HX : Hid (res = (⟨uc, uk, ulc, ulk, urc, urk⟩, true)) := by rw [hres.out]; exact if_neg (fun h => by omega)
      go_wp2_with fail
      refine (HSa.out _ HT1.out).mono ?_
      rintro e W2 ⟨rfl, t2⟩
      have HT2 : Hid (Touch (fun _ => False) E W2) := HT1.out.trans t2
      clear t2 HSa
      go_wp2_with fail
      refine (HUn.out _ HT2.out).mono ?_
      rintro e W3 ⟨rfl, t3⟩
      have HT3 : Hid (Touch (fun _ => False) E W3) := HT2.out.trans t3
      clear t3 HUn
      have HT : Hid (Touch (fun _ => False) w W3) := HTE.out.trans HT3.out
      have hz := heap_keep HT3.out HEB.out
      have hnn := HNN.out
      have st1 : (W3.setCell ⟨n, 0, none⟩ (u64 uc)).cell? ⟨n, 1, none⟩ = some (u64 0) := by rw [cell_of_block (heap_setCell_same _ _ _ _ hz)]; rfl
      have st2 : ((W3.setCell ⟨n, 0, none⟩ (u64 uc)).setCell ⟨n, 1, none⟩ (u64 uk)).cell? ⟨n, 2, none⟩ = some (u64 0) := by rw [cell_of_block (heap_setCell_same _ _ _ _ (heap_setCell_same _ _ _ _ hz))]; rfl
      have st3 : (((W3.setCell ⟨n, 0, none⟩ (u64 uc)).setCell ⟨n, 1, none⟩ (u64 uk)).setCell ⟨n, 2, none⟩ (u64 ulc)).cell? ⟨n, 3, none⟩ = some (u64 0) := by rw [cell_of_block (heap_setCell_same _ _ _ _ (heap_setCell_same _ _ _ _ (heap_setCell_same _ _ _ _ hz)))]; rfl
      have st4 : ((((W3.setCell ⟨n, 0, none⟩ (u64 uc)).setCell ⟨n, 1, none⟩ (u64 uk)).setCell ⟨n, 2, none⟩ (u64 ulc)).setCell ⟨n, 3, none⟩ (u64 ulk)).cell? ⟨n, 4, none⟩ = some (u64 0) := by rw [cell_of_block (heap_setCell_same _ _ _ _ (heap_setCell_same _ _ _ _ (heap_setCell_same _ _ _ _ (heap_setCell_same _ _ _ _ hz))))]; rfl
      have st5 : (((((W3.setCell ⟨n, 0, none⟩ (u64 uc)).setCell ⟨n, 1, none⟩ (u64 uk)).setCell ⟨n, 2, none⟩ (u64 ulc)).setCell ⟨n, 3, none⟩ (u64 ulk)).setCell ⟨n, 4, none⟩ (u64 urc)).cell? ⟨n, 5, none⟩ = some (u64 0) := by rw [cell_of_block (heap_setCell_same _ _ _ _ (heap_setCell_same _ _ _ _ (heap_setCell_same _ _ _ _ (heap_setCell_same _ _ _ _ (heap_setCell_same _ _ _ _ hz)))))]; rfl
      have en0 : ((((((W3.setCell ⟨n, 0, none⟩ (u64 uc)).setCell ⟨n, 1, none⟩ (u64 uk)).setCell ⟨n, 2, none⟩ (u64 ulc)).setCell ⟨n, 3, none⟩ (u64 ulk)).setCell ⟨n, 4, none⟩ (u64 urc)).setCell ⟨n, 5, none⟩ (u64 urk)).cell? ⟨n, 0, none⟩ = some (u64 uc) := by rw [cell_of_block (heap_setCell_same _ _ _ _ (heap_setCell_same _ _ _ _ (heap_setCell_same _ _ _ _ (heap_setCell_same _ _ _ _ (heap_setCell_same _ _ _ _ (heap_setCell_same _ _ _ _ hz))))))]; rfl
      have en1 : ((((((W3.setCell ⟨n, 0, none⟩ (u64 uc)).setCell ⟨n, 1, none⟩ (u64 uk)).setCell ⟨n, 2, none⟩ (u64 ulc)).setCell ⟨n, 3, none⟩ (u64 ulk)).setCell ⟨n, 4, none⟩ (u64 urc)).setCell ⟨n, 5, none⟩ (u64 urk)).cell? ⟨n, 1, none⟩ = some (u64 uk) := by rw [cell_of_block (heap_setCell_same _ _ _ _ (heap_setCell_same _ _ _ _ (heap_setCell_same _ _ _ _ (heap_setCell_same _ _ _ _ (heap_setCell_same _ _ _ _ (heap_setCell_same _ _ _ _ hz))))))]; rfl
      have en2 : ((((((W3.setCell ⟨n, 0, none⟩ (u64 uc)).setCell ⟨n, 1, none⟩ (u64 uk)).setCell ⟨n, 2, none⟩ (u64 ulc)).setCell ⟨n, 3, none⟩ (u64 ulk)).setCell ⟨n, 4, none⟩ (u64 urc)).setCell ⟨n, 5, none⟩ (u64 urk)).cell? ⟨n, 2, none⟩ = some (u64 ulc) := by rw [cell_of_block (heap_setCell_same _ _ _ _ (heap_setCell_same _ _ _ _ (heap_setCell_same _ _ _ _ (heap_setCell_same _ _ _ _ (heap_setCell_same _ _ _ _ (heap_setCell_same _ _ _ _ hz))))))]; rfl
      have en3 : ((((((W3.setCell ⟨n, 0, none⟩ (u64 uc)).setCell ⟨n, 1, none⟩ (u64 uk)).setCell ⟨n, 2, none⟩ (u64 ulc)).setCell ⟨n, 3, none⟩ (u64 ulk)).setCell ⟨n, 4, none⟩ (u64 urc)).setCell ⟨n, 5, none⟩ (u64 urk)).cell? ⟨n, 3, none⟩ = some (u64 ulk) := by rw [cell_of_block (heap_setCell_same _ _ _ _ (heap_setCell_same _ _ _ _ (heap_setCell_same _ _ _ _ (heap_setCell_same _ _ _ _ (heap_setCell_same _ _ _ _ (heap_setCell_same _ _ _ _ hz))))))]; rfl
      have en4 : ((((((W3.setCell ⟨n, 0, none⟩ (u64 uc)).setCell ⟨n, 1, none⟩ (u64 uk)).setCell ⟨n, 2, none⟩ (u64 ulc)).setCell ⟨n, 3, none⟩ (u64 ulk)).setCell ⟨n, 4, none⟩ (u64 urc)).setCell ⟨n, 5, none⟩ (u64 urk)).cell? ⟨n, 4, none⟩ = some (u64 urc) := by rw [cell_of_block (heap_setCell_same _ _ _ _ (heap_setCell_same _ _ _ _ (heap_setCell_same _ _ _ _ (heap_setCell_same _ _ _ _ (heap_setCell_same _ _ _ _ (heap_setCell_same _ _ _ _ hz))))))]; rfl
      have en5 : ((((((W3.setCell ⟨n, 0, none⟩ (u64 uc)).setCell ⟨n, 1, none⟩ (u64 uk)).setCell ⟨n, 2, none⟩ (u64 ulc)).setCell ⟨n, 3, none⟩ (u64 ulk)).setCell ⟨n, 4, none⟩ (u64 urc)).setCell ⟨n, 5, none⟩ (u64 urk)).cell? ⟨n, 5, none⟩ = some (u64 urk) := by rw [cell_of_block (heap_setCell_same _ _ _ _ (heap_setCell_same _ _ _ _ (heap_setCell_same _ _ _ _ (heap_setCell_same _ _ _ _ (heap_setCell_same _ _ _ _ (heap_setCell_same _ _ _ _ hz))))))]; rfl
      have fz0 : W3.frozen? ⟨n, 0, none⟩ = false := free_of_block hz
      have fz1 : W3.frozen? ⟨n, 1, none⟩ = false := free_of_block hz
      have fz2 : W3.frozen? ⟨n, 2, none⟩ = false := free_of_block hz
      have fz3 : W3.frozen? ⟨n, 3, none⟩ = false := free_of_block hz
      have fz4 : W3.frozen? ⟨n, 4, none⟩ = false := free_of_block hz
      have fz5 : W3.frozen? ⟨n, 5, none⟩ = false := free_of_block hz
      have cz0 : W3.cell? ⟨n, 0, none⟩ = some (u64 0) := by rw [cell_of_block hz]; rfl
      have cz1 : W3.cell? ⟨n, 1, none⟩ = some (u64 0) := by rw [cell_of_block hz]; rfl
      have cz2 : W3.cell? ⟨n, 2, none⟩ = some (u64 0) := by rw [cell_of_block hz]; rfl
      have cz3 : W3.cell? ⟨n, 3, none⟩ = some (u64 0) := by rw [cell_of_block hz]; rfl
      have cz4 : W3.cell? ⟨n, 4, none⟩ = some (u64 0) := by rw [cell_of_block hz]; rfl
      have cz5 : W3.cell? ⟨n, 5, none⟩ = some (u64 0) := by rw [cell_of_block hz]; rfl
      have HF : Hid (Touch (fun _ => False) w ((((((W3.setCell ⟨n, 0, none⟩ (u64 uc)).setCell ⟨n, 1, none⟩ (u64 uk)).setCell ⟨n, 2, none⟩ (u64 ulc)).setCell ⟨n, 3, none⟩ (u64 ulk)).setCell ⟨n, 4, none⟩ (u64 urc)).setCell ⟨n, 5, none⟩ (u64 urk))) := ((((((HT.out.fresh n 0 (u64 uc) hnn).fresh n 1 (u64 uk) hnn).fresh n 2 (u64 ulc) hnn).fresh n 3 (u64 ulk) hnn).fresh n 4 (u64 urc) hnn).fresh n 5 (u64 urk) hnn)
      clear hz hnn
      go_wp2_with fail
      refine bodyPost_ret (v := .tuple #[.agg #[u64 uc, u64 uk, u64 ulc, u64 ulk, u64 urc, u64 urk], .bool true]) (by simp [results, Tryz.results14, go_sem, en0, en1, en2, en3, en4, en5]) rfl ?_
      exact ⟨by (rw [HX.out] <;> rfl), HF.out⟩
end Go.Proofs.YtnilikomoapcaaaGreat
