/- Package seq: a row's copy. -/
import Derived.Test.YtcolbgbmnmkogabSeqX1
import Derived.Test.YtcolbgbmnmkogabSeqU5
namespace Go.Proofs.Ytcolbgbmnmkogab
open Go.RowKit
set_option linter.unusedVariables false
set_option linter.unusedSimpArgs false
set_option maxRecDepth 100000

/-- A row without the cell that holds its slice. -/
def RowBk (w : World) (g cap n : Nat) (F : List Nat) (len : Nat → Int) : Prop :=
  ∃ L t, BlkAt 5 82 w g cap L.length (L.flatMap cellH) ∧ L.length = n ∧ RowOk (gt L) n t ∧ t.flat = F ∧ ∀ x, (gt L x).long = len x
theorem RowAt.bk {w : World} {b k g cap n : Nat} {F : List Nat} {len : Nat → Int} (h : RowAt w b k g cap n F len) : RowBk w g cap n F len := by
  obtain ⟨L, t, h1, h2⟩ := h
  exact ⟨L, t, h1.row, h2⟩
theorem RowBk.row {w : World} {b k g cap n : Nat} {F : List Nat} {len : Nat → Int} (h : RowBk w g cap n F len) (hc : w.cell? ⟨b, k, none⟩ = some (.slice (some ⟨g, 0, none⟩) n cap)) (hb : b ≠ g) : RowAt w b k g cap n F len := by
  obtain ⟨L, t, h1, h2, h3⟩ := h
  subst h2
  exact ⟨L, t, ⟨hc, hb, h1⟩, rfl, h3⟩
theorem RowBk.keep {w w' : World} {g cap n : Nat} {F : List Nat} {len : Nat → Int} (h : RowBk w g cap n F len) (t : Touch (fun _ => False) w w') : RowBk w' g cap n F len := by
  obtain ⟨L, tr, h1, h2⟩ := h
  exact ⟨L, tr, h1.keep t, h2⟩
set_option maxHeartbeats 4000000 in
theorem r_clone {w : World} {b k g cap n : Nat} {F : List Nat} {len : Nat → Int} (h : RowAt w b k g cap n F len) (hn : n ≤ 1073741824) :
    Calls Try.prog 24 #[rP b k] w fun e w' => ∃ g' cap', e = .returned (.agg #[.slice (some ⟨g', 0, none⟩) n cap']) ∧ w.heap.size ≤ g' ∧ RowBk w' g' cap' n F len ∧ Touch (fun _ => False) w w' := by
  obtain ⟨E, hE⟩ : ∃ E, Hid (E = w.alloc (.cells #[.slice none 0 0] 54)) := ⟨_, Eq.refl _⟩
  have HT : Hid (Touch (fun _ => False) w E) := by rw [hE.out]; exact (Touch.refl _ _).alloc _
  have HB : Hid (E.heap[w.heap.size]? = some (.cells #[.slice none 0 0] 54)) := by rw [hE.out]; exact heap_alloc_new _ _
  have hc : E.cell? ⟨b, k, none⟩ = some (.slice (some ⟨g, 0, none⟩) n cap) := (h.keep HT.out id id).cellb
  have HC : Hid (Calls Try.prog 45 #[.slice (some ⟨g, 0, none⟩) n cap] E fun e w' => ∃ g' cap', e = .returned (.slice (some ⟨g', 0, none⟩) n cap') ∧ E.heap.size ≤ g' ∧ RowBk w' g' cap' n F len ∧ Touch (fun _ => False) E w') := by
    obtain ⟨L, t, h1, h2, h3⟩ := (h.keep HT.out id id).bk
    subst h2
    refine (clone_th h1 hn).mono ?_
    rintro e w' ⟨g', cap', rfl, q1, q2, q3⟩
    exact ⟨g', cap', rfl, q1, ⟨L, t, q2, rfl, h3⟩, q3⟩
  clear h
  go_enter Try.func24, Try.ntmps24
  go_upto_region 1 with fail
  rw [← hE.out]
  clear hE
  obtain ⟨B0, hB0⟩ : ∃ m, Hid (m = w.heap.size) := ⟨_, Eq.refl _⟩
  rw [← hB0.out] at HB ⊢
  go_wp2_with fail
  refine HC.out.mono ?_
  rintro e W1 ⟨g', cap', rfl, q1, q2, t1⟩
  have hz := heap_keep t1 HB.out
  have c0 : W1.cell? ⟨B0, 0, none⟩ = some (.slice none 0 0) := by rw [cell_of_block hz]; rfl
  have f0 : W1.frozen? ⟨B0, 0, none⟩ = false := free_of_block hz
  have en : (W1.setCell ⟨B0, 0, none⟩ (.slice (some ⟨g', 0, none⟩) n cap')).cell? ⟨B0, 0, none⟩ = some (.slice (some ⟨g', 0, none⟩) n cap') := by rw [cell_of_block (heap_setCell_same _ _ _ _ hz)]; rfl
  have HF : Hid (w.heap.size ≤ g' ∧ RowBk (W1.setCell ⟨B0, 0, none⟩ (.slice (some ⟨g', 0, none⟩) n cap')) g' cap' n F len ∧ Touch (fun _ => False) w (W1.setCell ⟨B0, 0, none⟩ (.slice (some ⟨g', 0, none⟩) n cap'))) := by
    have hs := HT.out.size
    have hlt : B0 < E.heap.size := lt_of_heap HB.out
    have hne : B0 ≠ g' := by omega
    refine ⟨by omega, ?_, (HT.out.trans t1).fresh _ _ _ (Nat.le_of_eq hB0.out.symm)⟩
    obtain ⟨L, t, ⟨cur, h1, h2⟩, h3⟩ := q2
    exact ⟨L, t, ⟨cur, by rw [Below.heap_setCell _ _ _ _ (Ne.symm hne)]; exact h1, h2⟩, h3⟩
  clear hz q1 q2 t1 HC
  go_wp2_with fail
  refine bodyPost_ret (v := .agg #[.slice (some ⟨g', 0, none⟩) n cap']) (by simp [results, Try.results24, go_sem, en]) rfl ?_
  exact ⟨g', cap', rfl, HF.out⟩
end Go.Proofs.Ytcolbgbmnmkogab
