/- What is left of ranges that a range is taken from. -/
import Derived.Test.YtdblfabbmpdoiaaRfJ
namespace Go.Proofs.Ytdblfabbmpdoiaa
open Go.RowKit Go.Maps
set_option linter.unusedVariables false
set_option linter.unusedSimpArgs false

theorem mergeFrom_len (w : Rg) (l : List Rg) : (mergeFrom w l).length ≤ l.length + 1 := by
  induction l generalizing w with
  | nil => simp [mergeFrom]
  | cons r l ih =>
    unfold mergeFrom
    split
    · have := ih r; simp only [List.length_cons]; omega
    · have := ih ⟨w.c, w.f, max w.t r.t⟩; simp only [List.length_cons]; omega
theorem mergeR_len (l : List Rg) : (mergeR l).length ≤ l.length := by
  cases l with
  | nil => simp [mergeR]
  | cons w l => exact mergeFrom_len w l
def leB (a b : Rg) : Bool := decide (a.c < b.c ∨ (a.c = b.c ∧ a.f ≤ b.f))
/-- The form is no longer than the right ranges that tell it. -/
theorem Form.short {out l : List Rg} (h : Form (tns out) (turnOf (tns l))) : out.length ≤ (l.filter Rg.ok).length := by
  have hp := List.mergeSort_perm (l.filter Rg.ok) leB
  have hs : ((l.filter Rg.ok).mergeSort leB).Pairwise Rg.le := by
    have := List.pairwise_mergeSort (le := leB) (fun a b c h1 h2 => by unfold leB at *; simp at *; omega) (fun a b => by unfold leB; simp; omega) (l.filter Rg.ok)
    exact this.imp fun {a b} hab => by unfold leB at hab; unfold Rg.le; simpa using hab
  have e : out = mergeR ((l.filter Rg.ok).mergeSort leB) := tns_inj (h.eq (clean_form hp hs) fun _ _ => rfl)
  rw [e]
  have := mergeR_len ((l.filter Rg.ok).mergeSort leB)
  rw [hp.length_eq] at this; exact this
/-- r without y. -/
def cutR (y r : Rg) : List Rg := if r.c ≠ y.c ∨ y.t ≤ r.f ∨ r.t ≤ y.f then [r] else [⟨r.c, r.f, y.f⟩, ⟨r.c, y.t, r.t⟩]
def cutAll (y : Rg) (l : List Rg) : List Rg := l.flatMap (cutR y)
theorem cutR_len (y r : Rg) : (cutR y r).length ≤ 2 := by unfold cutR; split <;> simp
theorem cutAll_len (y : Rg) (l : List Rg) : (cutAll y l).length ≤ 2 * l.length := by
  induction l with
  | nil => simp [cutAll]
  | cons r l ih => have := cutR_len y r; unfold cutAll at *; rw [List.flatMap_cons, List.length_append, List.length_cons]; omega
theorem cutAll_step (y : Rg) (l : List Rg) {i : Nat} (h : i < l.length) : cutAll y (l.take (i + 1)) = cutAll y (l.take i) ++ cutR y l[i] := by
  unfold cutAll
  rw [List.take_succ_eq_append_getElem h, List.flatMap_append]; simp
theorem cutR_has (y r : Rg) (hy : y.ok = true) (hr : r.ok = true) (c k : Int) : ((cutR y r).any fun r => r.ok && r.has c k) = (r.has c k && !y.has c k) := by
  have h1 := Rg.ok_iff.1 hr
  have h2 := Rg.ok_iff.1 hy
  unfold cutR
  split
  · rename_i hg
    simp only [List.any_cons, List.any_nil, Bool.or_false, hr, Bool.true_and]
    by_cases g : r.has c k = true
    · have g1 := Rg.has_iff.1 g
      have : y.has c k = false := by
        cases e : y.has c k
        · rfl
        · have := Rg.has_iff.1 e; omega
      rw [g, this]; rfl
    · simp [g]
  · rename_i hg
    simp only [List.any_cons, List.any_nil, Bool.or_false]
    rw [Bool.eq_iff_iff]
    simp only [Bool.or_eq_true, Bool.and_eq_true, Rg.has_iff, Rg.ok_iff, Bool.not_eq_true', Bool.eq_false_iff, ne_eq]
    omega
theorem cutAll_has (y : Rg) (l : List Rg) (hy : y.ok = true) (hl : ∀ r ∈ l, r.ok = true) (c k : Int) : hasB (cutAll y l) c k = (hasB l c k && !y.has c k) := by
  rw [hasB_any, hasB_any]
  unfold cutAll
  rw [List.any_flatMap]
  induction l with
  | nil => rfl
  | cons r l ih =>
    have hr := hl r List.mem_cons_self
    rw [List.any_cons, List.any_cons, ih fun r hr => hl r (List.mem_cons_of_mem _ hr), cutR_has y r hy hr, hr, Bool.true_and]
    cases r.has c k <;> cases y.has c k <;> simp
def okLen (l : List Rg) : Nat := (l.filter Rg.ok).length
theorem okLen_append (a b : List Rg) : okLen (a ++ b) = okLen a + okLen b := by simp [okLen]
theorem okLen_le (l : List Rg) : okLen l ≤ l.length := List.length_filter_le _ _
/-- Behind y nothing is cut. -/
theorem cutAll_behind (y : Rg) (l : List Rg) (h : ∀ r ∈ l, r.c ≠ y.c ∨ y.t ≤ r.f ∨ r.t ≤ y.f) : okLen (cutAll y l) ≤ l.length := by
  induction l with
  | nil => simp [cutAll, okLen]
  | cons r l ih =>
    have e : cutAll y (r :: l) = [r] ++ cutAll y l := by unfold cutAll; rw [List.flatMap_cons, cutR, if_pos (h r List.mem_cons_self)]
    rw [e, okLen_append]
    have := ih fun r hr => h r (List.mem_cons_of_mem _ hr)
    have := okLen_le [r]
    simp only [List.length_cons, List.length_nil] at *; omega
/-- A range cuts one of them in two, at most. -/
theorem cutAll_ok (y : Rg) (l : List Rg) (h : Canon (tns l)) (hy : y.ok = true) : okLen (cutAll y l) ≤ l.length + 1 := by
  have h2 := Rg.ok_iff.1 hy
  induction l with
  | nil => simp [cutAll, okLen]
  | cons r l ih =>
    have hc : Canon (r.tn :: tns l) := h
    have ih := ih hc.tail
    have e : cutAll y (r :: l) = cutR y r ++ cutAll y l := by unfold cutAll; rw [List.flatMap_cons]
    rw [e, okLen_append]
    by_cases g : okLen (cutR y r) ≤ 1
    · simp only [List.length_cons]; omega
    · have hg : r.f < y.f ∧ y.t < r.t ∧ r.c = y.c := by
        unfold cutR at g
        split at g
        · exact absurd (okLen_le [r]) (by simpa using g)
        · rename_i hn
          by_cases a : (⟨r.c, r.f, y.f⟩ : Rg).ok = true
          · by_cases b : (⟨r.c, y.t, r.t⟩ : Rg).ok = true
            · have a1 := Rg.ok_iff.1 a
              have b1 := Rg.ok_iff.1 b
              simp only at a1 b1; omega
            · exfalso; apply g; simp [okLen, a, b]
          · exfalso; apply g
            by_cases b : (⟨r.c, y.t, r.t⟩ : Rg).ok = true <;> simp [okLen, a, b]
      have hbeh := cutAll_behind y l fun s hs => by
        have hb := hc.bef s.tn (List.mem_map_of_mem hs)
        unfold Bef at hb
        simp only [Rg.tn] at hb
        omega
      have := cutR_len y r
      have := okLen_le (cutR y r)
      simp only [List.length_cons]; omega
end Go.Proofs.Ytdblfabbmpdoiaa
