/- The ids of a set stand in order. -/
import Derived.Test.YtipncloegjcjfaaEachA
namespace Go.Proofs.Ytipncloegjcjfaa
open Go.RowKit Go.Shelf
set_option linter.unusedVariables false
set_option linter.unusedSimpArgs false

theorem upTo_mem {r : Rg} {n : Int} {q : Int × Int} (h : q ∈ upTo r n) : q.1 = r.c ∧ r.f ≤ q.2 ∧ q.2 < n := by
  unfold upTo at h
  obtain ⟨i, hi, rfl⟩ := List.mem_map.1 h
  have := List.mem_range.1 hi
  exact ⟨rfl, by simp only; omega, by simp only; omega⟩
theorem idsOf_mem {l : List Rg} {q : Int × Int} (h : q ∈ idsOf l) : ∃ r ∈ l, r.c = q.1 ∧ r.f ≤ q.2 ∧ q.2 < r.t := by
  unfold idsOf at h
  obtain ⟨r, hr, hq⟩ := List.mem_flatMap.1 h
  have := upTo_mem hq
  exact ⟨r, hr, this.1.symm, this.2⟩
theorem upTo_sorted (r : Rg) (n : Int) : (upTo r n).Pairwise fun p q => lessI p.1 p.2 q.1 q.2 = true := by
  unfold upTo
  rw [List.pairwise_map]
  exact (List.pairwise_lt_range).imp fun {a b} h => lessI_iff.2 (.inr ⟨rfl, by omega⟩)
theorem idsOf_sorted {l : List Rg} (h : Canon (tns l)) : (idsOf l).Pairwise fun p q => lessI p.1 p.2 q.1 q.2 = true := by
  induction l with
  | nil => exact List.Pairwise.nil
  | cons r l ih =>
    have hc : Canon (r.tn :: tns l) := h
    have e : idsOf (r :: l) = upTo r r.t ++ idsOf l := by unfold idsOf; rw [List.flatMap_cons]
    rw [e, List.pairwise_append]
    refine ⟨upTo_sorted r r.t, ih hc.tail, fun p hp q hq => ?_⟩
    have h1 := upTo_mem hp
    obtain ⟨s, hs, h2, h3, h4⟩ := idsOf_mem hq
    have hb := hc.bef s.tn (List.mem_map_of_mem hs)
    unfold Bef at hb
    simp only [Rg.tn] at hb
    exact lessI_iff.2 (by omega)
/-- The last id that came. -/
def lastId : List (Int × Int) → Int × Int
  | [] => (0, 0)
  | [p] => p
  | _ :: p :: l => lastId (p :: l)
theorem lastId_snoc (l : List (Int × Int)) (x : Int × Int) : lastId (l ++ [x]) = x := by
  induction l with
  | nil => rfl
  | cons p l ih =>
    cases l with
    | nil => rfl
    | cons q l => exact ih
theorem lastId_mem {l : List (Int × Int)} (h : l ≠ []) : lastId l ∈ l := by
  induction l with
  | nil => exact absurd rfl h
  | cons p l ih =>
    cases l with
    | nil => exact List.mem_cons_self
    | cons q l => exact List.mem_cons_of_mem _ (ih (by simp))
theorem each_next {l out : List Rg} (hF : Form (tns out) (turnOf (tns l))) {pre : List (Int × Int)} {x : Int × Int} (h : pre ++ [x] <+: idsOf out) : hasB l x.1 x.2 = true ∧ lessI (lastId pre).1 (lastId pre).2 x.1 x.2 = true ∧ lessI x.1 x.2 (lastId pre).1 (lastId pre).2 = false := by
  have hx : x ∈ idsOf out := h.subset (by simp)
  obtain ⟨r, hr, e1, e2, e3⟩ := idsOf_mem hx
  have hok := Rg.ok_iff.1 (hF.oks r hr)
  have hl : lessI (lastId pre).1 (lastId pre).2 x.1 x.2 = true := by
    by_cases hp : pre = []
    · subst hp; exact lessI_iff.2 (.inl (by show (0 : Int) < x.1; omega))
    · have hs := (idsOf_sorted hF.1).sublist h.sublist
      rw [List.pairwise_append] at hs
      exact hs.2.2 _ (lastId_mem hp) x (by simp)
  refine ⟨?_, hl, ?_⟩
  · rw [hasB_turn, ← hF.2, ← hF.1.turnOf, ← hasB_turn]
    unfold hasB
    rw [List.any_eq_true]
    exact ⟨r, List.mem_filter.2 ⟨hr, hF.oks r hr⟩, Rg.has_iff.2 ⟨e1, e2, e3⟩⟩
  · have := lessI_iff.1 hl
    cases e : lessI x.1 x.2 (lastId pre).1 (lastId pre).2
    · rfl
    · have := lessI_iff.1 e; omega
end Go.Proofs.Ytipncloegjcjfaa
