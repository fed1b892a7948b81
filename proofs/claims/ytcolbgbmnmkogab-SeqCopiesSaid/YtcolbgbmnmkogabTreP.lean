/- What is so while a new thing is lifted. -/
import Derived.Test.YtcolbgbmnmkogabTreO
namespace Go.Proofs.Ytcolbgbmnmkogab
set_option linter.unusedVariables false
set_option linter.unusedSimpArgs false

theorem apart_L {c : List Fr} {a b r : Tr} {i u : Nat} (N : (plug (.L u r :: c) (.node a i b)).flat.Nodup) (Z : 0 ∉ (plug (.L u r :: c) (.node a i b)).flat) : Apart c a b r i u := by
  refine apart_of ?_ N Z
  rw [flat_plug]
  refine List.perm_iff_count.2 fun x => ?_
  simp only [cl, cr, Tr.flat, List.count_append, List.count_cons]
  omega
theorem apart_R {c : List Fr} {a b r : Tr} {i u : Nat} (N : (plug (.R r u :: c) (.node a i b)).flat.Nodup) (Z : 0 ∉ (plug (.R r u :: c) (.node a i b)).flat) : Apart c a b r i u := by
  refine apart_of ?_ N Z
  rw [flat_plug]
  refine List.perm_iff_count.2 fun x => ?_
  simp only [cl, cr, Tr.flat, List.count_append, List.count_cons, List.count_nil]
  omega
theorem topC_any {c : List Fr} (h : c ≠ []) (i j : Nat) : topC c i = topC c j := by
  cases c with
  | nil => exact absurd rfl h
  | cons f c => cases f <;> rfl
/-- A row in its form, seen from the thing x; F: how they stand; g: how long they are. -/
structure Seen (A : Nat → Th) (n x : Nat) (F : List Nat) (g : Nat → Int) (c : List Fr) (a b : Tr) : Prop where
  ok : RowOk A n (plug c (.node a x b))
  flat : (plug c (.node a x b)).flat = F
  long : ∀ j, (A j).long = g j
theorem Tr.sum_flat {A : Nat → Th} : ∀ {t : Tr}, t.sum A = (t.flat.map fun x => (A x).long).sum
  | .nil => rfl
  | .node l i r => by
    have h1 := Tr.sum_flat (A := A) (t := l)
    have h2 := Tr.sum_flat (A := A) (t := r)
    simp only [Tr.sum, Tr.flat, List.map_append, List.map_cons, List.sum_append, List.sum_cons, h1, h2]
    omega
theorem Seen.zero {A : Nat → Th} {n x : Nat} {F : List Nat} {g : Nat → Int} {c : List Fr} {a b : Tr} (h : Seen A n x F g c a b) : 0 ∉ (plug c (.node a x b)).flat := fun h0 => by
  have := (h.ok.lab 0).1 h0
  omega
/-- Lifted it is seen from one lower. -/
theorem Seen.lift {A : Nat → Th} {n x : Nat} {F : List Nat} {g : Nat → Int} {f : Fr} {c : List Fr} {a b : Tr} (h : Seen A n x F g (f :: c) a b) : ∃ a' b', Seen (liftA A x) n x F g c a' b' := by
  have hW : (A 0).whole = 0 := by rw [h.ok.head]
  cases f with
  | L u r =>
    have P := apart_L h.ok.nod h.zero
    have hd : (A 0).d1 = topC c u := by
      have := h.ok.head
      rw [this]
      exact root_plug (.L u r :: c) (.node a x b)
    obtain ⟨q1, q2, q3, q4⟩ := lift_repL h.ok.rep P hW (fun e => by rw [hd, e]; rfl)
    have hfl := (flat_lift c a b r x u).1
    refine ⟨a, .node b u r, ⟨⟨h.ok.n0, ?_, q1, by rw [hfl]; exact h.ok.nod, fun y => by rw [hfl]; exact h.ok.lab y, fun y => by rw [q4]; exact h.ok.long y, fun y hy => ?_⟩, by rw [hfl]; exact h.flat, fun j => by rw [q4]; exact h.long j⟩⟩
    · rw [q2, root_plug]
      by_cases hc : c = []
      · rw [if_pos hc, hc, h.ok.head]; rfl
      · rw [if_neg hc, h.ok.head, root_plug]
        show (⟨0, 0, topC c u, 0, 0⟩ : Th) = ⟨0, 0, topC c x, 0, 0⟩
        rw [topC_any hc u x]
    · have hy' : y ∉ (plug (.L u r :: c) (.node a x b)).flat := fun h9 => by have := (h.ok.lab y).1 h9; omega
      rw [flat_plug] at hy'
      have hn0 := h.ok.n0
      rw [q3 y (fun h9 => hy' (by rcases List.mem_append.1 h9 with h9 | h9 <;> simp [cl, cr, h9])) (fun e => hy' (by rw [e]; simp [Tr.flat])) (fun e => hy' (by rw [e]; simp [cl, cr])) (fun h9 => hy' (by simp [Tr.flat, h9])) (by omega)]
      exact h.ok.out y hy
  | R r u =>
    have P := apart_R h.ok.nod h.zero
    have hd : (A 0).d1 = topC c u := by
      have := h.ok.head
      rw [this]
      exact root_plug (.R r u :: c) (.node a x b)
    obtain ⟨q1, q2, q3, q4⟩ := lift_repR h.ok.rep P hW (fun e => by rw [hd, e]; rfl)
    have hfl := (flat_lift c a b r x u).2
    refine ⟨.node r u a, b, ⟨⟨h.ok.n0, ?_, q1, by rw [hfl]; exact h.ok.nod, fun y => by rw [hfl]; exact h.ok.lab y, fun y => by rw [q4]; exact h.ok.long y, fun y hy => ?_⟩, by rw [hfl]; exact h.flat, fun j => by rw [q4]; exact h.long j⟩⟩
    · rw [q2, root_plug]
      by_cases hc : c = []
      · rw [if_pos hc, hc, h.ok.head]; rfl
      · rw [if_neg hc, h.ok.head, root_plug]
        show (⟨0, 0, topC c u, 0, 0⟩ : Th) = ⟨0, 0, topC c x, 0, 0⟩
        rw [topC_any hc u x]
    · have hy' : y ∉ (plug (.R r u :: c) (.node a x b)).flat := fun h9 => by have := (h.ok.lab y).1 h9; omega
      rw [flat_plug] at hy'
      have hn0 := h.ok.n0
      rw [q3 y (fun h9 => hy' (by rcases List.mem_append.1 h9 with h9 | h9 <;> simp [cl, cr, h9])) (fun e => hy' (by rw [e]; simp [Tr.flat])) (fun e => hy' (by rw [e]; simp [cl, cr])) (fun h9 => hy' (by simp [Tr.flat, h9])) (by omega)]
      exact h.ok.out y hy
end Go.Proofs.Ytcolbgbmnmkogab
