/- What is so of a sequence behind a cut, a piece more, a run more (no Go in it). -/
import Derived.Test.YtcolbgbmnmkogabSqJ
namespace Go.Proofs.Ytcolbgbmnmkogab
set_option linter.unusedVariables false
set_option linter.unusedSimpArgs false

theorem insB_perm {i n : Nat} : ∀ {l : List Nat}, (i = 0 ∨ i ∈ l) → (insB i n l).Perm (n :: l)
  | [], h => by
    rcases h with rfl | h
    · exact List.Perm.refl _
    · cases h
  | x :: l, h => by
    show List.Perm (if i = 0 then n :: x :: l else if x = i then x :: n :: l else x :: insB i n l) (n :: x :: l)
    by_cases h0 : i = 0
    · rw [if_pos h0]
    · rw [if_neg h0]
      by_cases hx : x = i
      · rw [if_pos hx]; exact List.Perm.swap _ _ _
      · rw [if_neg hx]
        have hm : i ∈ l := by
          rcases h with h | h
          · exact absurd h h0
          · rcases List.mem_cons.1 h with h | h
            · exact absurd h.symm hx
            · exact h
        exact (List.Perm.cons x (insB_perm (.inr hm))).trans (List.Perm.swap _ _ _)
theorem sumF_perm {len : Nat → Int} {a b : List Nat} (h : a.Perm b) : sumF len a = sumF len b := by
  induction h with
  | nil => rfl
  | cons x _ ih => rw [sumF_cons, sumF_cons, ih]
  | swap x y l => rw [sumF_cons, sumF_cons, sumF_cons, sumF_cons]; omega
  | trans _ _ ih1 ih2 => rw [ih1, ih2]
theorem sumF_congr {f g : Nat → Int} {l : List Nat} (h : ∀ x ∈ l, f x = g x) : sumF f l = sumF g l := by
  unfold sumF
  rw [List.map_congr_left h]
/-- A row with one thing more. -/
theorem RowF.add {n : Nat} {F : List Nat} {len : Nat → Int} (h : RowF n F len) {i : Nat} (hi : i < n) {lg : Int} (hl : 0 ≤ lg) : RowF (n + 1) (insB i n F) (fun x => len x + (if x = n then lg else 0)) := by
  have hm : i = 0 ∨ i ∈ F := by
    by_cases h0 : i = 0
    · exact .inl h0
    · exact .inr ((h.lab i).2 ⟨by omega, hi⟩)
  have hp := insB_perm (n := n) hm
  have hn := h.n0
  refine ⟨by omega, hp.nodup_iff.2 (List.nodup_cons.2 ⟨fun hx => by have := (h.lab n).1 hx; omega, h.nod⟩), fun x => ?_, fun x => ?_, ?_, fun x hx => ?_⟩
  · rw [hp.mem_iff, List.mem_cons, h.lab]
    constructor
    · rintro (rfl | ⟨a, b⟩)
      · exact ⟨by omega, by omega⟩
      · exact ⟨a, by omega⟩
    · rintro ⟨a, b⟩
      by_cases e : x = n
      · exact .inl e
      · exact .inr ⟨a, by omega⟩
  · have := h.long x
    show 0 ≤ len x + _
    split <;> omega
  · show len 0 + _ = 0
    rw [h.zero, if_neg (by omega)]; rfl
  · show len x + _ = 0
    rw [h.out x (by omega), if_neg (by omega)]; rfl
theorem RowF.grow {n : Nat} {F : List Nat} {len : Nat → Int} (h : RowF n F len) {i : Nat} (hi : i < n) (h0 : i ≠ 0) {m : Int} (hm : 0 ≤ len i + m) : RowF n F (fun x => len x + (if x = i then m else 0)) := by
  refine ⟨h.n0, h.nod, h.lab, fun x => ?_, ?_, fun x hx => ?_⟩
  · show 0 ≤ len x + _
    by_cases e : x = i
    · rw [if_pos e, e]; exact hm
    · rw [if_neg e]; have := h.long x; omega
  · show len 0 + _ = 0
    rw [h.zero, if_neg (by omega)]; rfl
  · show len x + _ = 0
    rw [h.out x hx, if_neg (by omega)]; rfl
theorem sum_add {n : Nat} {F : List Nat} {len : Nat → Int} (h : RowF n F len) {i : Nat} (hi : i < n) (lg : Int) : sumF (fun x => len x + (if x = n then lg else 0)) (insB i n F) = sumF len F + lg := by
  have hm : i = 0 ∨ i ∈ F := by
    by_cases h0 : i = 0
    · exact .inl h0
    · exact .inr ((h.lab i).2 ⟨by omega, hi⟩)
  rw [sumF_perm (insB_perm (n := n) hm), sumF_cons, if_pos rfl, h.out n (Nat.le_refl _)]
  have : sumF (fun x => len x + (if x = n then lg else 0)) F = sumF len F := sumF_congr fun x hx => by
    have := (h.lab x).1 hx
    rw [if_neg (by omega)]; omega
  rw [this]; omega
theorem sum_grow {n : Nat} {F : List Nat} {len : Nat → Int} (h : RowF n F len) {i : Nat} (hi : i < n) (h0 : i ≠ 0) (m : Int) : sumF (fun x => len x + (if x = i then m else 0)) F = sumF len F + m := by
  have hm : i ∈ F := (h.lab i).2 ⟨by omega, hi⟩
  obtain ⟨A, B, e⟩ := List.append_of_mem hm
  have hn := h.nod
  rw [e] at hn
  have hd := List.nodup_append.1 hn
  have hA : i ∉ A := fun hx => hd.2.2 i hx i (by simp) rfl
  have hB : i ∉ B := (List.nodup_cons.1 hd.2.1).1
  rw [e, sumF_append, sumF_append, sumF_cons, sumF_cons, if_pos rfl]
  have e1 : sumF (fun x => len x + (if x = i then m else 0)) A = sumF len A := sumF_congr fun x hx => by rw [if_neg (fun e' => hA (by rw [← e']; exact hx))]; omega
  have e2 : sumF (fun x => len x + (if x = i then m else 0)) B = sumF len B := sumF_congr fun x hx => by rw [if_neg (fun e' => hB (by rw [← e']; exact hx))]; omega
  rw [e1, e2]; omega
/-- Of two pieces: all of the one is ahead of the other, by ids. -/
def BefI (S : SS) (i j : Nat) : Prop := (S.first i).c < (S.first j).c ∨ ((S.first i).c = (S.first j).c ∧ (S.first i).k + S.len i ≤ (S.first j).k)
theorem pc_snoc {S : SS} {x : Sp} {i : Nat} : ({ S with pcs := S.pcs ++ [x] } : SS).pc i = if i < S.pcs.length then S.pc i else if i = S.pcs.length then x else .zero := by
  unfold SS.pc
  by_cases h : i < S.pcs.length
  · rw [if_pos h, List.getElem?_append_left h]
  · rw [if_neg h]
    by_cases e : i = S.pcs.length
    · rw [if_pos e, e, List.getElem?_append_right (Nat.le_refl _), Nat.sub_self]; rfl
    · rw [if_neg e, List.getElem?_eq_none (by simp; omega)]; rfl
/-- A list with one put right behind another stays in order, if that one is behind all ahead, and ahead of all behind. -/
theorem pairwise_ins {R : Nat → Nat → Prop} {i n : Nat} : ∀ {l : List Nat}, l.Nodup → l.Pairwise R → (i = 0 ∨ i ∈ l) → (0 ∉ l) → (∀ x ∈ l, (x = i ∨ (i ≠ 0 ∧ ∃ A B, l = A ++ x :: B ∧ i ∈ B)) → R x n) → (∀ x ∈ l, (i = 0 ∨ ∃ A B, l = A ++ i :: B ∧ x ∈ B) → R n x) → (insB i n l).Pairwise R
  | [], _, _, h, _, _, _ => by
    rcases h with rfl | h
    · exact List.pairwise_singleton _ _
    · cases h
  | y :: l, hnd, hp, h, hz, h1, h2 => by
    have hc := List.pairwise_cons.1 hp
    have hd := List.nodup_cons.1 hnd
    show (if i = 0 then n :: y :: l else if y = i then y :: n :: l else y :: insB i n l).Pairwise R
    by_cases h0 : i = 0
    · rw [if_pos h0]
      exact List.pairwise_cons.2 ⟨fun x hx => h2 x hx (.inl h0), hp⟩
    · rw [if_neg h0]
      by_cases hy : y = i
      · rw [if_pos hy]
        subst hy
        refine List.pairwise_cons.2 ⟨fun x hx => ?_, List.pairwise_cons.2 ⟨fun x hx => h2 x (by simp [hx]) (.inr ⟨[], l, rfl, hx⟩), hc.2⟩⟩
        rcases List.mem_cons.1 hx with rfl | hx
        · exact h1 _ (by simp) (.inl rfl)
        · exact hc.1 x hx
      · rw [if_neg hy]
        have hm : i ∈ l := by
          rcases h with h | h
          · exact absurd h h0
          · rcases List.mem_cons.1 h with h | h
            · exact absurd h.symm hy
            · exact h
        refine List.pairwise_cons.2 ⟨fun x hx => ?_, pairwise_ins hd.2 hc.2 (.inr hm) (fun h' => hz (by simp [h'])) (fun x hx hh => h1 x (by simp [hx]) ?_) (fun x hx hh => h2 x (by simp [hx]) ?_)⟩
        · rcases List.mem_cons.1 ((insB_perm (n := n) (.inr hm)).mem_iff.1 hx) with rfl | hx
          · exact h1 y (by simp) (.inr ⟨h0, [], l, rfl, hm⟩)
          · exact hc.1 x hx
        · rcases hh with hh | ⟨a, A, B, e, hb⟩
          · exact .inl hh
          · exact .inr ⟨a, y :: A, B, by rw [e]; rfl, hb⟩
        · rcases hh with hh | ⟨A, B, e, hb⟩
          · exact .inl hh
          · exact .inr ⟨y :: A, B, by rw [e]; rfl, hb⟩
end Go.Proofs.Ytcolbgbmnmkogab
