/- A row in its form; where its foremost thing is; its numbers are right. -/
import Derived.Test.YtcolbgbmnmkogabSeqRc
namespace Go.Proofs.Ytcolbgbmnmkogab
set_option linter.unusedVariables false
set_option linter.unusedSimpArgs false

theorem gt_out {L : List Th} {x : Nat} (h : L.length ≤ x) : gt L x = ⟨0, 0, 0, 0, 0⟩ := by unfold gt; rw [List.getElem?_eq_none h]; rfl
/-- A thing with nothing, behind: nothing is said of it that wasn't. -/
theorem gt_snoc (L : List Th) : gt (L ++ [⟨0, 0, 0, 0, 0⟩]) = gt L := by
  funext x
  by_cases h : x < L.length
  · unfold gt
    rw [List.getElem?_append_left h]
  · rw [gt_out (L := L) (by omega)]
    by_cases e : x = L.length
    · subst e
      show ((L ++ [_])[L.length]?).getD _ = _
      rw [List.getElem?_append_right (Nat.le_refl _), Nat.sub_self]
      rfl
    · exact gt_out (by simp; omega)
/-- A row in its form: n things, thing 0 among them; the tree t of all others hangs on thing 0's back. -/
structure RowOk (A : Nat → Th) (n : Nat) (t : Tr) : Prop where
  n0 : 0 < n
  head : A 0 = ⟨0, 0, t.root, 0, 0⟩
  rep : Rep A 0 t
  nod : t.flat.Nodup
  lab : ∀ x, x ∈ t.flat ↔ 1 ≤ x ∧ x < n
  long : ∀ x, 0 ≤ (A x).long
  out : ∀ x, n ≤ x → A x = ⟨0, 0, 0, 0, 0⟩
theorem RowOk.new : RowOk (gt [⟨0, 0, 0, 0, 0⟩]) 1 .nil := by
  refine ⟨by omega, rfl, trivial, List.nodup_nil, fun x => ⟨fun h => (List.not_mem_nil h).elim, fun h => absurd h.2 (by omega)⟩, fun x => ?_, fun x hx => gt_out hx⟩
  by_cases h : x = 0
  · subst h; exact Int.le_refl _
  · rw [gt_out (by show 1 ≤ x; omega)]
    exact Int.le_refl _
/-- Each one's whole is at most the whole's. -/
theorem Rep.tame {A : Nat → Th} (hl : ∀ x, 0 ≤ (A x).long) : ∀ {t : Tr} {p : Nat}, Rep A p t → ∀ x ∈ t.flat, (A x).long ≤ t.sum A ∧ 0 ≤ (A x).whole ∧ (A x).whole ≤ t.sum A
  | .node l i r, p, ⟨h1, h2, h3, h4, h5, h6⟩, x, hx => by
    have s1 := Tr.sum_nn hl l
    have s2 := Tr.sum_nn hl r
    have s3 := hl i
    simp only [Tr.flat, List.mem_append, List.mem_cons] at hx
    simp only [Tr.sum]
    rcases hx with hx | rfl | hx
    · have := Rep.tame hl h5 x hx
      omega
    · omega
    · have := Rep.tame hl h6 x hx
      omega
theorem RowOk.tame {A : Nat → Th} {n : Nat} {t : Tr} (h : RowOk A n t) (hs : t.sum A ≤ 1152921504606846976) : Tame A := fun x => by
  by_cases h0 : x = 0
  · rw [h0, h.head]
    have e : (0 : Int) ≤ 1152921504606846976 := by decide
    exact ⟨Int.le_refl _, e, Int.le_refl _, e⟩
  by_cases hx : x < n
  · have := Rep.tame h.long h.rep x ((h.lab x).2 ⟨by omega, hx⟩)
    have := h.long x
    omega
  · rw [h.out x (by omega)]
    exact ⟨Int.le_refl _, by decide, Int.le_refl _, by decide⟩
theorem plug_append : ∀ (c' c : List Fr) (t : Tr), plug (c' ++ c) t = plug c (plug c' t)
  | [], _, _ => rfl
  | .L u r :: c', c, t => plug_append c' c (.node t u r)
  | .R l u :: c', c, t => plug_append c' c (.node l u t)
/-- The foremost has nothing on its front, and nothing is ahead of it. -/
theorem focus_first : ∀ {t : Tr}, t ≠ .nil → ∃ (c : List Fr) (a : Tr), t = plug c (.node .nil t.first a) ∧ cl c = []
  | .nil, h => absurd rfl h
  | .node .nil i r, _ => ⟨[], r, rfl, rfl⟩
  | .node (.node x j y) i r, _ => by
    obtain ⟨c, a, e, hc⟩ := focus_first (t := .node x j y) (by simp)
    refine ⟨c ++ [.L i r], a, ?_, ?_⟩
    · rw [plug_append]
      show Tr.node (.node x j y) i r = .node (plug c (.node .nil (Tr.node x j y).first a)) i r
      rw [← e]
    · have key : ∀ c : List Fr, cl c = [] → cl (c ++ [.L i r]) = [] := by
        intro c
        induction c with
        | nil => intro _; rfl
        | cons f c ih =>
          cases f with
          | L u q => intro h; exact ih h
          | R l u => intro h; simp [cl] at h
      exact key c hc
end Go.Proofs.Ytcolbgbmnmkogab
