/- A row in its form; where its foremost thing is; its numbers are right. -/
import Derived.Test.YtdonhdmealhgiabSeqRc
namespace Go.Proofs.Ytdonhdmealhgiab
set_option linter.unusedVariables false
set_option linter.unusedSimpArgs false

theorem gt_out {L : List Th} {x : Nat} (h : L.length ≤ x) : gt L x = ⟨0, 0, 0, 0, 0⟩ := by unfold gt; rw [List.getElem?_eq_none h]; rfl
/-- A thing with nothing, behind: nothing is said of it that wasn't. -/
theorem gt_snoc (L : List Th) : gt (L ++ [⟨0, 0, 0, 0, 0⟩]) = gt L := by
  funext x
  by_cases h : x < L.length
  · unfold gt
    rw [List.getElem?_append_left h]
  · rw [gt_out (L := L) (by omega)]
    by_cases e : x = L.length
    · subst e
      show ((L ++ [_])[L.length]?).getD _ = _
      rw [List.getElem?_append_right (Nat.le_refl _), Nat.sub_self]
      rfl
    · exact gt_out (by simp; omega)
/-- A row in its form: n things, thing 0 among them; the tree t of all others hangs on thing 0's back. -/
structure RowOk (A : Nat → Th) (n : Nat) (t : Tr) : Prop where
  n0 : 0 < n
  head : A 0 = ⟨0, 0, t.root, 0, 0⟩
  rep : Rep A 0 t
  nod : t.flat.Nodup
  lab : ∀ x, x ∈ t.flat ↔ 1 ≤ x ∧ x < n
  long : ∀ x, 0 ≤ (A x).long
  out : ∀ x, n ≤ x → A x = ⟨0, 0, 0, 0, 0⟩
theorem RowOk.new : RowOk (gt [⟨0, 0, 0, 0, 0⟩]) 1 .nil := by
  refine ⟨by omega, rfl, trivial, List.nodup_nil, fun x => ⟨fun h => (List.not_mem_nil h).elim, fun h => absurd h.2 (by omega)⟩, fun x => ?_, fun x hx => gt_out hx⟩
  by_cases h : x = 0
  · subst h; exact Int.le_refl _
  · rw [gt_out (by show 1 ≤ x; omega)]
    exact Int.le_refl _
/-- Each one's whole is at most the whole's. -/
theorem Rep.tame {A : Nat → Th} (hl : ∀ x, 0 ≤ (A x).long) : ∀ {t : Tr} {p : Nat}, Rep A p t → ∀ x ∈ t.flat, (A x).long ≤ t.sum A ∧ 0 ≤ (A x).whole ∧ (A x).whole ≤ t.sum A
  | .node l i r, p, ⟨h1, h2, h3, h4, h5, h6⟩, x, hx => by
    have s1 := Tr.sum_nn hl l
    have s2 := Tr.sum_nn hl r
    have s3 := hl i
    simp only [Tr.flat, List.mem_append, List.mem_cons] at hx
    simp only [Tr.sum]
    rcases hx with hx | rfl | hx
    · have := Rep.tame hl h5 x hx
      omega
    · omega
    · have := Rep.tame hl h6 x hx
      omega
theorem RowOk.tame {A : Nat → Th} {n : Nat} {t : Tr} (h : RowOk A n t) (hs : t.sum A ≤ 1152921504606846976) : Tame A := fun x => by
  by_cases h0 : x = 0
  · rw [h0, h.head]
    have e : (0 : Int) ≤ 1152921504606846976 := by decide
    exact ⟨Int.le_refl _, e, Int.le_refl _, e⟩
  by_cases hx : x < n
  · have := Rep.tame h.long h.rep x ((h.lab x).2 ⟨by omega, hx⟩)
    have := h.long x
    omega
  · rw [h.out x (by omega)]
    exact ⟨Int.le_refl _, by decide, Int.le_refl _, by decide⟩
theorem plug_append : ∀ (c' c : List Fr) (t : Tr), plug (c' ++ c) t = plug c (plug c' t)
  | [], _, _ => rfl
  | .L u r :: c', c, t => plug_append c' c (.node t u r)
  | .R l u :: c', c, t => plug_append c' c (.node l u t)
/-- The foremost has nothing on its front, and nothing is ahead of it. -/
theorem focus_first : ∀ {t : Tr}, t ≠ .nil → ∃ (c : List Fr) (a : Tr), t = plug c (.node .nil t.first a) ∧ cl c = []
  | .nil, h => absurd rfl h
  | .node .nil i r, _ => ⟨[], r, rfl, rfl⟩
  | .node (.node x j y) i r, _ => by
    obtain ⟨c, a, e, hc⟩ := focus_first (t := .node x j y) (by simp)
    refine ⟨c ++ [.L i r], a, ?_, ?_⟩
    · rw [plug_append]
      show Tr.node (.node x j y) i r = .node (plug c (.node .nil (Tr.node x j y).first a)) i r
      rw [← e]
    · have key : ∀ c : List Fr, cl c = [] → cl (c ++ [.L i r]) = [] := by
        intro c
        induction c with
        | nil => intro _; rfl
        | cons f c ih =>
          cases f with
          | L u q => intro h; exact ih h
          | R l u => intro h; simp [cl] at h
      exact key c hc
end Go.Proofs.Ytdonhdmealhgiab

/- What is so while a new thing is lifted. -/
namespace Go.Proofs.Ytdonhdmealhgiab
set_option linter.unusedVariables false
set_option linter.unusedSimpArgs false

theorem apart_L {c : List Fr} {a b r : Tr} {i u : Nat} (N : (plug (.L u r :: c) (.node a i b)).flat.Nodup) (Z : 0 ∉ (plug (.L u r :: c) (.node a i b)).flat) : Apart c a b r i u := by
  refine apart_of ?_ N Z
  rw [flat_plug]
  refine List.perm_iff_count.2 fun x => ?_
  simp only [cl, cr, Tr.flat, List.count_append, List.count_cons]
  omega
theorem apart_R {c : List Fr} {a b r : Tr} {i u : Nat} (N : (plug (.R r u :: c) (.node a i b)).flat.Nodup) (Z : 0 ∉ (plug (.R r u :: c) (.node a i b)).flat) : Apart c a b r i u := by
  refine apart_of ?_ N Z
  rw [flat_plug]
  refine List.perm_iff_count.2 fun x => ?_
  simp only [cl, cr, Tr.flat, List.count_append, List.count_cons, List.count_nil]
  omega
theorem topC_any {c : List Fr} (h : c ≠ []) (i j : Nat) : topC c i = topC c j := by
  cases c with
  | nil => exact absurd rfl h
  | cons f c => cases f <;> rfl
/-- A row in its form, seen from the thing x; F: how they stand; g: how long they are. -/
structure Seen (A : Nat → Th) (n x : Nat) (F : List Nat) (g : Nat → Int) (c : List Fr) (a b : Tr) : Prop where
  ok : RowOk A n (plug c (.node a x b))
  flat : (plug c (.node a x b)).flat = F
  long : ∀ j, (A j).long = g j
theorem Tr.sum_flat {A : Nat → Th} : ∀ {t : Tr}, t.sum A = (t.flat.map fun x => (A x).long).sum
  | .nil => rfl
  | .node l i r => by
    have h1 := Tr.sum_flat (A := A) (t := l)
    have h2 := Tr.sum_flat (A := A) (t := r)
    simp only [Tr.sum, Tr.flat, List.map_append, List.map_cons, List.sum_append, List.sum_cons, h1, h2]
    omega
theorem Seen.zero {A : Nat → Th} {n x : Nat} {F : List Nat} {g : Nat → Int} {c : List Fr} {a b : Tr} (h : Seen A n x F g c a b) : 0 ∉ (plug c (.node a x b)).flat := fun h0 => by
  have := (h.ok.lab 0).1 h0
  omega
/-- Lifted it is seen from one lower. -/
theorem Seen.lift {A : Nat → Th} {n x : Nat} {F : List Nat} {g : Nat → Int} {f : Fr} {c : List Fr} {a b : Tr} (h : Seen A n x F g (f :: c) a b) : ∃ a' b', Seen (liftA A x) n x F g c a' b' := by
  have hW : (A 0).whole = 0 := by rw [h.ok.head]
  cases f with
  | L u r =>
    have P := apart_L h.ok.nod h.zero
    have hd : (A 0).d1 = topC c u := by
      have := h.ok.head
      rw [this]
      exact root_plug (.L u r :: c) (.node a x b)
    obtain ⟨q1, q2, q3, q4⟩ := lift_repL h.ok.rep P hW (fun e => by rw [hd, e]; rfl)
    have hfl := (flat_lift c a b r x u).1
    refine ⟨a, .node b u r, ⟨⟨h.ok.n0, ?_, q1, by rw [hfl]; exact h.ok.nod, fun y => by rw [hfl]; exact h.ok.lab y, fun y => by rw [q4]; exact h.ok.long y, fun y hy => ?_⟩, by rw [hfl]; exact h.flat, fun j => by rw [q4]; exact h.long j⟩⟩
    · rw [q2, root_plug]
      by_cases hc : c = []
      · rw [if_pos hc, hc, h.ok.head]; rfl
      · rw [if_neg hc, h.ok.head, root_plug]
        show (⟨0, 0, topC c u, 0, 0⟩ : Th) = ⟨0, 0, topC c x, 0, 0⟩
        rw [topC_any hc u x]
    · have hy' : y ∉ (plug (.L u r :: c) (.node a x b)).flat := fun h9 => by have := (h.ok.lab y).1 h9; omega
      rw [flat_plug] at hy'
      have hn0 := h.ok.n0
      rw [q3 y (fun h9 => hy' (by rcases List.mem_append.1 h9 with h9 | h9 <;> simp [cl, cr, h9])) (fun e => hy' (by rw [e]; simp [Tr.flat])) (fun e => hy' (by rw [e]; simp [cl, cr])) (fun h9 => hy' (by simp [Tr.flat, h9])) (by omega)]
      exact h.ok.out y hy
  | R r u =>
    have P := apart_R h.ok.nod h.zero
    have hd : (A 0).d1 = topC c u := by
      have := h.ok.head
      rw [this]
      exact root_plug (.R r u :: c) (.node a x b)
    obtain ⟨q1, q2, q3, q4⟩ := lift_repR h.ok.rep P hW (fun e => by rw [hd, e]; rfl)
    have hfl := (flat_lift c a b r x u).2
    refine ⟨.node r u a, b, ⟨⟨h.ok.n0, ?_, q1, by rw [hfl]; exact h.ok.nod, fun y => by rw [hfl]; exact h.ok.lab y, fun y => by rw [q4]; exact h.ok.long y, fun y hy => ?_⟩, by rw [hfl]; exact h.flat, fun j => by rw [q4]; exact h.long j⟩⟩
    · rw [q2, root_plug]
      by_cases hc : c = []
      · rw [if_pos hc, hc, h.ok.head]; rfl
      · rw [if_neg hc, h.ok.head, root_plug]
        show (⟨0, 0, topC c u, 0, 0⟩ : Th) = ⟨0, 0, topC c x, 0, 0⟩
        rw [topC_any hc u x]
    · have hy' : y ∉ (plug (.R r u :: c) (.node a x b)).flat := fun h9 => by have := (h.ok.lab y).1 h9; omega
      rw [flat_plug] at hy'
      have hn0 := h.ok.n0
      rw [q3 y (fun h9 => hy' (by rcases List.mem_append.1 h9 with h9 | h9 <;> simp [cl, cr, h9])) (fun e => hy' (by rw [e]; simp [Tr.flat])) (fun e => hy' (by rw [e]; simp [cl, cr])) (fun h9 => hy' (by simp [Tr.flat, h9])) (by omega)]
      exact h.ok.out y hy
end Go.Proofs.Ytdonhdmealhgiab
