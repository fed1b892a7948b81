/- Trees whose nodes are things of an array (no Go in it): what the array says of them, seen from any node. -/
import Derived.Test.YtcolbgbmnmkogabSeqR2
namespace Go.Proofs.Ytcolbgbmnmkogab
set_option linter.unusedVariables false
set_option linter.unusedSimpArgs false

inductive Tr where
  | nil : Tr
  | node : Tr → Nat → Tr → Tr
def Tr.root : Tr → Nat
  | .nil => 0
  | .node _ i _ => i
def Tr.flat : Tr → List Nat
  | .nil => []
  | .node l i r => l.flat ++ i :: r.flat
def Tr.sum (A : Nat → Th) : Tr → Int
  | .nil => 0
  | .node l i r => l.sum A + (A i).long + r.sum A
/-- The array says the tree, hung on p. -/
def Rep (A : Nat → Th) : Nat → Tr → Prop
  | _, .nil => True
  | p, .node l i r => (A i).up = p ∧ (A i).d0 = l.root ∧ (A i).d1 = r.root ∧ (A i).whole = l.sum A + (A i).long + r.sum A ∧ Rep A i l ∧ Rep A i r
theorem Tr.sum_congr {A B : Nat → Th} : ∀ {t : Tr}, (∀ i ∈ t.flat, (A i).long = (B i).long) → t.sum A = t.sum B
  | .nil, _ => rfl
  | .node l i r, h => by
    have h1 := Tr.sum_congr (A := A) (B := B) (t := l) fun j hj => h j (by simp [Tr.flat, hj])
    have h2 := Tr.sum_congr (A := A) (B := B) (t := r) fun j hj => h j (by simp [Tr.flat, hj])
    have h3 := h i (by simp [Tr.flat])
    simp only [Tr.sum, h1, h2, h3]
theorem Rep.congr {A B : Nat → Th} : ∀ {t : Tr} {p : Nat}, (∀ i ∈ t.flat, A i = B i) → Rep A p t → Rep B p t
  | .nil, _, _, _ => trivial
  | .node l i r, p, h, ⟨h1, h2, h3, h4, h5, h6⟩ => by
    have hl : ∀ j ∈ l.flat, A j = B j := fun j hj => h j (by simp [Tr.flat, hj])
    have hr : ∀ j ∈ r.flat, A j = B j := fun j hj => h j (by simp [Tr.flat, hj])
    have hi := h i (by simp [Tr.flat])
    have s1 := Tr.sum_congr (A := A) (B := B) (t := l) fun j hj => by rw [hl j hj]
    have s2 := Tr.sum_congr (A := A) (B := B) (t := r) fun j hj => by rw [hr j hj]
    refine ⟨by rw [← hi]; exact h1, by rw [← hi]; exact h2, by rw [← hi]; exact h3, by rw [← hi, ← s1, ← s2]; exact h4, Rep.congr hl h5, Rep.congr hr h6⟩
/-- The same with another one above: its root alone tells it. -/
theorem Rep.hung {A B : Nat → Th} {t : Tr} {p q : Nat} (h : Rep A p t) (hn : t.flat.Nodup) (hr : t ≠ .nil → B t.root = { A t.root with up := q }) (ho : ∀ i ∈ t.flat, i ≠ t.root → A i = B i) : Rep B q t := by
  cases t with
  | nil => trivial
  | node l i r =>
    obtain ⟨h1, h2, h3, h4, h5, h6⟩ := h
    have hi : B i = { A i with up := q } := hr (by simp)
    have hnd : l.flat.Nodup ∧ (i :: r.flat).Nodup ∧ ∀ x ∈ l.flat, ∀ y ∈ i :: r.flat, x ≠ y := List.nodup_append.1 hn
    have il : i ∉ l.flat := fun h => hnd.2.2 i h i (List.mem_cons_self ..) rfl
    have ir : i ∉ r.flat := (List.nodup_cons.1 hnd.2.1).1
    have hl : ∀ j ∈ l.flat, A j = B j := fun j hj => ho j (by simp [Tr.flat, hj]) (fun e => by subst e; exact il hj)
    have hrr : ∀ j ∈ r.flat, A j = B j := fun j hj => ho j (by simp [Tr.flat, hj]) (fun e => by subst e; exact ir hj)
    have s1 := Tr.sum_congr (A := A) (B := B) (t := l) fun j hj => by rw [hl j hj]
    have s2 := Tr.sum_congr (A := A) (B := B) (t := r) fun j hj => by rw [hrr j hj]
    refine ⟨by rw [hi], by rw [hi]; exact h2, by rw [hi]; exact h3, by rw [hi, ← s1, ← s2]; exact h4, Rep.congr hl h5, Rep.congr hrr h6⟩
/-- From a node up: a step is the one above, on which side of it we are, and what hangs on the other. -/
inductive Fr where
  | L : Nat → Tr → Fr
  | R : Tr → Nat → Fr
def plug : List Fr → Tr → Tr
  | [], t => t
  | .L i r :: c, t => plug c (.node t i r)
  | .R l i :: c, t => plug c (.node l i t)
def par : List Fr → Nat
  | [] => 0
  | .L i _ :: _ => i
  | .R _ i :: _ => i
/-- What the array says of the way up from a tree whose root is i and whose sum is s. -/
def RepC (A : Nat → Th) : List Fr → Nat → Int → Prop
  | [], _, _ => True
  | .L u r :: c, i, s => (A u).up = par c ∧ (A u).d0 = i ∧ (A u).d1 = r.root ∧ (A u).whole = s + (A u).long + r.sum A ∧ Rep A u r ∧ RepC A c u (s + (A u).long + r.sum A)
  | .R l u :: c, i, s => (A u).up = par c ∧ (A u).d0 = l.root ∧ (A u).d1 = i ∧ (A u).whole = l.sum A + (A u).long + s ∧ Rep A u l ∧ RepC A c u (l.sum A + (A u).long + s)
theorem rep_plug (A : Nat → Th) : ∀ (c : List Fr) (t : Tr), Rep A 0 (plug c t) ↔ RepC A c t.root (t.sum A) ∧ Rep A (par c) t
  | [], t => ⟨fun h => ⟨trivial, h⟩, fun h => h.2⟩
  | .L u r :: c, t => by
    have ih := rep_plug A c (.node t u r)
    show Rep A 0 (plug c (.node t u r)) ↔ _
    rw [ih]
    constructor
    · rintro ⟨h1, h2, h3, h4, h5, h6, h7⟩
      exact ⟨⟨h2, h3, h4, h5, h7, h1⟩, h6⟩
    · rintro ⟨⟨h2, h3, h4, h5, h7, h1⟩, h6⟩
      exact ⟨h1, h2, h3, h4, h5, h6, h7⟩
  | .R l u :: c, t => by
    have ih := rep_plug A c (.node l u t)
    show Rep A 0 (plug c (.node l u t)) ↔ _
    rw [ih]
    constructor
    · rintro ⟨h1, h2, h3, h4, h5, h6, h7⟩
      exact ⟨⟨h2, h3, h4, h5, h6, h1⟩, h7⟩
    · rintro ⟨⟨h2, h3, h4, h5, h6, h1⟩, h7⟩
      exact ⟨h1, h2, h3, h4, h5, h6, h7⟩
/-- The labels of the way up, as they stand: those ahead, those behind. -/
def cl : List Fr → List Nat
  | [] => []
  | .L _ _ :: c => cl c
  | .R l u :: c => cl c ++ (l.flat ++ [u])
def cr : List Fr → List Nat
  | [] => []
  | .L u r :: c => (u :: r.flat) ++ cr c
  | .R _ _ :: c => cr c
theorem flat_plug : ∀ (c : List Fr) (t : Tr), (plug c t).flat = cl c ++ t.flat ++ cr c
  | [], t => by simp [plug, cl, cr]
  | .L u r :: c, t => by
    show (plug c (.node t u r)).flat = _
    rw [flat_plug c]
    simp [Tr.flat, cl, cr]
  | .R l u :: c, t => by
    show (plug c (.node l u t)).flat = _
    rw [flat_plug c]
    simp [Tr.flat, cl, cr]
/-- Every label of a tree is seen from somewhere. -/
theorem focus {i : Nat} : ∀ {t : Tr}, i ∈ t.flat → ∀ c : List Fr, ∃ c' l r, plug c t = plug (c' ++ c) (.node l i r)
  | .nil, h, _ => by cases h
  | .node l j r, h, c => by
    simp only [Tr.flat, List.mem_append, List.mem_cons] at h
    rcases h with h | rfl | h
    · obtain ⟨c', a, b, e⟩ := focus h (.L j r :: c)
      exact ⟨c' ++ [.L j r], a, b, by rw [List.append_assoc]; exact e⟩
    · exact ⟨[], l, r, rfl⟩
    · obtain ⟨c', a, b, e⟩ := focus h (.R l j :: c)
      exact ⟨c' ++ [.R l j], a, b, by rw [List.append_assoc]; exact e⟩
end Go.Proofs.Ytcolbgbmnmkogab
