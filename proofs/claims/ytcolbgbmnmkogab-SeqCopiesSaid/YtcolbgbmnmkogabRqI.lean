/- The document's tree of units (quireref9), mathematics alone: what one more node does to the order. -/
import Derived.Test.YtcolbgbmnmkogabRqM
namespace Go.Proofs.Ytcolbgbmnmkogab
set_option linter.unusedVariables false
set_option linter.unusedSimpArgs false

/-- Children that are there, and so are theirs, to a depth. -/
def RS.Deep (r : RS) : Nat → List Nat → Prop
  | 0, l => l = []
  | f + 1, l => ∀ x ∈ l, x < r.l.length ∧ r.Deep f (r.nd x).lefts ∧ r.Deep f (r.nd x).more
theorem RS.walk_cons (r : RS) (f : Nat) (x : Nat) (l : List Nat) : r.walk (f + 1) (x :: l) = (r.walk f (r.nd x).lefts ++ x :: r.walk f (r.nd x).more) ++ r.walk (f + 1) l := by
  simp only [RS.walk]; rw [List.flatMap_cons]
theorem RS.walk_split (r : RS) (f : Nat) (l : List Nat) (j : Nat) (hj : j < l.length) : r.walk (f + 1) (l.take (j + 1)) = r.walk (f + 1) (l.take j) ++ r.walk f (r.nd l[j]).lefts ++ [l[j]] ++ r.walk f (r.nd l[j]).more := by
  simp only [RS.walk]
  rw [List.take_succ_eq_append_getElem hj, List.flatMap_append]
  simp
theorem RS.walk_all (r : RS) (f : Nat) (l : List Nat) (j : Nat) : r.walk (f + 1) l = r.walk (f + 1) (l.take j) ++ r.walk (f + 1) (l.drop j) := by
  simp only [RS.walk]
  rw [← List.flatMap_append, List.take_append_drop]
theorem RS.walk_nil (r : RS) : ∀ f, r.walk f [] = []
  | 0 => rfl
  | f + 1 => rfl
theorem RS.walk_fuel (r : RS) : ∀ (f : Nat) (l : List Nat), r.Deep f l → r.walk (f + 1) l = r.walk f l
  | 0, l, h => by
    have : l = [] := h
    subst this; rfl
  | f + 1, [], h => rfl
  | f + 1, x :: l, h => by
    obtain ⟨_, h1, h2⟩ := h x (by simp)
    rw [RS.walk_cons, RS.walk_cons, RS.walk_fuel r f _ h1, RS.walk_fuel r f _ h2, RS.walk_fuel r (f + 1) l fun y hy => h y (List.mem_cons_of_mem _ hy)]
theorem RS.deep_up (r : RS) : ∀ (f : Nat) (l : List Nat), r.Deep f l → r.Deep (f + 1) l
  | 0, l, h => by
    have : l = [] := h
    subst this; exact fun x hx => (List.not_mem_nil hx).elim
  | f + 1, l, h => fun x hx => ⟨(h x hx).1, RS.deep_up r f _ (h x hx).2.1, RS.deep_up r f _ (h x hx).2.2⟩
/-- A list without me. -/
abbrev offL (me : Nat) (l : List Nat) : List Nat := l.filter fun x => x != me
/-- s is r with one more node, me, which has no children. -/
structure More (r s : RS) (me : Nat) : Prop where
  num : me = r.l.length
  none : (s.nd me).lefts = [] ∧ (s.nd me).more = []
  lefts : ∀ x, x < r.l.length → offL me (s.nd x).lefts = (r.nd x).lefts
  more : ∀ x, x < r.l.length → offL me (s.nd x).more = (r.nd x).more
theorem More.walk {r s : RS} {me : Nat} (h : More r s me) : ∀ (f : Nat) (l : List Nat), r.Deep f (offL me l) → offL me (s.walk (f + 1) l) = r.walk f (offL me l)
  | f, [], _ => by rw [RS.walk_nil]; show [] = r.walk f []; rw [RS.walk_nil]
  | 0, x :: l, hd => by
    have hd' : offL me (x :: l) = [] := hd
    by_cases hx : x = me
    · subst hx
      have e : offL x (x :: l) = offL x l := by simp
      have ih := More.walk h 0 l (by rw [e] at hd'; exact hd')
      rw [RS.walk_cons, e, ← ih]
      simp [RS.walk]
    · simp [hx] at hd'
  | f + 1, x :: l, hd => by
    by_cases hx : x = me
    · subst hx
      have e : offL x (x :: l) = offL x l := by simp
      have ih := More.walk h (f + 1) l (by rw [e] at hd; exact hd)
      rw [RS.walk_cons, e, ← ih, h.none.1, h.none.2, RS.walk_nil]
      simp
    · have e : offL me (x :: l) = x :: offL me l := by simp [hx]
      rw [e] at hd ⊢
      obtain ⟨h0, h1, h2⟩ := hd x (by simp)
      have ih := More.walk h (f + 1) l fun y hy => hd y (List.mem_cons_of_mem _ hy)
      have a1 := More.walk h f (s.nd x).lefts (by rw [h.lefts x h0]; exact h1)
      have a2 := More.walk h f (s.nd x).more (by rw [h.more x h0]; exact h2)
      rw [h.lefts x h0] at a1
      rw [h.more x h0] at a2
      rw [RS.walk_cons, RS.walk_cons, ← a1, ← a2, ← ih]
      simp [hx]
  termination_by f l => (f, l.length)
/-- How often me stands among a node's children. -/
def cntC (s : RS) (me x : Nat) : Nat := (s.nd x).lefts.count me + (s.nd x).more.count me
theorem More.count {r s : RS} {me : Nat} (h : More r s me) : ∀ (f : Nat) (l : List Nat), r.Deep f (offL me l) → (s.walk (f + 1) l).count me = l.count me + ((r.walk f (offL me l)).map (cntC s me)).sum
  | f, [], _ => by rw [RS.walk_nil]; show _ = 0 + ((r.walk f []).map _).sum; rw [RS.walk_nil]; rfl
  | 0, x :: l, hd => by
    have hd' : offL me (x :: l) = [] := hd
    by_cases hx : x = me
    · subst hx
      have e : offL x (x :: l) = offL x l := by simp
      have ih := More.count h 0 l (by rw [e] at hd'; exact hd')
      rw [RS.walk_cons, e]
      simp only [RS.walk, List.nil_append, List.cons_append, List.count_cons_self]
      simp only [RS.walk, List.nil_append] at ih
      rw [ih]; omega
    · simp [hx] at hd'
  | f + 1, x :: l, hd => by
    by_cases hx : x = me
    · subst hx
      have e : offL x (x :: l) = offL x l := by simp
      have ih := More.count h (f + 1) l (by rw [e] at hd; exact hd)
      rw [RS.walk_cons, e, h.none.1, h.none.2, RS.walk_nil, List.nil_append, List.count_append, ih, List.count_cons_self, List.count_cons_self, List.count_nil]
      omega
    · have e : offL me (x :: l) = x :: offL me l := by simp [hx]
      rw [e] at hd ⊢
      obtain ⟨h0, h1, h2⟩ := hd x (by simp)
      have ih := More.count h (f + 1) l fun y hy => hd y (List.mem_cons_of_mem _ hy)
      have a1 := More.count h f (s.nd x).lefts (by rw [h.lefts x h0]; exact h1)
      have a2 := More.count h f (s.nd x).more (by rw [h.more x h0]; exact h2)
      rw [h.lefts x h0] at a1
      rw [h.more x h0] at a2
      rw [RS.walk_cons, RS.walk_cons, List.count_append, List.count_append, List.count_cons_of_ne hx, List.count_cons_of_ne hx, a1, a2, ih]
      simp only [List.map_append, List.map_cons, List.sum_append, List.sum_cons, cntC]
      omega
  termination_by f l => (f, l.length)
end Go.Proofs.Ytcolbgbmnmkogab
