/- The document's tree of units (quireref9), mathematics alone: what is so of it. -/
import Derived.Test.YtcolbgbmnmkogabRqI
namespace Go.Proofs.Ytcolbgbmnmkogab
set_option linter.unusedVariables false
set_option linter.unusedSimpArgs false

theorem RS.deep_nil (r : RS) : ∀ f, r.Deep f []
  | 0 => rfl
  | f + 1 => fun x hx => (List.not_mem_nil hx).elim
theorem More.deep {r s : RS} {me : Nat} (h : More r s me) (hs : s.l.length = r.l.length + 1) : ∀ (f : Nat) (l : List Nat), r.Deep f (offL me l) → s.Deep (f + 1) l
  | 0, l, hd => fun x hx => by
    have hd' : offL me l = [] := hd
    have hx' : x = me := by
      have := (List.filter_eq_nil_iff.1 hd') x hx
      simpa using this
    subst hx'
    rw [h.none.1, h.none.2]
    have := h.num
    exact ⟨by omega, rfl, rfl⟩
  | f + 1, l, hd => fun x hx => by
    by_cases hxm : x = me
    · subst hxm
      rw [h.none.1, h.none.2]
      have := h.num
      exact ⟨by omega, RS.deep_nil s _, RS.deep_nil s _⟩
    · obtain ⟨h0, h1, h2⟩ := hd x (List.mem_filter.2 ⟨hx, by simpa using hxm⟩)
      exact ⟨by omega, More.deep h hs f _ (by rw [h.lefts x h0]; exact h1), More.deep h hs f _ (by rw [h.more x h0]; exact h2)⟩
/-- What is so of a tree. -/
structure RInv (r : RS) : Prop where
  deep : r.Deep r.l.length r.more
  ord : r.order = r.walk r.l.length r.more
  one : ∀ x, x < r.l.length → r.order.count x = 1
  len : r.order.length = r.l.length
  lt : ∀ x ∈ r.order, x < r.l.length
  kids : ∀ x, x < r.l.length → (∀ y ∈ (r.nd x).lefts, y < r.l.length) ∧ ∀ y ∈ (r.nd x).more, y < r.l.length
  root : ∀ y ∈ r.more, y < r.l.length
  up : ∀ x, x < r.l.length → -1 ≤ (r.nd x).par ∧ (r.nd x).par < (x : Int)
theorem RInv.zero : RInv .zero := ⟨rfl, rfl, fun x h => absurd h (Nat.not_lt_zero _), rfl, fun x h => (List.not_mem_nil h).elim, fun x h => absurd h (Nat.not_lt_zero _), fun x h => (List.not_mem_nil h).elim, fun x h => absurd h (Nat.not_lt_zero _)⟩
theorem off_mem {me n : Nat} (hn : me = n) {l k : List Nat} (h : offL me l = k) (hk : ∀ y ∈ k, y < n) : ∀ y ∈ l, y < n + 1 := fun y hy => by
  by_cases hm : y = me
  · omega
  · have : y ∈ offL me l := List.mem_filter.2 ⟨hy, by simpa using hm⟩
    rw [h] at this
    have := hk y this
    omega
theorem off_len (me : Nat) : ∀ l : List Nat, l.length = (offL me l).length + l.count me
  | [] => rfl
  | x :: l => by
    have ih := off_len me l
    by_cases h : x = me
    · subst h
      have e : offL x (x :: l) = offL x l := by simp
      rw [e, List.length_cons, List.count_cons_self]; omega
    · have e : offL me (x :: l) = x :: offL me l := by simp [h]
      rw [e, List.length_cons, List.length_cons, List.count_cons_of_ne h]; omega
theorem off_count (me x : Nat) (h : x ≠ me) (l : List Nat) : (offL me l).count x = l.count x := by
  unfold offL
  exact List.count_filter (by simpa using h)
/-- One more node, that stands once among the children: the order is as it was, with it. -/
theorem RInv.laid {r s : RS} {me : Nat} (hI : RInv r) (h : More r s me) (hs : s.l.length = r.l.length + 1) (hm : offL me s.more = r.more) (ho : s.order = s.walk s.l.length s.more) (hc : s.more.count me + (r.order.map (cntC s me)).sum = 1) (hu : ∀ x, x < s.l.length → -1 ≤ (s.nd x).par ∧ (s.nd x).par < (x : Int)) : RInv s ∧ offL me s.order = r.order := by
  have hw := h.walk r.l.length s.more (by rw [hm]; exact hI.deep)
  have hk := h.count r.l.length s.more (by rw [hm]; exact hI.deep)
  rw [hm, ← hI.ord] at hw hk
  rw [hs] at ho
  rw [← ho] at hw hk
  rw [hc] at hk
  have hl := off_len me s.order
  rw [hw, hk, hI.len] at hl
  have hn := h.num
  refine ⟨⟨?_, ?_, ?_, ?_, ?_, ?_, ?_, hu⟩, hw⟩
  · rw [hs]; exact h.deep hs _ _ (by rw [hm]; exact hI.deep)
  · rw [hs]; exact ho
  · intro x hx
    by_cases hxm : x = me
    · rw [hxm]; exact hk
    · rw [← off_count me x hxm, hw]; exact hI.one x (by omega)
  · rw [hl, hs]
  · intro x hx
    by_cases hxm : x = me
    · omega
    · have : x ∈ offL me s.order := List.mem_filter.2 ⟨hx, by simpa using hxm⟩
      rw [hw] at this
      have := hI.lt x this
      omega
  · intro x hx
    rw [hs] at hx ⊢
    by_cases hxm : x = me
    · subst hxm
      rw [h.none.1, h.none.2]
      exact ⟨fun y hy => (List.not_mem_nil hy).elim, fun y hy => (List.not_mem_nil hy).elim⟩
    · have hx' : x < r.l.length := by omega
      exact ⟨off_mem hn (h.lefts x hx') (hI.kids x hx').1, off_mem hn (h.more x hx') (hI.kids x hx').2⟩
  · rw [hs]
    exact off_mem hn hm hI.root
/-- A sum of which one part alone counts. -/
theorem sum_one (g : Nat → Nat) (p : Nat) : ∀ l : List Nat, (∀ x ∈ l, x ≠ p → g x = 0) → (l.map g).sum = g p * l.count p
  | [], _ => by simp
  | x :: l, h => by
    have ih := sum_one g p l fun y hy => h y (List.mem_cons_of_mem _ hy)
    rw [List.map_cons, List.sum_cons, ih]
    by_cases hx : x = p
    · subst hx
      rw [List.count_cons_self, Nat.mul_add, Nat.mul_one]; omega
    · rw [h x (by simp) hx, List.count_cons_of_ne hx]; omega
theorem within_off (l : List Nat) (i me : Nat) (h : ∀ x ∈ l, x ≠ me) : offL me (withinL l i me) = l := by
  unfold withinL
  have e : ∀ k : List Nat, (∀ x ∈ k, x ≠ me) → offL me k = k := fun k hk => List.filter_eq_self.2 fun x hx => by simpa using hk x hx
  show List.filter _ _ = _
  rw [List.filter_append, List.filter_cons]
  have e1 := e (l.take i) fun x hx => h x (List.mem_of_mem_take hx)
  have e2 := e (l.drop i) fun x hx => h x (List.mem_of_mem_drop hx)
  simp only [bne_self_eq_false, Bool.false_eq_true, if_false]
  have e3 : offL me (l.take i) ++ offL me (l.drop i) = l := by rw [e1, e2, List.take_append_drop]
  exact e3
theorem within_count (l : List Nat) (i me : Nat) (h : ∀ x ∈ l, x ≠ me) : (withinL l i me).count me = 1 := by
  have e : ∀ k : List Nat, (∀ x ∈ k, x ≠ me) → k.count me = 0 := fun k hk => List.count_eq_zero.2 fun hx => hk me hx rfl
  unfold withinL
  rw [List.count_append, List.count_cons_self, e (l.take i) fun x hx => h x (List.mem_of_mem_take hx), e (l.drop i) fun x hx => h x (List.mem_of_mem_drop hx)]
end Go.Proofs.Ytcolbgbmnmkogab
