/- The document's tree of units (quireref9), mathematics alone: what is so of it. -/
import Derived.Test.YtdnhoicfolkbnaaGreatPart29
import Derived.Test.YtdnhoicfolkbnaaGreatPart28
namespace Go.Proofs.YtdnhoicfolkbnaaGreat
set_option linter.unusedVariables false
set_option linter.unusedSimpArgs false

theorem RS.deep_nil (r : RS) : ∀ f, r.Deep f []
  | 0 => rfl
  | f + 1 => fun x hx => (List.not_mem_nil hx).elim
theorem More.deep {r s : RS} {me : Nat} (h : More r s me) (hs : s.l.length = r.l.length + 1) : ∀ (f : Nat) (l : List Nat), r.Deep f (offL me l) → s.Deep (f + 1) l
  | 0, l, hd => fun x hx => by
    have hd' : offL me l = [] := hd
    have hx' : x = me := by
      have := (List.filter_eq_nil_iff.1 hd') x hx
      simpa using this
    subst hx'
    rw [h.none.1, h.none.2]
    have := h.num
    exact ⟨by omega, rfl, rfl⟩
  | f + 1, l, hd => fun x hx => by
    by_cases hxm : x = me
    · subst hxm
      rw [h.none.1, h.none.2]
      have := h.num
      exact ⟨by omega, RS.deep_nil s _, RS.deep_nil s _⟩
    · obtain ⟨h0, h1, h2⟩ := hd x (List.mem_filter.2 ⟨hx, by simpa using hxm⟩)
      exact ⟨by omega, More.deep h hs f _ (by rw [h.lefts x h0]; exact h1), More.deep h hs f _ (by rw [h.more x h0]; exact h2)⟩
/-- What is so of a tree. -/
structure RInv (r : RS) : Prop where
  deep : r.Deep r.l.length r.more
  ord : r.order = r.walk r.l.length r.more
  one : ∀ x, x < r.l.length → r.order.count x = 1
  len : r.order.length = r.l.length
  lt : ∀ x ∈ r.order, x < r.l.length
  kids : ∀ x, x < r.l.length → (∀ y ∈ (r.nd x).lefts, y < r.l.length) ∧ ∀ y ∈ (r.nd x).more, y < r.l.length
  root : ∀ y ∈ r.more, y < r.l.length
  up : ∀ x, x < r.l.length → -1 ≤ (r.nd x).par ∧ (r.nd x).par < (x : Int)
theorem RInv.zero : RInv .zero := ⟨rfl, rfl, fun x h => absurd h (Nat.not_lt_zero _), rfl, fun x h => (List.not_mem_nil h).elim, fun x h => absurd h (Nat.not_lt_zero _), fun x h => (List.not_mem_nil h).elim, fun x h => absurd h (Nat.not_lt_zero _)⟩
theorem off_mem {me n : Nat} (hn : me = n) {l k : List Nat} (h : offL me l = k) (hk : ∀ y ∈ k, y < n) : ∀ y ∈ l, y < n + 1 := fun y hy => by
  by_cases hm : y = me
  · omega
  · have : y ∈ offL me l := List.mem_filter.2 ⟨hy, by simpa using hm⟩
    rw [h] at this
    have := hk y this
    omega
theorem off_len (me : Nat) : ∀ l : List Nat, l.length = (offL me l).length + l.count me
  | [] => rfl
  | x :: l => by
    have ih := off_len me l
    by_cases h : x = me
    · subst h
      have e : offL x (x :: l) = offL x l := by simp
      rw [e, List.length_cons, List.count_cons_self]; omega
    · have e : offL me (x :: l) = x :: offL me l := by simp [h]
      rw [e, List.length_cons, List.length_cons, List.count_cons_of_ne h]; omega
theorem off_count (me x : Nat) (h : x ≠ me) (l : List Nat) : (offL me l).count x = l.count x := by
  unfold offL
  exact List.count_filter (by simpa using h)
/-- One more node, that stands once among the children: the order is as it was, with it. -/
theorem RInv.laid {r s : RS} {me : Nat} (hI : RInv r) (h : More r s me) (hs : s.l.length = r.l.length + 1) (hm : offL me s.more = r.more) (ho : s.order = s.walk s.l.length s.more) (hc : s.more.count me + (r.order.map (cntC s me)).sum = 1) (hu : ∀ x, x < s.l.length → -1 ≤ (s.nd x).par ∧ (s.nd x).par < (x : Int)) : RInv s ∧ offL me s.order = r.order := by
  have hw := h.walk r.l.length s.more (by rw [hm]; exact hI.deep)
  have hk := h.count r.l.length s.more (by rw [hm]; exact hI.deep)
  rw [hm, ← hI.ord] at hw hk
  rw [hs] at ho
  rw [← ho] at hw hk
  rw [hc] at hk
  have hl := off_len me s.order
  rw [hw, hk, hI.len] at hl
  have hn := h.num
  refine ⟨⟨?_, ?_, ?_, ?_, ?_, ?_, ?_, hu⟩, hw⟩
  · rw [hs]; exact h.deep hs _ _ (by rw [hm]; exact hI.deep)
  · rw [hs]; exact ho
  · intro x hx
    by_cases hxm : x = me
    · rw [hxm]; exact hk
    · rw [← off_count me x hxm, hw]; exact hI.one x (by omega)
  · rw [hl, hs]
  · intro x hx
    by_cases hxm : x = me
    · omega
    · have : x ∈ offL me s.order := List.mem_filter.2 ⟨hx, by simpa using hxm⟩
      rw [hw] at this
      have := hI.lt x this
      omega
  · intro x hx
    rw [hs] at hx ⊢
    by_cases hxm : x = me
    · subst hxm
      rw [h.none.1, h.none.2]
      exact ⟨fun y hy => (List.not_mem_nil hy).elim, fun y hy => (List.not_mem_nil hy).elim⟩
    · have hx' : x < r.l.length := by omega
      exact ⟨off_mem hn (h.lefts x hx') (hI.kids x hx').1, off_mem hn (h.more x hx') (hI.kids x hx').2⟩
  · rw [hs]
    exact off_mem hn hm hI.root
/-- A sum of which one part alone counts. -/
theorem sum_one (g : Nat → Nat) (p : Nat) : ∀ l : List Nat, (∀ x ∈ l, x ≠ p → g x = 0) → (l.map g).sum = g p * l.count p
  | [], _ => by simp
  | x :: l, h => by
    have ih := sum_one g p l fun y hy => h y (List.mem_cons_of_mem _ hy)
    rw [List.map_cons, List.sum_cons, ih]
    by_cases hx : x = p
    · subst hx
      rw [List.count_cons_self, Nat.mul_add, Nat.mul_one]; omega
    · rw [h x (by simp) hx, List.count_cons_of_ne hx]; omega
theorem within_off (l : List Nat) (i me : Nat) (h : ∀ x ∈ l, x ≠ me) : offL me (withinL l i me) = l := by
  unfold withinL
  have e : ∀ k : List Nat, (∀ x ∈ k, x ≠ me) → offL me k = k := fun k hk => List.filter_eq_self.2 fun x hx => by simpa using hk x hx
  show List.filter _ _ = _
  rw [List.filter_append, List.filter_cons]
  have e1 := e (l.take i) fun x hx => h x (List.mem_of_mem_take hx)
  have e2 := e (l.drop i) fun x hx => h x (List.mem_of_mem_drop hx)
  simp only [bne_self_eq_false, Bool.false_eq_true, if_false]
  have e3 : offL me (l.take i) ++ offL me (l.drop i) = l := by rw [e1, e2, List.take_append_drop]
  exact e3
theorem within_count (l : List Nat) (i me : Nat) (h : ∀ x ∈ l, x ≠ me) : (withinL l i me).count me = 1 := by
  have e : ∀ k : List Nat, (∀ x ∈ k, x ≠ me) → k.count me = 0 := fun k hk => List.count_eq_zero.2 fun hx => hk me hx rfl
  unfold withinL
  rw [List.count_append, List.count_cons_self, e (l.take i) fun x hx => h x (List.mem_of_mem_take hx), e (l.drop i) fun x hx => h x (List.mem_of_mem_drop hx)]
end Go.Proofs.YtdnhoicfolkbnaaGreat

/- The document's tree of units (quireref9), mathematics alone: Insert keeps what is so of it. -/
namespace Go.Proofs.YtdnhoicfolkbnaaGreat
set_option linter.unusedVariables false
set_option linter.unusedSimpArgs false

theorem nd_snoc (l : List Nd) (n : Nd) (m o : List Nat) (x : Nat) : (RS.mk (l ++ [n]) m o).nd x = if x = l.length then n else (RS.mk l m o).nd x := by
  unfold RS.nd
  show ((l ++ [n])[x]?).getD .zero = if x = l.length then n else (l[x]?).getD .zero
  by_cases h : x = l.length
  · rw [if_pos h, h]; simp
  · rw [if_neg h]
    rcases Nat.lt_or_ge x l.length with h1 | h1
    · rw [List.getElem?_append_left h1]
    · rw [List.getElem?_eq_none (by simp; omega), List.getElem?_eq_none h1]
theorem nd_modify (l : List Nd) (i : Nat) (f : Nd → Nd) (m o : List Nat) (x : Nat) (hi : i < l.length) : (RS.mk (l.modify i f) m o).nd x = if x = i then f ((RS.mk l m o).nd x) else (RS.mk l m o).nd x := by
  unfold RS.nd
  show ((l.modify i f)[x]?).getD .zero = if x = i then f ((l[x]?).getD .zero) else (l[x]?).getD .zero
  rw [List.getElem?_modify]
  by_cases h : x = i
  · subst h
    rw [if_pos rfl, List.getElem?_eq_getElem hi]; simp
  · rw [if_neg h]
    have h' : ¬ i = x := fun e => h e.symm
    cases l[x]? <;> simp [h']
theorem modify_same : ∀ (l : List Nd) (i : Nat) (f g : Nd → Nd), (∀ n, l[i]? = some n → f n = g n) → l.modify i f = l.modify i g
  | [], i, f, g, h => by cases i <;> rfl
  | x :: l, 0, f, g, h => by simp [h x rfl]
  | x :: l, i + 1, f, g, h => by
    rw [List.modify_succ_cons, List.modify_succ_cons, modify_same l i f g fun n hn => h n (by simpa using hn)]
theorem with1_nd (r : RS) (u : Un) (x : Nat) : (r.with1 u).nd x = if x = r.l.length then r.node u else r.nd x := nd_snoc r.l (r.node u) r.more r.order x
/-- One list of a node's children with one more. -/
theorem RInv.put {r : RS} (hI : RInv r) (u : Un) (p : Nat) (hp : p < r.l.length) (lf mr : List Nat) (hor : (offL r.l.length lf = (r.nd p).lefts ∧ lf.count r.l.length = 1 ∧ mr = (r.nd p).more) ∨ (offL r.l.length mr = (r.nd p).more ∧ mr.count r.l.length = 1 ∧ lf = (r.nd p).lefts))
    (hpar : -1 ≤ (r.node u).par ∧ (r.node u).par < (r.l.length : Int)) (s : RS) (hs : s.l = (r.with1 u).l.modify p fun n => ⟨n.u, n.par, n.left, lf, mr⟩) (hm : s.more = r.more) (ho : s.order = s.walk s.l.length s.more) : RInv s ∧ offL r.l.length s.order = r.order := by
  have hlen : s.l.length = r.l.length + 1 := by rw [hs, List.length_modify]; simp [RS.with1]
  have hnd : ∀ x, s.nd x = if x = p then ⟨(r.nd p).u, (r.nd p).par, (r.nd p).left, lf, mr⟩ else if x = r.l.length then r.node u else r.nd x := fun x => by
    have e1 : s.nd x = (RS.mk ((r.with1 u).l.modify p fun n => ⟨n.u, n.par, n.left, lf, mr⟩) r.more r.order).nd x := by unfold RS.nd; rw [hs]
    rw [e1, nd_modify _ _ _ _ _ _ (by simp [RS.with1]; omega)]
    by_cases h : x = p
    · subst h
      rw [if_pos rfl, if_pos rfl]
      have e2 : (RS.mk (r.with1 u).l r.more r.order).nd x = r.nd x := by
        have := with1_nd r u x
        rw [if_neg (by omega)] at this
        exact this
      rw [e2]
    · rw [if_neg h, if_neg h]
      exact with1_nd r u x
  have self : ∀ k : List Nat, (∀ y ∈ k, y < r.l.length) → offL r.l.length k = k ∧ k.count r.l.length = 0 := fun k hk =>
    ⟨List.filter_eq_self.2 fun y hy => by have := hk y hy; simp; omega, List.count_eq_zero.2 fun h => absurd (hk _ h) (by omega)⟩
  have hne : r.l.length ≠ p := by omega
  have kp := hI.kids p hp
  have hmore : More r s r.l.length := by
    refine ⟨rfl, ?_, fun x hx => ?_, fun x hx => ?_⟩
    · rw [hnd, if_neg hne, if_pos rfl]; exact ⟨rfl, rfl⟩
    · rw [hnd]
      by_cases h : x = p
      · subst h
        rw [if_pos rfl]
        rcases hor with h | h
        · exact h.1
        · show offL _ lf = _
          rw [h.2.2]; exact (self _ kp.1).1
      · rw [if_neg h, if_neg (by omega)]; exact (self _ (hI.kids x hx).1).1
    · rw [hnd]
      by_cases h : x = p
      · subst h
        rw [if_pos rfl]
        rcases hor with h | h
        · show offL _ mr = _
          rw [h.2.2]; exact (self _ kp.2).1
        · exact h.1
      · rw [if_neg h, if_neg (by omega)]; exact (self _ (hI.kids x hx).2).1
  have hcp : cntC s r.l.length p = 1 := by
    unfold cntC
    rw [hnd, if_pos rfl]
    show lf.count _ + mr.count _ = 1
    rcases hor with h | h
    · rw [h.2.1, h.2.2, (self _ kp.2).2]
    · rw [h.2.1, h.2.2, (self _ kp.1).2]
  have hc0 : ∀ x ∈ r.order, x ≠ p → cntC s r.l.length x = 0 := fun x hx h => by
    have hx' := hI.lt x hx
    unfold cntC
    rw [hnd, if_neg h, if_neg (by omega), (self _ (hI.kids x hx').1).2, (self _ (hI.kids x hx').2).2]
  refine hI.laid hmore hlen (by rw [hm]; exact (self _ hI.root).1) ho ?_ ?_
  · rw [hm, (self _ hI.root).2, sum_one _ p r.order hc0, hcp, hI.one p hp]
  · intro x hx
    rw [hnd]
    by_cases h : x = p
    · subst h; rw [if_pos rfl]; exact hI.up x hp
    · rw [if_neg h]
      by_cases h2 : x = r.l.length
      · subst h2; rw [if_pos rfl]; exact hpar
      · rw [if_neg h2]; exact hI.up x (by omega)
/-- The root's right children with one more. -/
theorem RInv.putRoot {r : RS} (hI : RInv r) (u : Un) (mr : List Nat) (h1 : offL r.l.length mr = r.more) (h2 : mr.count r.l.length = 1)
    (hpar : -1 ≤ (r.node u).par ∧ (r.node u).par < (r.l.length : Int)) (s : RS) (hs : s.l = (r.with1 u).l) (hm : s.more = mr) (ho : s.order = s.walk s.l.length s.more) : RInv s ∧ offL r.l.length s.order = r.order := by
  have hlen : s.l.length = r.l.length + 1 := by rw [hs]; simp [RS.with1]
  have hnd : ∀ x, s.nd x = if x = r.l.length then r.node u else r.nd x := fun x => by
    have e1 : s.nd x = (r.with1 u).nd x := by unfold RS.nd; rw [hs]
    rw [e1]; exact with1_nd r u x
  have self : ∀ k : List Nat, (∀ y ∈ k, y < r.l.length) → offL r.l.length k = k ∧ k.count r.l.length = 0 := fun k hk =>
    ⟨List.filter_eq_self.2 fun y hy => by have := hk y hy; simp; omega, List.count_eq_zero.2 fun h => absurd (hk _ h) (by omega)⟩
  have hmore : More r s r.l.length := by
    refine ⟨rfl, ?_, fun x hx => ?_, fun x hx => ?_⟩
    · rw [hnd, if_pos rfl]; exact ⟨rfl, rfl⟩
    · rw [hnd, if_neg (by omega)]; exact (self _ (hI.kids x hx).1).1
    · rw [hnd, if_neg (by omega)]; exact (self _ (hI.kids x hx).2).1
  have hc0 : ∀ x ∈ r.order, x ≠ r.l.length → cntC s r.l.length x = 0 := fun x hx h => by
    have hx' := hI.lt x hx
    unfold cntC
    rw [hnd, if_neg h, (self _ (hI.kids x hx').1).2, (self _ (hI.kids x hx').2).2]
  refine hI.laid hmore hlen (by rw [hm]; exact h1) ho ?_ ?_
  · rw [hm, h2, sum_one _ r.l.length r.order hc0, (self _ hI.lt).2, Nat.mul_zero]
  · intro x hx
    rw [hnd]
    by_cases h : x = r.l.length
    · subst h; rw [if_pos rfl]; exact hpar
    · rw [if_neg h]; exact hI.up x (by omega)
/-- Insert keeps what is so; the order is as it was, with the new one. -/
theorem RInv.laidI {r : RS} (hI : RInv r) (u : Un) : RInv (r.laid u) ∧ offL r.l.length (r.laid u).order = r.order := by
  have hl := RS.find_lt (r := r) u.lc u.lk
  have hr := RS.find_lt (r := r) u.rc u.rk
  have hpar : -1 ≤ (r.node u).par ∧ (r.node u).par < (r.l.length : Int) := by
    unfold RS.node
    show -1 ≤ (if r.isL u then _ else _) ∧ (if r.isL u then _ else _) < _
    split
    · exact hr
    · exact hl
  have ne : ∀ k : List Nat, (∀ y ∈ k, y < r.l.length) → ∀ y ∈ k, y ≠ r.l.length := fun k hk y hy h => absurd (hk y hy) (by omega)
  have hww : (r.laid u).l = (r.with2 u).l ∧ (r.laid u).more = (r.with2 u).more ∧ (r.laid u).order = (r.laid u).walk (r.laid u).l.length (r.laid u).more := ⟨rfl, rfl, by
    have e : ∀ (a b : RS), a.l = b.l → ∀ f k, a.walk f k = b.walk f k := by
      intro a b hab f
      have hn : ∀ x, a.nd x = b.nd x := fun x => by unfold RS.nd; rw [hab]
      induction f with
      | zero => intro k; rfl
      | succ f ih => intro k; simp only [RS.walk, ih, hn]
    exact e (r.with2 u) (r.laid u) rfl _ _⟩
  by_cases hL : r.isL u = true
  · have h0 : 0 ≤ r.find u.rc u.rk := by
      unfold RS.isL at hL
      simp only [Bool.and_eq_true, decide_eq_true_eq] at hL
      exact hL.1
    have hp : (r.find u.rc u.rk).toNat < r.l.length := by omega
    have hk := hI.kids _ hp
    have e1 : (r.with1 u).nd (r.find u.rc u.rk).toNat = r.nd (r.find u.rc u.rk).toNat := by rw [with1_nd, if_neg (by omega)]
    have e2 : (r.with2 u).l = (r.with1 u).l.modify (r.find u.rc u.rk).toNat fun n => ⟨n.u, n.par, n.left, withinL n.lefts ((r.with1 u).leftsL n.lefts u.c u.k) r.l.length, n.more⟩ := by unfold RS.with2; simp only [hL, if_true]
    have e3 : (r.with2 u).more = r.more := by unfold RS.with2; simp only [hL, if_true]; rfl
    refine hI.put u _ hp (withinL (r.nd (r.find u.rc u.rk).toNat).lefts ((r.with1 u).leftsL (r.nd (r.find u.rc u.rk).toNat).lefts u.c u.k) r.l.length) (r.nd (r.find u.rc u.rk).toNat).more (.inl ⟨within_off _ _ _ (ne _ hk.1), within_count _ _ _ (ne _ hk.1), rfl⟩) hpar _ ?_ (by rw [hww.2.1, e3]) hww.2.2
    rw [hww.1, e2]
    refine modify_same _ _ _ _ fun n hn => ?_
    have : n = r.nd (r.find u.rc u.rk).toNat := by
      rw [← e1]; unfold RS.nd; rw [hn]; rfl
    rw [this]
  · by_cases h0 : 0 ≤ r.find u.lc u.lk
    · have hp : (r.find u.lc u.lk).toNat < r.l.length := by omega
      have hk := hI.kids _ hp
      have e1 : (r.with1 u).nd (r.find u.lc u.lk).toNat = r.nd (r.find u.lc u.lk).toNat := by rw [with1_nd, if_neg (by omega)]
      have e2 : (r.with2 u).l = (r.with1 u).l.modify (r.find u.lc u.lk).toNat fun n => ⟨n.u, n.par, n.left, n.lefts, (r.with1 u).amongL n.more r.l.length⟩ := by unfold RS.with2; simp only [hL, h0, if_true, Bool.false_eq_true, if_false]
      have e3 : (r.with2 u).more = r.more := by unfold RS.with2; simp only [hL, h0, if_true, Bool.false_eq_true, if_false]; rfl
      refine hI.put u _ hp (r.nd (r.find u.lc u.lk).toNat).lefts ((r.with1 u).amongL (r.nd (r.find u.lc u.lk).toNat).more r.l.length) (.inr ⟨within_off _ _ _ (ne _ hk.2), within_count _ _ _ (ne _ hk.2), rfl⟩) hpar _ ?_ (by rw [hww.2.1, e3]) hww.2.2
      rw [hww.1, e2]
      refine modify_same _ _ _ _ fun n hn => ?_
      have : n = r.nd (r.find u.lc u.lk).toNat := by
        rw [← e1]; unfold RS.nd; rw [hn]; rfl
      rw [this]
    · have e2 : (r.with2 u).l = (r.with1 u).l := by unfold RS.with2; simp only [hL, h0, if_true, Bool.false_eq_true, if_false]
      have e3 : (r.with2 u).more = (r.with1 u).amongL r.more r.l.length := by unfold RS.with2; simp only [hL, h0, if_true, Bool.false_eq_true, if_false]; rfl
      exact hI.putRoot u _ (within_off _ _ _ (ne _ hI.root)) (within_count _ _ _ (ne _ hI.root)) hpar _ (by rw [hww.1, e2]) (by rw [hww.2.1, e3]; rfl) hww.2.2
theorem RInv.insert {r : RS} (hI : RInv r) (u : Un) : RInv (r.insert u) := by
  unfold RS.insert
  split
  · exact (hI.laidI u).1
  · exact hI
theorem RS.insert_len (r : RS) (u : Un) : (r.insert u).l.length ≤ r.l.length + 1 := by
  unfold RS.insert
  split
  · show (r.with2 u).l.length ≤ _
    unfold RS.with2
    simp only
    split
    · rw [List.length_modify]; simp [RS.with1]
    · split
      · rw [List.length_modify]; simp [RS.with1]
      · simp [RS.with1]
  · omega
end Go.Proofs.YtdnhoicfolkbnaaGreat
