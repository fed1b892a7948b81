/- Cells of int slices and nodes lie as they lay where only units are touched. -/
import Derived.Test.YtdnhoicfolkbnaaGreatRqN
import Derived.Test.YtdnhoicfolkbnaaGreatPart19
import Derived.Test.YtdnhoicfolkbnaaGreatPart30
namespace Go.Proofs.YtdnhoicfolkbnaaGreat
open Go.RowKit
set_option linter.unusedVariables false
set_option linter.unusedSimpArgs false
set_option maxRecDepth 100000

/-- What is touched are units' blocks alone. -/
def OnlyV (w : World) (S : Nat → Prop) : Prop := ∀ k c ty fr, w.heap[k]? = some (.cells c ty fr) → S k → ty = 59
theorem SlJ.keepV {S : Nat → Prop} {w w' : World} {v : Value} {l : List Int} (h : SlJ w v l) (t : Touch S w w') (hS : OnlyV w S) : SlJ w' v l := by
  obtain ⟨ao, cap, e, h1, h2, h3, h4⟩ := h
  refine ⟨ao, cap, e, h1, h2, h3, ?_⟩
  rcases h4 with h4 | ⟨b, o, e, ⟨c, hT⟩, hx⟩
  · exact .inl h4
  · have hb := t.block b (lt_of_heap hT) fun hs => absurd (hS _ _ _ _ hT hs) (by decide)
    exact .inr ⟨b, o, e, ⟨c, hb.trans hT⟩, fun j u hu => by rw [World.cell?_of_block hb]; exact hx j u hu⟩
theorem RqAt.keepV {S : Nat → Prop} {w w' : World} {b : Nat} {r : RS} (h : RqAt w b r) (t : Touch S w w') (hS : OnlyV w S) : RqAt w' b r := by
  obtain ⟨c, hc⟩ := h.blk
  have hb := t.block b (lt_of_heap hc) fun hs => absurd (hS _ _ _ _ hc hs) (by decide)
  refine ⟨⟨c, hb.trans hc⟩, ?_, ?_, ?_⟩
  · obtain ⟨v, M, h1, h2, h3, h4⟩ := h.l
    refine ⟨v, M, (World.cell?_of_block hb).trans h1, ⟨h2.1, ?_⟩, h3, fun i h h' => ⟨(h4 i h h').u, (h4 i h h').par, (h4 i h h').left, (h4 i h h').lefts.keepV t hS, (h4 i h h').more.keepV t hS⟩⟩
    rcases h2.2 with h | ⟨g, cap, cur, rfl, q, hg, r⟩
    · exact .inl h
    · exact .inr ⟨g, cap, cur, rfl, q, (t.block g (lt_of_heap hg) fun hs => absurd (hS _ _ _ _ hg hs) (by decide)).trans hg, r⟩
  · obtain ⟨v, h1, h2⟩ := h.more
    exact ⟨v, (World.cell?_of_block hb).trans h1, h2.keepV t hS⟩
  · obtain ⟨v, h1, h2⟩ := h.ord
    exact ⟨v, (World.cell?_of_block hb).trans h1, h2.keepV t hS⟩
end Go.Proofs.YtdnhoicfolkbnaaGreat

/- The document's tree of units (quireref9), mathematics alone: a node and what is below it stand together; what one more child does there. -/
namespace Go.Proofs.YtdnhoicfolkbnaaGreat
set_option linter.unusedVariables false
set_option linter.unusedSimpArgs false

theorem RS.mem_root (r : RS) : ∀ (f : Nat) (l : List Nat), r.Deep f l → ∀ y ∈ l, y ∈ r.walk f l
  | 0, l, h, y, hy => by
    have : l = [] := h
    subst this; exact (List.not_mem_nil hy).elim
  | f + 1, [], h, y, hy => (List.not_mem_nil hy).elim
  | f + 1, x :: l, h, y, hy => by
    rw [RS.walk_cons]
    rcases List.mem_cons.1 hy with rfl | hy
    · simp
    · exact List.mem_append_right _ (RS.mem_root r (f + 1) l (fun z hz => h z (List.mem_cons_of_mem _ hz)) y hy)
/-- What is among a node's children stands with it. -/
theorem RS.mem_kids (r : RS) : ∀ (f : Nat) (l : List Nat), r.Deep f l → ∀ z ∈ r.walk f l, ∀ y, y ∈ (r.nd z).lefts ∨ y ∈ (r.nd z).more → y ∈ r.walk f l
  | 0, l, h, z, hz, y, hy => by simp [RS.walk] at hz
  | f + 1, [], h, z, hz, y, hy => by simp [RS.walk] at hz
  | f + 1, x :: l, h, z, hz, y, hy => by
    obtain ⟨_, h1, h2⟩ := h x (by simp)
    rw [RS.walk_cons] at hz ⊢
    simp only [List.mem_append, List.mem_cons] at hz ⊢
    rcases hz with (hz | hz | hz) | hz
    · exact .inl (.inl (RS.mem_kids r f _ h1 z hz y hy))
    · subst hz
      rcases hy with hy | hy
      · exact .inl (.inl (RS.mem_root r f _ h1 y hy))
      · exact .inl (.inr (.inr (RS.mem_root r f _ h2 y hy)))
    · exact .inl (.inr (.inr (RS.mem_kids r f _ h2 z hz y hy)))
    · exact .inr (RS.mem_kids r (f + 1) l (fun q hq => h q (List.mem_cons_of_mem _ hq)) z hz y hy)
  termination_by f l => (f, l.length)
theorem RS.mem_lt (r : RS) : ∀ (f : Nat) (l : List Nat), r.Deep f l → ∀ z ∈ r.walk f l, z < r.l.length
  | 0, l, h, z, hz => by simp [RS.walk] at hz
  | f + 1, [], h, z, hz => by simp [RS.walk] at hz
  | f + 1, x :: l, h, z, hz => by
    obtain ⟨h0, h1, h2⟩ := h x (by simp)
    rw [RS.walk_cons] at hz
    simp only [List.mem_append, List.mem_cons] at hz
    rcases hz with (hz | hz | hz) | hz
    · exact RS.mem_lt r f _ h1 z hz
    · omega
    · exact RS.mem_lt r f _ h2 z hz
    · exact RS.mem_lt r (f + 1) l (fun q hq => h q (List.mem_cons_of_mem _ hq)) z hz
  termination_by f l => (f, l.length)
/-- A node's children are the same in both. -/
def SameK (r s : RS) (x : Nat) : Prop := (s.nd x).lefts = (r.nd x).lefts ∧ (s.nd x).more = (r.nd x).more
theorem RS.walk_same (r s : RS) : ∀ (f : Nat) (l : List Nat), (∀ x ∈ r.walk f l, SameK r s x) → s.walk f l = r.walk f l
  | 0, l, h => rfl
  | f + 1, [], h => rfl
  | f + 1, x :: l, h => by
    rw [RS.walk_cons] at h
    have hx := h x (by simp)
    have e1 := RS.walk_same r s f (r.nd x).lefts fun y hy => h y (by simp [hy])
    have e2 := RS.walk_same r s f (r.nd x).more fun y hy => h y (by simp [hy])
    have e3 := RS.walk_same r s (f + 1) l fun y hy => h y (by simp [hy])
    rw [RS.walk_cons, RS.walk_cons, hx.1, hx.2, e1, e2, e3]
  termination_by f l => (f, l.length)
/-- A node with what is below it stands together; where only its own children are others, all around it stays. -/
theorem RS.ctx (r s : RS) (p : Nat) : ∀ (f : Nat) (l : List Nat), r.Deep f l → p ∈ r.walk (f + 1) l → (r.walk (f + 1) l).count p = 1 → (∀ x ∈ r.walk (f + 1) l, x ≠ p → SameK r s x) →
    ∃ g A B, 1 ≤ g ∧ r.Deep g (r.nd p).lefts ∧ r.Deep g (r.nd p).more ∧ r.walk (f + 1) l = A ++ (r.walk g (r.nd p).lefts ++ p :: r.walk g (r.nd p).more) ++ B ∧ s.walk (f + 1) l = A ++ (s.walk g (s.nd p).lefts ++ p :: s.walk g (s.nd p).more) ++ B
  | 0, l, hd, hp, hc, hs => by
    have : l = [] := hd
    subst this; simp [RS.walk] at hp
  | f + 1, [], hd, hp, hc, hs => by simp [RS.walk] at hp
  | f + 1, x :: l, hd, hp, hc, hs => by
    obtain ⟨_, h1, h2⟩ := hd x (by simp)
    have hdl : r.Deep (f + 1) l := fun q hq => hd q (List.mem_cons_of_mem _ hq)
    rw [RS.walk_cons] at hp hc hs ⊢
    rw [RS.walk_cons]
    have no : ∀ {k : List Nat}, k.count p = 0 → ∀ y ∈ k, y ≠ p := fun hk y hy e => by
      subst e
      exact absurd hy (List.count_eq_zero.1 hk)
    by_cases hx : x = p
    · subst hx
      have c := hc
      simp only [List.count_append, List.count_cons_self] at c
      have e3 := RS.walk_same r s (f + 1 + 1) l fun y hy => hs y (by simp [hy]) (no (by omega) y hy)
      exact ⟨f + 1, [], r.walk (f + 1 + 1) l, by omega, RS.deep_up r f _ h1, RS.deep_up r f _ h2, rfl, by rw [e3]; rfl⟩
    · have c := hc
      simp only [List.count_append, List.count_cons_of_ne hx] at c
      have hkx := hs x (by simp) hx
      rw [hkx.1, hkx.2]
      simp only [List.mem_append, List.mem_cons] at hp
      rcases hp with (hp | hp | hp) | hp
      · have hpc := List.count_pos_iff.2 hp
        obtain ⟨g, A, B, g1, d1, d2, ea, eb⟩ := RS.ctx r s p f _ h1 hp (by omega) fun y hy => hs y (by simp [hy])
        have e2 := RS.walk_same r s (f + 1) (r.nd x).more fun y hy => hs y (by simp [hy]) (no (by omega) y hy)
        have e3 := RS.walk_same r s (f + 1 + 1) l fun y hy => hs y (by simp [hy]) (no (by omega) y hy)
        refine ⟨g, A, B ++ x :: r.walk (f + 1) (r.nd x).more ++ r.walk (f + 1 + 1) l, g1, d1, d2, ?_, ?_⟩
        · rw [ea]; simp only [List.append_assoc, List.cons_append]
        · rw [eb, e2, e3]; simp only [List.append_assoc, List.cons_append]
      · exact absurd hp.symm hx
      · have hpc := List.count_pos_iff.2 hp
        obtain ⟨g, A, B, g1, d1, d2, ea, eb⟩ := RS.ctx r s p f _ h2 hp (by omega) fun y hy => hs y (by simp [hy])
        have e1 := RS.walk_same r s (f + 1) (r.nd x).lefts fun y hy => hs y (by simp [hy]) (no (by omega) y hy)
        have e3 := RS.walk_same r s (f + 1 + 1) l fun y hy => hs y (by simp [hy]) (no (by omega) y hy)
        refine ⟨g, r.walk (f + 1) (r.nd x).lefts ++ x :: A, B ++ r.walk (f + 1 + 1) l, g1, d1, d2, ?_, ?_⟩
        · rw [ea]; simp only [List.append_assoc, List.cons_append]
        · rw [eb, e1, e3]; simp only [List.append_assoc, List.cons_append]
      · have hpc := List.count_pos_iff.2 hp
        obtain ⟨g, A, B, g1, d1, d2, ea, eb⟩ := RS.ctx r s p (f + 1) l hdl hp (by omega) fun y hy => hs y (by simp [hy])
        have e1 := RS.walk_same r s (f + 1) (r.nd x).lefts fun y hy => hs y (by simp [hy]) (no (by omega) y hy)
        have e2 := RS.walk_same r s (f + 1) (r.nd x).more fun y hy => hs y (by simp [hy]) (no (by omega) y hy)
        refine ⟨g, (r.walk (f + 1) (r.nd x).lefts ++ x :: r.walk (f + 1) (r.nd x).more) ++ A, B, g1, d1, d2, ?_, ?_⟩
        · rw [ea]; simp only [List.append_assoc, List.cons_append]
        · rw [eb, e1, e2]; simp only [List.append_assoc, List.cons_append]
  termination_by f l => (f, l.length)
end Go.Proofs.YtdnhoicfolkbnaaGreat

/- The document's tree of units (quireref9), mathematics alone: what Insert leaves of nodes, and where they stand behind it. -/
namespace Go.Proofs.YtdnhoicfolkbnaaGreat
set_option linter.unusedVariables false
set_option linter.unusedSimpArgs false

/-- The new node among its parent's children: where, and which they were. -/
structure Laid1 (r s : RS) (u : Un) : Prop where
  len : s.l.length = r.l.length + 1
  me : s.nd r.l.length = r.node u
  old : ∀ x, x < r.l.length → (s.nd x).u = (r.nd x).u ∧ (s.nd x).par = (r.nd x).par
  put : (r.isL u = true ∧ (r.node u).par = r.find u.rc u.rk ∧ s.more = r.more ∧ ∃ p : Nat, r.find u.rc u.rk = (p : Int) ∧ p < r.l.length ∧ (∀ x, x < r.l.length → x ≠ p → SameK r s x) ∧ (s.nd p).more = (r.nd p).more ∧ (s.nd p).lefts = withinL (r.nd p).lefts ((r.with1 u).leftsL (r.nd p).lefts u.c u.k) r.l.length) ∨
    (r.isL u = false ∧ (r.node u).par = r.find u.lc u.lk ∧ ((s.more = r.more ∧ ∃ p : Nat, r.find u.lc u.lk = (p : Int) ∧ p < r.l.length ∧ (∀ x, x < r.l.length → x ≠ p → SameK r s x) ∧ (s.nd p).lefts = (r.nd p).lefts ∧ (s.nd p).more = (r.with1 u).amongL (r.nd p).more r.l.length) ∨
      (r.find u.lc u.lk = -1 ∧ (∀ x, x < r.l.length → SameK r s x) ∧ s.more = (r.with1 u).amongL r.more r.l.length)))
theorem laid_nd (r : RS) (u : Un) (x : Nat) : (r.laid u).nd x = (r.with2 u).nd x := rfl
theorem laid1 (r : RS) (u : Un) : Laid1 r (r.laid u) u := by
  have hfl := RS.find_lt (r := r) u.lc u.lk
  have hfr := RS.find_lt (r := r) u.rc u.rk
  have h1l : (r.with1 u).l.length = r.l.length + 1 := by simp [RS.with1]
  cases hL : r.isL u with
  | true =>
    have h0 : 0 ≤ r.find u.rc u.rk := by
      unfold RS.isL at hL
      simp only [Bool.and_eq_true, decide_eq_true_eq] at hL
      exact hL.1
    obtain ⟨p, hp⟩ := Int.eq_ofNat_of_zero_le h0
    have hpl : p < r.l.length := by omega
    have e2 : r.with2 u = ⟨(r.with1 u).l.modify p fun n => ⟨n.u, n.par, n.left, withinL n.lefts ((r.with1 u).leftsL n.lefts u.c u.k) r.l.length, n.more⟩, r.more, r.order⟩ := by
      unfold RS.with2
      simp only [hL, if_true, hp, Int.toNat_natCast]
      rfl
    have hn : ∀ x, (r.laid u).nd x = if x = p then ⟨((r.with1 u).nd x).u, ((r.with1 u).nd x).par, ((r.with1 u).nd x).left, withinL ((r.with1 u).nd x).lefts ((r.with1 u).leftsL ((r.with1 u).nd x).lefts u.c u.k) r.l.length, ((r.with1 u).nd x).more⟩ else (r.with1 u).nd x := fun x => by
      rw [laid_nd, e2, nd_modify _ _ _ _ _ _ (by omega)]
      rfl
    have ho : ∀ x, x < r.l.length → (r.with1 u).nd x = r.nd x := fun x hx => by rw [with1_nd, if_neg (by omega)]
    refine ⟨?_, ?_, fun x hx => ?_, .inl ⟨hL, ?_, ?_, p, hp, hpl, fun x hx hxp => ?_, ?_, ?_⟩⟩
    · show (r.with2 u).l.length = _
      rw [e2]
      show (List.modify _ _ _).length = _
      rw [List.length_modify, h1l]
    · rw [hn, if_neg (by omega), with1_nd, if_pos rfl]
    · rw [hn]
      by_cases e : x = p
      · rw [if_pos e, ho x hx]; exact ⟨rfl, rfl⟩
      · rw [if_neg e, ho x hx]; exact ⟨rfl, rfl⟩
    · show (if r.isL u then _ else _) = _
      rw [if_pos hL]
    · show (r.with2 u).more = _
      rw [e2]
    · unfold SameK
      rw [hn, if_neg hxp, ho x hx]; exact ⟨rfl, rfl⟩
    · rw [hn, if_pos rfl, ho p hpl]
    · rw [hn, if_pos rfl, ho p hpl]
  | false =>
    have ho : ∀ x, x < r.l.length → (r.with1 u).nd x = r.nd x := fun x hx => by rw [with1_nd, if_neg (by omega)]
    have hpar : (r.node u).par = r.find u.lc u.lk := by
      show (if r.isL u then _ else _) = _
      rw [if_neg (by rw [hL]; simp)]
    by_cases h0 : 0 ≤ r.find u.lc u.lk
    · obtain ⟨p, hp⟩ := Int.eq_ofNat_of_zero_le h0
      have hpl : p < r.l.length := by omega
      have e2 : r.with2 u = ⟨(r.with1 u).l.modify p fun n => ⟨n.u, n.par, n.left, n.lefts, (r.with1 u).amongL n.more r.l.length⟩, r.more, r.order⟩ := by
        unfold RS.with2
        simp only [hL, h0, if_true, Bool.false_eq_true, if_false]
        rw [hp, Int.toNat_natCast]
        rfl
      have hn : ∀ x, (r.laid u).nd x = if x = p then ⟨((r.with1 u).nd x).u, ((r.with1 u).nd x).par, ((r.with1 u).nd x).left, ((r.with1 u).nd x).lefts, (r.with1 u).amongL ((r.with1 u).nd x).more r.l.length⟩ else (r.with1 u).nd x := fun x => by
        rw [laid_nd, e2, nd_modify _ _ _ _ _ _ (by omega)]
        rfl
      refine ⟨?_, ?_, fun x hx => ?_, .inr ⟨hL, hpar, .inl ⟨?_, p, hp, hpl, fun x hx hxp => ?_, ?_, ?_⟩⟩⟩
      · show (r.with2 u).l.length = _
        rw [e2]
        show (List.modify _ _ _).length = _
        rw [List.length_modify, h1l]
      · rw [hn, if_neg (by omega), with1_nd, if_pos rfl]
      · rw [hn]
        by_cases e : x = p
        · rw [if_pos e, ho x hx]; exact ⟨rfl, rfl⟩
        · rw [if_neg e, ho x hx]; exact ⟨rfl, rfl⟩
      · show (r.with2 u).more = _
        rw [e2]
      · unfold SameK
        rw [hn, if_neg hxp, ho x hx]; exact ⟨rfl, rfl⟩
      · rw [hn, if_pos rfl, ho p hpl]
      · rw [hn, if_pos rfl, ho p hpl]
    · have e2 : r.with2 u = ⟨(r.with1 u).l, (r.with1 u).amongL r.more r.l.length, r.order⟩ := by
        unfold RS.with2
        simp only [hL, h0, if_true, Bool.false_eq_true, if_false]
        rfl
      have hn : ∀ x, (r.laid u).nd x = (r.with1 u).nd x := fun x => by
        rw [laid_nd, e2]; rfl
      refine ⟨?_, ?_, fun x hx => ?_, .inr ⟨hL, hpar, .inr ⟨by omega, fun x hx => ?_, ?_⟩⟩⟩
      · show (r.with2 u).l.length = _
        rw [e2]; exact h1l
      · rw [hn, with1_nd, if_pos rfl]
      · rw [hn, ho x hx]; exact ⟨rfl, rfl⟩
      · unfold SameK
        rw [hn, ho x hx]; exact ⟨rfl, rfl⟩
      · show (r.with2 u).more = _
        rw [e2]
/-- The new order is the old one with the new node at a place. -/
theorem RInv.order_at {r : RS} (hI : RInv r) (u : Un) : ∃ A B, r.order = A ++ B ∧ (r.laid u).order = A ++ r.l.length :: B := by
  obtain ⟨h1, h2⟩ := hI.laidI u
  have hl := (laid1 r u).len
  have hc := h1.one r.l.length (by omega)
  have hm : r.l.length ∈ (r.laid u).order := List.count_pos_iff.1 (by omega)
  obtain ⟨A, B, e⟩ := List.append_of_mem hm
  refine ⟨A, B, ?_, e⟩
  rw [e] at hc
  simp only [List.count_append, List.count_cons_self] at hc
  have no : ∀ {k : List Nat}, k.count r.l.length = 0 → offL r.l.length k = k := fun hk => List.filter_eq_self.2 fun y hy => by
    have : y ≠ r.l.length := fun e => by
      subst e
      exact absurd hy (List.count_eq_zero.1 hk)
    simpa using this
  rw [← h2, e]
  show List.filter _ _ = _
  rw [List.filter_append, List.filter_cons]
  simp only [bne_self_eq_false, Bool.false_eq_true, if_false]
  rw [show List.filter (fun x => x != r.l.length) A = A from no (by omega), show List.filter (fun x => x != r.l.length) B = B from no (by omega)]
end Go.Proofs.YtdnhoicfolkbnaaGreat

/- The document's tree of units (quireref9), mathematics alone: places shift, and which right child is farther stays. -/
namespace Go.Proofs.YtdnhoicfolkbnaaGreat
set_option linter.unusedVariables false
set_option linter.unusedSimpArgs false

def RS.us (r : RS) : List Un := r.l.map (·.u)
theorem RS.us_get (r : RS) (x : Nat) (hx : x < r.l.length) : r.us[x]? = some (r.nd x).u := by
  unfold RS.us
  rw [List.getElem?_map, List.getElem?_eq_getElem hx, RS.nd_of hx]; rfl
theorem RS.find_us (r : RS) (c k : Int) : r.find c k = idxI (r.us.findIdx? fun v => v.c == c && v.k == k) := by
  unfold RS.find RS.us
  rw [List.findIdx?_map]
  rfl
theorem us_laid {r s : RS} {u : Un} (h : Laid1 r s u) : s.us = r.us ++ [u] := by
  apply List.ext_getElem?
  intro x
  have hl : s.us.length = r.l.length + 1 := by unfold RS.us; rw [List.length_map, h.len]
  have hr : r.us.length = r.l.length := by unfold RS.us; rw [List.length_map]
  rcases Nat.lt_trichotomy x r.l.length with hx | hx | hx
  · rw [RS.us_get s x (by rw [h.len]; omega), List.getElem?_append_left (by omega), RS.us_get r x hx, (h.old x hx).1]
  · subst hx
    rw [RS.us_get s _ (by rw [h.len]; omega), h.me, List.getElem?_append_right (by omega), hr, Nat.sub_self]
    rfl
  · rw [List.getElem?_eq_none (by omega), List.getElem?_eq_none (by rw [List.length_append, hr]; show r.l.length + 1 ≤ x; omega)]
theorem us_with1 (r : RS) (u : Un) : (r.with1 u).us = r.us ++ [u] := by
  unfold RS.us RS.with1
  rw [List.map_append]; rfl
/-- What is found stays found, at the same number. -/
theorem find_more {r s : RS} {u : Un} (h : s.us = r.us ++ [u]) (c k : Int) (hf : r.find c k ≠ -1) : s.find c k = r.find c k := by
  rw [RS.find_us] at hf ⊢
  rw [RS.find_us, h, List.findIdx?_append]
  cases e : r.us.findIdx? fun v => v.c == c && v.k == k with
  | none => rw [e] at hf; exact absurd rfl hf
  | some i => rfl
/-- A place behind one node more. -/
def shP (q t : Int) : Int := if t < q then t else t + 1
theorem shP_lt {q a b : Int} : shP q a < shP q b ↔ a < b := by unfold shP; split <;> split <;> omega
theorem shP_eq {q a b : Int} : shP q a = shP q b ↔ a = b := by unfold shP; split <;> split <;> omega
theorem place_more {r s : RS} {A B : List Nat} {me : Nat} (hr : r.order = A ++ B) (hs : s.order = A ++ me :: B) (x : Nat) (hx : x ≠ me) (hp : r.place (x : Int) ≠ -1) : s.place (x : Int) = shP A.length (r.place (x : Int)) := by
  unfold RS.place at hp ⊢
  rw [hr, List.findIdx?_append] at hp ⊢
  rw [hs, List.findIdx?_append, List.findIdx?_cons]
  have hme : (Int.ofNat me == (x : Int)) = false := by
    simp only [beq_eq_false_iff_ne, ne_eq]
    intro e
    exact hx (Int.ofNat.inj e).symm
  rw [hme]
  cases ea : A.findIdx? fun y : Nat => Int.ofNat y == (x : Int) with
  | some i =>
    have hi := (List.findIdx?_eq_some_iff_getElem.1 ea).1
    show (i : Int) = shP _ (i : Int)
    unfold shP
    rw [if_pos (by omega)]
  | none =>
    cases eb : B.findIdx? fun y : Nat => Int.ofNat y == (x : Int) with
    | none =>
      rw [ea, eb] at hp
      exact absurd rfl hp
    | some j =>
      show ((j + 1 + A.length : Nat) : Int) = shP _ ((j + A.length : Nat) : Int)
      unfold shP
      rw [if_neg (by omega)]
      omega
/-- Every node stands somewhere. -/
theorem RInv.place_ok {r : RS} (h : RInv r) (x : Nat) (hx : x < r.l.length) : ∃ i, ∃ hi : i < r.order.length, r.order[i] = x ∧ r.place (x : Int) = (i : Int) := by
  have hm : x ∈ r.order := List.count_pos_iff.1 (by rw [h.one x hx]; exact Nat.one_pos)
  unfold RS.place
  cases e : r.order.findIdx? fun y : Nat => Int.ofNat y == (x : Int) with
  | none =>
    rw [List.findIdx?_eq_none_iff] at e
    have := e x hm
    simp at this
  | some i =>
    obtain ⟨hi, h1, _⟩ := List.findIdx?_eq_some_iff_getElem.1 e
    refine ⟨i, hi, ?_, rfl⟩
    simp only [beq_iff_eq] at h1
    exact Int.ofNat.inj h1
/-- A Right that is there, or none. -/
def RgtOk (r : RS) (u : Un) : Prop := (u.rc = 0 ∧ u.rk = 0) ∨ r.find u.rc u.rk ≠ -1
def RS.farU (r : RS) (u : Un) : Int := r.far u.rc u.rk
theorem far_more {r s : RS} {A B : List Nat} {u v : Un} (hI : RInv r) (hr : r.order = A ++ B) (hs : s.order = A ++ r.l.length :: B) (hu : s.us = r.us ++ [u]) (hv : RgtOk r v) : s.farU v = shP A.length (r.farU v) := by
  unfold RS.farU RS.far
  by_cases h0 : v.rc = 0 ∧ v.rk = 0
  · rw [if_pos h0, if_pos h0, hr, hs]
    unfold shP
    rw [if_neg (by rw [List.length_append]; omega)]
    simp only [List.length_append, List.length_cons]
    omega
  · rw [if_neg h0, if_neg h0]
    have hf : r.find v.rc v.rk ≠ -1 := hv.resolve_left h0
    have hlt := RS.find_lt (r := r) v.rc v.rk
    obtain ⟨x, hx⟩ := Int.eq_ofNat_of_zero_le (show 0 ≤ r.find v.rc v.rk by omega)
    unfold RS.findP
    rw [find_more hu _ _ hf, if_neg (by omega), if_neg (by omega), hx]
    obtain ⟨i, hi, _, e⟩ := hI.place_ok x (by omega)
    exact place_more hr hs x (by omega) (by rw [e]; omega)
/-- The order of right children, by their units. -/
def RS.fart (r : RS) (a b : Un) : Bool := if r.farU a ≠ r.farU b then decide (r.farU b < r.farU a) else lessI a.c a.k b.c b.k
theorem RS.farther_eq (r : RS) (x y : Nat) : r.farther x y = r.fart (r.nd x).u (r.nd y).u := rfl
theorem fart_more {r s : RS} {A B : List Nat} {u v w : Un} (hI : RInv r) (hr : r.order = A ++ B) (hs : s.order = A ++ r.l.length :: B) (hu : s.us = r.us ++ [u]) (hv : RgtOk r v) (hw : RgtOk r w) : s.fart v w = r.fart v w := by
  unfold RS.fart
  rw [far_more hI hr hs hu hv, far_more hI hr hs hu hw]
  simp only [ne_eq, shP_eq, shP_lt]
/-- With the node at no place yet it is the same. -/
theorem fart_with1 (r : RS) (u : Un) {v w : Un} (hv : RgtOk r v) (hw : RgtOk r w) : (r.with1 u).fart v w = r.fart v w := by
  have key : ∀ {v : Un}, RgtOk r v → (r.with1 u).farU v = r.farU v := fun {v} hv => by
    unfold RS.farU RS.far
    by_cases h0 : v.rc = 0 ∧ v.rk = 0
    · rw [if_pos h0, if_pos h0]; rfl
    · rw [if_neg h0, if_neg h0]
      unfold RS.findP
      rw [find_more (us_with1 r u) _ _ (hv.resolve_left h0)]
      rfl
  unfold RS.fart
  rw [key hv, key hw]
theorem lessI_iff {a b c d : Int} : lessI a b c d = true ↔ a < c ∨ (a = c ∧ b < d) := by
  unfold lessI
  by_cases h : a = c
  · rw [if_pos h]; simp [h]
  · rw [if_neg h]; simp [h]
theorem RS.fart_iff (r : RS) (a b : Un) : r.fart a b = true ↔ r.farU b < r.farU a ∨ (r.farU a = r.farU b ∧ (a.c < b.c ∨ (a.c = b.c ∧ a.k < b.k))) := by
  unfold RS.fart
  by_cases h : r.farU a = r.farU b
  · rw [if_neg (by simpa using h), lessI_iff]
    constructor
    · exact fun e => .inr ⟨h, e⟩
    · rintro (e | e)
      · omega
      · exact e.2
  · rw [if_pos h, decide_eq_true_iff]
    constructor
    · exact fun e => .inl e
    · rintro (e | e)
      · exact e
      · exact absurd e.1 h
theorem RS.fart_trans (r : RS) {a b c : Un} (h1 : r.fart a b = true) (h2 : r.fart b c = true) : r.fart a c = true := by
  rw [RS.fart_iff] at *
  omega
theorem RS.fart_total (r : RS) {a b : Un} (h : r.fart a b = false) (hne : ¬ (a.c = b.c ∧ a.k = b.k)) : r.fart b a = true := by
  have h' : ¬ (r.fart a b = true) := by rw [h]; simp
  rw [RS.fart_iff] at *
  omega
end Go.Proofs.YtdnhoicfolkbnaaGreat
