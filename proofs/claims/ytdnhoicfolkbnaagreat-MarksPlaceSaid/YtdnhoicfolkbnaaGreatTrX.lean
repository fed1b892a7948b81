/- The document's tree of units (quireref9), mathematics alone: all that is so of a tree that Insert has made. -/
import Derived.Test.YtdnhoicfolkbnaaGreatPart31
namespace Go.Proofs.YtdnhoicfolkbnaaGreat
set_option linter.unusedVariables false
set_option linter.unusedSimpArgs false

theorem mem_within {l : List Nat} {i me y : Nat} : y ∈ withinL l i me ↔ y = me ∨ y ∈ l := by
  unfold withinL
  constructor
  · intro h
    rcases List.mem_append.1 h with h | h
    · exact .inr (List.mem_of_mem_take h)
    · rcases List.mem_cons.1 h with h | h
      · exact .inl h
      · exact .inr (List.mem_of_mem_drop h)
  · rintro (rfl | h)
    · exact List.mem_append_right _ (by simp)
    · rw [← List.take_append_drop i l] at h
      rcases List.mem_append.1 h with h | h
      · exact List.mem_append_left _ h
      · exact List.mem_append_right _ (List.mem_cons_of_mem _ h)
theorem take_len_while {p : Nat → Bool} : ∀ l : List Nat, l.take (l.takeWhile p).length = l.takeWhile p ∧ l.drop (l.takeWhile p).length = l.dropWhile p
  | [] => ⟨rfl, rfl⟩
  | x :: l => by
    obtain ⟨a, b⟩ := take_len_while (p := p) l
    by_cases h : p x = true
    · simp only [List.takeWhile_cons, h, if_true, List.length_cons, List.take_succ_cons, List.drop_succ_cons, List.dropWhile_cons]
      exact ⟨by rw [a], b⟩
    · simp [h]
/-- A sorted list with one more where it belongs. -/
theorem sorted_within {R : Nat → Nat → Prop} {p : Nat → Bool} {l : List Nat} {me : Nat} (hl : l.Pairwise R) (h1 : ∀ x ∈ l, p x = true → R x me) (h2 : ∀ x ∈ l, p x = false → R me x) (ht : ∀ x ∈ l, ∀ y ∈ l, R me x → R x y → R me y) : (withinL l (l.takeWhile p).length me).Pairwise R := by
  unfold withinL
  obtain ⟨e1, e2⟩ := take_len_while (p := p) l
  rw [e1, e2]
  have e := List.takeWhile_append_dropWhile (p := p) (l := l)
  rw [← e] at hl
  obtain ⟨p1, p2, p3⟩ := List.pairwise_append.1 hl
  have hme : ∀ y ∈ l.dropWhile p, R me y := by
    cases hd : l.dropWhile p with
    | nil => intro y hy; exact (List.not_mem_nil hy).elim
    | cons z D =>
      have hz : p z = false := by
        have := List.head?_dropWhile_not p l
        rw [hd] at this
        simpa using this
      have hzl : z ∈ l := (List.dropWhile_sublist p).mem (by rw [hd]; simp)
      rw [hd] at p2
      intro y hy
      rcases List.mem_cons.1 hy with rfl | hy
      · exact h2 y hzl hz
      · exact ht z hzl y ((List.dropWhile_sublist p).mem (by rw [hd]; simp [hy])) (h2 z hzl hz) ((List.pairwise_cons.1 p2).1 y hy)
  refine List.pairwise_append.2 ⟨p1, List.pairwise_cons.2 ⟨hme, p2⟩, fun x hx y hy => ?_⟩
  rcases List.mem_cons.1 hy with rfl | hy
  · exact h1 x ((List.takeWhile_sublist p).mem hx) (List.all_eq_true.1 (List.all_takeWhile (p := p) (l := l)) x hx)
  · exact p3 x hx y hy
theorem RS.find_id {r : RS} {c k : Int} {y : Nat} (h : r.find c k = (y : Int)) : y < r.l.length ∧ (r.nd y).u.c = c ∧ (r.nd y).u.k = k := by
  unfold RS.find at h
  cases e : r.l.findIdx? (isId c k) with
  | none => rw [e] at h; simp [idxI] at h
  | some i =>
    rw [e] at h
    have hi : i = y := by simp [idxI] at h; omega
    subst hi
    obtain ⟨h1, h2, _⟩ := List.findIdx?_eq_some_iff_getElem.1 e
    unfold isId at h2
    simp only [Bool.and_eq_true, beq_iff_eq] at h2
    rw [RS.nd_of h1]
    exact ⟨h1, h2.1, h2.2⟩
theorem RS.find_ex {r : RS} {c k : Int} {y : Nat} (hy : y < r.l.length) (hc : (r.nd y).u.c = c) (hk : (r.nd y).u.k = k) : r.find c k ≠ -1 := fun h => by
  unfold RS.find at h
  cases e : r.l.findIdx? (isId c k) with
  | some i => rw [e] at h; simp [idxI] at h
  | none =>
    rw [List.findIdx?_eq_none_iff] at e
    have := e _ (List.getElem_mem hy)
    rw [← RS.nd_of hy] at this
    unfold isId at this
    simp [hc, hk] at this
/-- What is so of a tree that Insert has made. -/
structure ROk (r : RS) : Prop where
  inv : RInv r
  id : ∀ x, x < r.l.length → numOk (r.nd x).u.c = true ∧ numOk (r.nd x).u.k = true
  uniq : ∀ x y, x < r.l.length → y < r.l.length → (r.nd x).u.c = (r.nd y).u.c → (r.nd x).u.k = (r.nd y).u.k → x = y
  orgL : ∀ x, x < r.l.length → ((r.nd x).u.lc = 0 ∧ (r.nd x).u.lk = 0) ∨ ∃ y, y < x ∧ (r.nd y).u.c = (r.nd x).u.lc ∧ (r.nd y).u.k = (r.nd x).u.lk
  orgR : ∀ x, x < r.l.length → ((r.nd x).u.rc = 0 ∧ (r.nd x).u.rk = 0) ∨ ∃ y, y < x ∧ (r.nd y).u.c = (r.nd x).u.rc ∧ (r.nd y).u.k = (r.nd x).u.rk
  kidL : ∀ z, z < r.l.length → ∀ y ∈ (r.nd z).lefts, (r.nd y).par = (z : Int) ∧ (r.nd y).u.rc = (r.nd z).u.c ∧ (r.nd y).u.rk = (r.nd z).u.k
  kidM : ∀ z, z < r.l.length → ∀ y ∈ (r.nd z).more, (r.nd y).par = (z : Int)
  kid0 : ∀ y ∈ r.more, (r.nd y).par = -1
  conv : ∀ y, y < r.l.length → ((r.nd y).par = -1 ∧ y ∈ r.more) ∨ ∃ z, z < r.l.length ∧ (r.nd y).par = (z : Int) ∧ (y ∈ (r.nd z).lefts ∨ y ∈ (r.nd z).more)
  sortL : ∀ z, z < r.l.length → (r.nd z).lefts.Pairwise fun a b => lessI (r.nd a).u.c (r.nd a).u.k (r.nd b).u.c (r.nd b).u.k = true
  sortM : ∀ z, z < r.l.length → (r.nd z).more.Pairwise fun a b => r.farther a b = true
  sort0 : r.more.Pairwise fun a b => r.farther a b = true
theorem ROk.zero : ROk .zero :=
  ⟨RInv.zero, fun x h => absurd h (Nat.not_lt_zero _), fun x y h => absurd h (Nat.not_lt_zero _), fun x h => absurd h (Nat.not_lt_zero _), fun x h => absurd h (Nat.not_lt_zero _), fun x h => absurd h (Nat.not_lt_zero _), fun x h => absurd h (Nat.not_lt_zero _), fun y h => (List.not_mem_nil h).elim, fun x h => absurd h (Nat.not_lt_zero _), fun x h => absurd h (Nat.not_lt_zero _), fun x h => absurd h (Nat.not_lt_zero _), List.Pairwise.nil⟩
theorem ROk.rgt {r : RS} (h : ROk r) (x : Nat) (hx : x < r.l.length) : RgtOk r (r.nd x).u := by
  rcases h.orgR x hx with e | ⟨y, hy, e1, e2⟩
  · exact .inl e
  · exact .inr (RS.find_ex (by omega) e1 e2)
/-- What may says. -/
structure MayR (r : RS) (u : Un) : Prop where
  c : numOk u.c = true
  k : numOk u.k = true
  new : r.find u.c u.k = -1
  left : (u.lc = 0 ∧ u.lk = 0) ∨ r.find u.lc u.lk ≠ -1
  right : (u.rc = 0 ∧ u.rk = 0) ∨ r.find u.rc u.rk ≠ -1
  ord : r.find u.lc u.lk ≠ -1 → r.find u.rc u.rk ≠ -1 → r.place (r.find u.lc u.lk) < r.place (r.find u.rc u.rk)
theorem may_r {r : RS} {u : Un} : r.may u = true ↔ MayR r u := by
  have h0 := RS.find_lt (r := r) u.c u.k
  have h1 := RS.find_lt (r := r) u.lc u.lk
  have h2 := RS.find_lt (r := r) u.rc u.rk
  unfold RS.may
  simp only [Bool.and_eq_true, Bool.not_eq_true', Bool.and_eq_false_iff, decide_eq_true_eq, decide_eq_false_iff_not]
  constructor
  · rintro ⟨⟨⟨⟨⟨a, b⟩, c⟩, d⟩, e⟩, f⟩
    exact ⟨a, b, by omega, d.imp id (fun h => by omega), e.imp id (fun h => by omega), fun g1 g2 => by omega⟩
  · rintro ⟨a, b, c, d, e, f⟩
    refine ⟨⟨⟨⟨⟨a, b⟩, by omega⟩, d.imp id (fun h => by omega)⟩, e.imp id (fun h => by omega)⟩, ?_⟩
    by_cases g1 : r.find u.lc u.lk = -1
    · left; left; omega
    · by_cases g2 : r.find u.rc u.rk = -1
      · left; right; omega
      · right
        have := f g1 g2
        omega
/-- Insert keeps it. -/
theorem ROk.laid {r : RS} (h : ROk r) {u : Un} (hm : MayR r u) : ROk (r.laid u) := by
  have hI := (h.inv.laidI u).1
  have L := laid1 r u
  obtain ⟨A, B, eo, es⟩ := h.inv.order_at u
  have hus := us_laid L
  have hur : RgtOk r u := hm.right
  have hpar : -1 ≤ (r.node u).par ∧ (r.node u).par < (r.l.length : Int) := by
    have h1 := RS.find_lt (r := r) u.lc u.lk
    have h2 := RS.find_lt (r := r) u.rc u.rk
    show -1 ≤ (if r.isL u then _ else _) ∧ (if r.isL u then _ else _) < _
    split
    · exact h2
    · exact h1
  generalize hs : r.laid u = s at *
  have hme : s.nd r.l.length = ⟨u, (r.node u).par, r.isL u, [], []⟩ := L.me
  have hmu : (s.nd r.l.length).u = u := by rw [hme]
  have hold : ∀ x, x < r.l.length → (s.nd x).u = (r.nd x).u ∧ (s.nd x).par = (r.nd x).par := L.old
  have hsl : ∀ x, x < s.l.length → x < r.l.length ∨ x = r.l.length := fun x hx => by have := L.len; omega
  have hk0 : (s.nd r.l.length).lefts = [] ∧ (s.nd r.l.length).more = [] := by rw [hme]; exact ⟨rfl, rfl⟩
  have newid : ∀ y, y < r.l.length → ¬ ((r.nd y).u.c = u.c ∧ (r.nd y).u.k = u.k) := fun y hy e => RS.find_ex hy e.1 e.2 hm.new
  -- farther of nodes, in s
  have hfart : ∀ {v w : Un}, RgtOk r v → RgtOk r w → s.fart v w = r.fart v w := fun hv hw => fart_more h.inv eo es hus hv hw
  have farO : ∀ a b, a < r.l.length → b < r.l.length → s.farther a b = r.farther a b := fun a b ha hb => by
    rw [RS.farther_eq, RS.farther_eq, (hold a ha).1, (hold b hb).1]
    exact hfart (h.rgt a ha) (h.rgt b hb)
  have sortK : ∀ l : List Nat, (∀ y ∈ l, y < r.l.length) → l.Pairwise (fun a b => r.farther a b = true) → l.Pairwise (fun a b => s.farther a b = true) := fun l hl hp => by
    refine List.Pairwise.imp_of_mem (fun {a b} ha hb e => ?_) hp
    rw [farO a b (hl a ha) (hl b hb)]; exact e
  have sortI : ∀ l : List Nat, (∀ y ∈ l, y < r.l.length) → l.Pairwise (fun a b => r.farther a b = true) → ((r.with1 u).amongL l r.l.length).Pairwise (fun a b => s.farther a b = true) := fun l hl hp => by
    have pe : ∀ x ∈ l, (r.with1 u).farther x r.l.length = r.fart (r.nd x).u u := fun x hx => by
      have hx' := hl x hx
      rw [RS.farther_eq, with1_nd, if_neg (by omega), with1_nd, if_pos rfl]
      exact fart_with1 r u (h.rgt x hx') hur
    refine sorted_within (sortK l hl hp) (fun x hx e => ?_) (fun x hx e => ?_) (fun x hx y hy e1 e2 => ?_)
    · have hx' := hl x hx
      rw [RS.farther_eq, (hold x hx').1, hmu, hfart (h.rgt x hx') hur, ← pe x hx]
      exact e
    · have hx' := hl x hx
      rw [RS.farther_eq, (hold x hx').1, hmu, hfart hur (h.rgt x hx')]
      exact RS.fart_total r (by rw [← pe x hx]; exact e) (newid x hx')
    · rw [RS.farther_eq] at e1 e2 ⊢
      exact RS.fart_trans s e1 e2
  have kl : ∀ z, z < r.l.length → ∀ y ∈ (r.nd z).lefts, y < r.l.length := fun z hz => (h.inv.kids z hz).1
  have km : ∀ z, z < r.l.length → ∀ y ∈ (r.nd z).more, y < r.l.length := fun z hz => (h.inv.kids z hz).2
  have oldL : ∀ z, z < r.l.length → ∀ y ∈ (r.nd z).lefts, (s.nd y).par = (z : Int) ∧ (s.nd y).u.rc = (s.nd z).u.c ∧ (s.nd y).u.rk = (s.nd z).u.k := fun z hz y hy => by
    have hy' := kl z hz y hy
    rw [(hold y hy').1, (hold y hy').2, (hold z hz).1]; exact h.kidL z hz y hy
  have oldM : ∀ z, z < r.l.length → ∀ y ∈ (r.nd z).more, (s.nd y).par = (z : Int) := fun z hz y hy => by
    have hy' := km z hz y hy
    rw [(hold y hy').2]; exact h.kidM z hz y hy
  have old0 : ∀ y ∈ r.more, (s.nd y).par = -1 := fun y hy => by
    rw [(hold y (h.inv.root y hy)).2]; exact h.kid0 y hy
  have sortLo : ∀ z, z < r.l.length → (r.nd z).lefts.Pairwise fun a b => lessI (s.nd a).u.c (s.nd a).u.k (s.nd b).u.c (s.nd b).u.k = true := fun z hz => by
    refine List.Pairwise.imp_of_mem (fun {a b} ha hb e => ?_) (h.sortL z hz)
    rw [(hold a (kl z hz a ha)).1, (hold b (kl z hz b hb)).1]; exact e
  -- the new one's parent, and how children grew
  have grow : (∀ z, z < r.l.length → ∀ y ∈ (s.nd z).lefts, y ∈ (r.nd z).lefts ∨ (y = r.l.length ∧ (r.node u).par = (z : Int) ∧ u.rc = (r.nd z).u.c ∧ u.rk = (r.nd z).u.k)) ∧ (∀ z, z < r.l.length → ∀ y ∈ (s.nd z).more, y ∈ (r.nd z).more ∨ (y = r.l.length ∧ (r.node u).par = (z : Int))) ∧ (∀ y ∈ s.more, y ∈ r.more ∨ (y = r.l.length ∧ (r.node u).par = -1)) ∧
      (∀ z, z < r.l.length → (∀ y ∈ (r.nd z).lefts, y ∈ (s.nd z).lefts) ∧ ∀ y ∈ (r.nd z).more, y ∈ (s.nd z).more) ∧ (∀ y ∈ r.more, y ∈ s.more) ∧
      (((r.node u).par = -1 ∧ r.l.length ∈ s.more) ∨ ∃ z, z < r.l.length ∧ (r.node u).par = (z : Int) ∧ (r.l.length ∈ (s.nd z).lefts ∨ r.l.length ∈ (s.nd z).more)) ∧
      (∀ z, z < r.l.length → (s.nd z).lefts.Pairwise fun a b => lessI (s.nd a).u.c (s.nd a).u.k (s.nd b).u.c (s.nd b).u.k = true) ∧ (∀ z, z < r.l.length → (s.nd z).more.Pairwise fun a b => s.farther a b = true) ∧ s.more.Pairwise fun a b => s.farther a b = true := by
    rcases L.put with ⟨_, e2, e3, p, e4, e5, e6, e7, e8⟩ | ⟨_, e2, ⟨e3, p, e4, e5, e6, e7, e8⟩ | ⟨e4, e6, e8⟩⟩
    · obtain ⟨_, f1, f2⟩ := RS.find_id e4
      refine ⟨fun z hz y hy => ?_, fun z hz y hy => ?_, fun y hy => .inl (by rw [← e3]; exact hy), fun z hz => ?_, fun y hy => by rw [e3]; exact hy, .inr ⟨p, e5, by rw [e2, e4], .inl (by rw [e8]; exact mem_within.2 (.inl rfl))⟩, fun z hz => ?_, fun z hz => ?_, by rw [e3]; exact sortK _ h.inv.root h.sort0⟩
      · by_cases ez : z = p
        · subst ez
          rw [e8] at hy
          rcases mem_within.1 hy with rfl | hy
          · exact .inr ⟨rfl, by rw [e2, e4], f1.symm, f2.symm⟩
          · exact .inl hy
        · rw [(e6 z hz ez).1] at hy; exact .inl hy
      · by_cases ez : z = p
        · subst ez; rw [e7] at hy; exact .inl hy
        · rw [(e6 z hz ez).2] at hy; exact .inl hy
      · by_cases ez : z = p
        · subst ez; rw [e7, e8]; exact ⟨fun y hy => mem_within.2 (.inr hy), fun y hy => hy⟩
        · rw [(e6 z hz ez).1, (e6 z hz ez).2]; exact ⟨fun y hy => hy, fun y hy => hy⟩
      · by_cases ez : z = p
        · subst ez
          rw [e8]
          have pe : ∀ x ∈ (r.nd z).lefts, (lessI ((r.with1 u).nd x).u.c ((r.with1 u).nd x).u.k u.c u.k) = lessI (r.nd x).u.c (r.nd x).u.k u.c u.k := fun x hx => by
            rw [with1_nd, if_neg (by have := kl z hz x hx; omega)]
          refine sorted_within (sortLo z hz) (fun x hx e => ?_) (fun x hx e => ?_) (fun x hx y hy a1 a2 => ?_)
          · rw [(hold x (kl z hz x hx)).1, hmu, ← pe x hx]; exact e
          · have e' : ¬ (lessI (r.nd x).u.c (r.nd x).u.k u.c u.k = true) := by rw [← pe x hx, e]; simp
            have hn := newid x (kl z hz x hx)
            rw [(hold x (kl z hz x hx)).1, hmu]
            rw [lessI_iff] at e' ⊢
            omega
          · rw [lessI_iff] at a1 a2 ⊢
            omega
        · rw [(e6 z hz ez).1]; exact sortLo z hz
      · by_cases ez : z = p
        · subst ez; rw [e7]; exact sortK _ (km z hz) (h.sortM z hz)
        · rw [(e6 z hz ez).2]; exact sortK _ (km z hz) (h.sortM z hz)
    · refine ⟨fun z hz y hy => ?_, fun z hz y hy => ?_, fun y hy => .inl (by rw [← e3]; exact hy), fun z hz => ?_, fun y hy => by rw [e3]; exact hy, .inr ⟨p, e5, by rw [e2, e4], .inr (by rw [e8]; exact mem_within.2 (.inl rfl))⟩, fun z hz => ?_, fun z hz => ?_, by rw [e3]; exact sortK _ h.inv.root h.sort0⟩
      · by_cases ez : z = p
        · subst ez; rw [e7] at hy; exact .inl hy
        · rw [(e6 z hz ez).1] at hy; exact .inl hy
      · by_cases ez : z = p
        · subst ez
          rw [e8] at hy
          rcases mem_within.1 hy with rfl | hy
          · exact .inr ⟨rfl, by rw [e2, e4]⟩
          · exact .inl hy
        · rw [(e6 z hz ez).2] at hy; exact .inl hy
      · by_cases ez : z = p
        · subst ez; rw [e7, e8]; exact ⟨fun y hy => hy, fun y hy => mem_within.2 (.inr hy)⟩
        · rw [(e6 z hz ez).1, (e6 z hz ez).2]; exact ⟨fun y hy => hy, fun y hy => hy⟩
      · by_cases ez : z = p
        · subst ez; rw [e7]; exact sortLo z hz
        · rw [(e6 z hz ez).1]; exact sortLo z hz
      · by_cases ez : z = p
        · subst ez; rw [e8]; exact sortI _ (km z hz) (h.sortM z hz)
        · rw [(e6 z hz ez).2]; exact sortK _ (km z hz) (h.sortM z hz)
    · refine ⟨fun z hz y hy => .inl (by rw [← (e6 z hz).1]; exact hy), fun z hz y hy => .inl (by rw [← (e6 z hz).2]; exact hy), fun y hy => ?_, fun z hz => by rw [(e6 z hz).1, (e6 z hz).2]; exact ⟨fun y hy => hy, fun y hy => hy⟩, fun y hy => by rw [e8]; exact mem_within.2 (.inr hy), .inl ⟨by rw [e2, e4], by rw [e8]; exact mem_within.2 (.inl rfl)⟩, fun z hz => by rw [(e6 z hz).1]; exact sortLo z hz, fun z hz => by rw [(e6 z hz).2]; exact sortK _ (km z hz) (h.sortM z hz), by rw [e8]; exact sortI _ h.inv.root h.sort0⟩
      rw [e8] at hy
      rcases mem_within.1 hy with rfl | hy
      · exact .inr ⟨rfl, by rw [e2, e4]⟩
      · exact .inl hy
  obtain ⟨g1, g2, g3, g4, g5, g6, g7, g8, g9⟩ := grow
  refine ⟨hI, fun x hx => ?_, fun x y hx hy ec ek => ?_, fun x hx => ?_, fun x hx => ?_, fun z hz y hy => ?_, fun z hz y hy => ?_, fun y hy => ?_, fun y hy => ?_, fun z hz => ?_, fun z hz => ?_, g9⟩
  · rcases hsl x hx with hx | rfl
    · rw [(hold x hx).1]; exact h.id x hx
    · rw [hmu]; exact ⟨hm.c, hm.k⟩
  · rcases hsl x hx with hx | rfl <;> rcases hsl y hy with hy | rfl
    · rw [(hold x hx).1, (hold y hy).1] at ec ek; exact h.uniq x y hx hy ec ek
    · rw [(hold x hx).1, hmu] at ec ek; exact absurd ⟨ec, ek⟩ (newid x hx)
    · rw [(hold y hy).1, hmu] at ec ek; exact absurd ⟨ec.symm, ek.symm⟩ (newid y hy)
    · rfl
  · rcases hsl x hx with hx | rfl
    · rw [(hold x hx).1]
      refine (h.orgL x hx).imp (fun q => q) ?_
      rintro ⟨y, hy, e⟩
      exact ⟨y, hy, by rw [(hold y (by omega)).1]; exact e⟩
    · rw [hmu]
      refine hm.left.imp (fun q => q) fun e => ?_
      obtain ⟨y, hy⟩ := Int.eq_ofNat_of_zero_le (show 0 ≤ r.find u.lc u.lk by have := RS.find_lt (r := r) u.lc u.lk; omega)
      obtain ⟨f0, f1, f2⟩ := RS.find_id hy
      exact ⟨y, f0, by rw [(hold y f0).1]; exact ⟨f1, f2⟩⟩
  · rcases hsl x hx with hx | rfl
    · rw [(hold x hx).1]
      refine (h.orgR x hx).imp (fun q => q) ?_
      rintro ⟨y, hy, e⟩
      exact ⟨y, hy, by rw [(hold y (by omega)).1]; exact e⟩
    · rw [hmu]
      refine hm.right.imp (fun q => q) fun e => ?_
      obtain ⟨y, hy⟩ := Int.eq_ofNat_of_zero_le (show 0 ≤ r.find u.rc u.rk by have := RS.find_lt (r := r) u.rc u.rk; omega)
      obtain ⟨f0, f1, f2⟩ := RS.find_id hy
      exact ⟨y, f0, by rw [(hold y f0).1]; exact ⟨f1, f2⟩⟩
  · rcases hsl z hz with hz | rfl
    · rcases g1 z hz y hy with hy | ⟨rfl, e1, e2, e3⟩
      · exact oldL z hz y hy
      · rw [hme, (hold z hz).1]; exact ⟨e1, e2, e3⟩
    · rw [hk0.1] at hy; exact (List.not_mem_nil hy).elim
  · rcases hsl z hz with hz | rfl
    · rcases g2 z hz y hy with hy | ⟨rfl, e1⟩
      · exact oldM z hz y hy
      · rw [hme]; exact e1
    · rw [hk0.2] at hy; exact (List.not_mem_nil hy).elim
  · rcases g3 y hy with hy | ⟨rfl, e1⟩
    · exact old0 y hy
    · rw [hme]; exact e1
  · rcases hsl y hy with hy | rfl
    · rw [(hold y hy).2]
      rcases h.conv y hy with ⟨e1, e2⟩ | ⟨z, hz, e1, e2⟩
      · exact .inl ⟨e1, g5 y e2⟩
      · exact .inr ⟨z, by have := L.len; omega, e1, e2.imp ((g4 z hz).1 y) ((g4 z hz).2 y)⟩
    · rw [hme]
      rcases g6 with e | ⟨z, hz, e⟩
      · exact .inl e
      · exact .inr ⟨z, by have := L.len; omega, e⟩
  · rcases hsl z hz with hz | rfl
    · exact g7 z hz
    · rw [hk0.1]; exact List.Pairwise.nil
  · rcases hsl z hz with hz | rfl
    · exact g8 z hz
    · rw [hk0.2]; exact List.Pairwise.nil
theorem ROk.insert {r : RS} (h : ROk r) (u : Un) : ROk (r.insert u) := by
  unfold RS.insert
  split
  · next e => exact h.laid (may_r.1 e)
  · exact h
end Go.Proofs.YtdnhoicfolkbnaaGreat
