/- The document's tree of units (quireref9), mathematics alone: units that are inserted in another order stand in the same one. -/
import Derived.Test.YtnbphdmpbjahhaaTrG
namespace Go.Proofs.Ytnbphdmpbjahhaa
set_option linter.unusedVariables false
set_option linter.unusedSimpArgs false

section
variable {r1 r2 : RS} {f : Nat → Nat}
theorem phI_eq {f : Nat → Nat} {i : Int} {z : Nat} (h : phI f i = (z : Int)) : ∃ p : Nat, i = (p : Int) ∧ f p = z := by
  unfold phI at h
  by_cases hn : i < 0
  · rw [if_pos hn] at h; omega
  · rw [if_neg hn] at h
    obtain ⟨p, hp⟩ := Int.eq_ofNat_of_zero_le (show 0 ≤ i by omega)
    rw [hp, Int.toNat_natCast] at h
    exact ⟨p, hp, by omega⟩
/-- The children of a node: those of r1 that r2 has. -/
theorem Img.kids (h : Img r1 r2 f) (h1 : TOk r1) (h2 : TOk r2) {z : Nat} (hz : z < r2.l.length) : (∀ y, y < r2.l.length → (y ∈ (r2.nd z).lefts ↔ f y ∈ (r1.nd (f z)).lefts)) ∧ ∀ y, y < r2.l.length → (y ∈ (r2.nd z).more ↔ f y ∈ (r1.nd (f z)).more) := by
  have hP : ∀ x, x < r2.l.length → (r1.nd (f x)).par = phI f (r2.nd x).par ∧ r1.isL (r1.nd (f x)).u = r2.isL (r2.nd x).u := fun x hx => by
    rw [(h x hx).2]; exact h.par h1 h2 (x + 1) x (Nat.lt_succ_self _) hx
  have hfz := (h z hz).1
  have up : ∀ y, y < r2.l.length → (r2.nd y).par = (z : Int) → (r1.nd (f y)).par = (f z : Int) := fun y hy e => by
    rw [(hP y hy).1, e]; unfold phI; rw [if_neg (by omega), Int.toNat_natCast]
  have dn : ∀ y, y < r2.l.length → (r1.nd (f y)).par = (f z : Int) → (r2.nd y).par = (z : Int) := fun y hy e => by
    rw [(hP y hy).1] at e
    obtain ⟨p, hp, e2⟩ := phI_eq e
    have := h2.ok.inv.up y hy
    rw [hp, h.inj h2.ok (x := p) (y := z) (by omega) hz e2]
  refine ⟨fun y hy => ⟨fun hm => ?_, fun hm => ?_⟩, fun y hy => ⟨fun hm => ?_, fun hm => ?_⟩⟩
  · have e1 := up y hy (h2.ok.kidL z hz y hm).1
    have e2 := h2.lf z hz y hm
    rw [← (hP y hy).2] at e2
    rcases h1.ok.conv (f y) (h y hy).1 with ⟨q, _⟩ | ⟨z1, hz1, q, hor⟩
    · omega
    · have : z1 = f z := by omega
      subst this
      rcases hor with hor | hor
      · exact hor
      · rw [h1.mr _ hfz _ hor] at e2; cases e2
  · have e1 := dn y hy (h1.ok.kidL _ hfz _ hm).1
    have e2 := h1.lf _ hfz _ hm
    rw [(hP y hy).2] at e2
    rcases h2.ok.conv y hy with ⟨q, _⟩ | ⟨z1, hz1, q, hor⟩
    · omega
    · have : z1 = z := by omega
      subst this
      rcases hor with hor | hor
      · exact hor
      · rw [h2.mr _ hz _ hor] at e2; cases e2
  · have e1 := up y hy (h2.ok.kidM z hz y hm)
    have e2 := h2.mr z hz y hm
    rw [← (hP y hy).2] at e2
    rcases h1.ok.conv (f y) (h y hy).1 with ⟨q, _⟩ | ⟨z1, hz1, q, hor⟩
    · omega
    · have : z1 = f z := by omega
      subst this
      rcases hor with hor | hor
      · rw [h1.lf _ hfz _ hor] at e2; cases e2
      · exact hor
  · have e1 := dn y hy (h1.ok.kidM _ hfz _ hm)
    have e2 := h1.mr _ hfz _ hm
    rw [(hP y hy).2] at e2
    rcases h2.ok.conv y hy with ⟨q, _⟩ | ⟨z1, hz1, q, hor⟩
    · omega
    · have : z1 = z := by omega
      subst this
      rcases hor with hor | hor
      · rw [h2.lf _ hz _ hor] at e2; cases e2
      · exact hor
theorem Img.root (h : Img r1 r2 f) (h1 : TOk r1) (h2 : TOk r2) : ∀ y, y < r2.l.length → (y ∈ r2.more ↔ f y ∈ r1.more) := fun y hy => by
  have hP := (h.par h1 h2 (y + 1) y (Nat.lt_succ_self _) hy).1
  constructor
  · intro hm
    have e := h2.ok.kid0 y hm
    have e1 : (r1.nd (f y)).par = -1 := by rw [hP, e]; rfl
    rcases h1.ok.conv (f y) (h y hy).1 with ⟨_, q⟩ | ⟨z1, hz1, q, _⟩
    · exact q
    · omega
  · intro hm
    have e := h1.ok.kid0 _ hm
    rcases h2.ok.conv y hy with ⟨_, q⟩ | ⟨z1, hz1, q, _⟩
    · exact q
    · rw [hP, q] at e
      unfold phI at e
      rw [if_neg (by omega), Int.toNat_natCast] at e
      omega
theorem lessI_asymm {a b c d : Int} : lessI a b c d = true → ¬ lessI c d a b = true := by
  rw [lessI_iff, lessI_iff]; omega
theorem RS.fart_asymm (r : RS) {a b : Un} : r.fart a b = true → ¬ r.fart b a = true := by
  rw [RS.fart_iff, RS.fart_iff]; omega
/-- The lists of children, where the right ones are sorted alike. -/
theorem Img.lists (h : Img r1 r2 f) (h1 : TOk r1) (h2 : TOk r2) (hf : ∀ a b, a < r2.l.length → b < r2.l.length → r2.farther a b = r1.farther (f a) (f b)) : (∀ z, z < r2.l.length → (r2.nd z).lefts.map f = (r1.nd (f z)).lefts.filter (inI f r2.l.length) ∧ (r2.nd z).more.map f = (r1.nd (f z)).more.filter (inI f r2.l.length)) ∧ r2.more.map f = r1.more.filter (inI f r2.l.length) := by
  have mem : ∀ {l k : List Nat}, (∀ y ∈ l, y < r2.l.length) → (∀ y, y < r2.l.length → (y ∈ l ↔ f y ∈ k)) → ∀ x, x ∈ l.map f ↔ x ∈ k.filter (inI f r2.l.length) := fun {l k} hl hk x => by
    rw [List.mem_map, List.mem_filter, inI_iff]
    constructor
    · rintro ⟨y, hy, rfl⟩
      exact ⟨(hk y (hl y hy)).1 hy, y, hl y hy, rfl⟩
    · rintro ⟨hx, y, hy, rfl⟩
      exact ⟨y, (hk y hy).2 hx, rfl⟩
  have srt : ∀ {l : List Nat}, (∀ y ∈ l, y < r2.l.length) → l.Pairwise (fun a b => r2.farther a b = true) → (l.map f).Pairwise (fun a b => r1.farther a b = true) := fun {l} hl hs => by
    rw [List.pairwise_map]
    exact hs.imp_of_mem fun {a b} ha hb q => by rw [← hf a b (hl a ha) (hl b hb)]; exact q
  refine ⟨fun z hz => ⟨?_, ?_⟩, ?_⟩
  · refine sorted_eq (R := fun a b => lessI (r1.nd a).u.c (r1.nd a).u.k (r1.nd b).u.c (r1.nd b).u.k = true) (fun a b => lessI_asymm) ?_ ((h1.ok.sortL _ (h z hz).1).filter _) (mem (h2.ok.inv.kids z hz).1 (h.kids h1 h2 hz).1)
    rw [List.pairwise_map]
    exact (h2.ok.sortL z hz).imp_of_mem fun {a b} ha hb q => by
      rw [(h a ((h2.ok.inv.kids z hz).1 a ha)).2, (h b ((h2.ok.inv.kids z hz).1 b hb)).2]; exact q
  · exact sorted_eq (R := fun a b => r1.farther a b = true) (fun a b => RS.fart_asymm r1) (srt (h2.ok.inv.kids z hz).2 (h2.ok.sortM z hz)) ((h1.ok.sortM _ (h z hz).1).filter _) (mem (h2.ok.inv.kids z hz).2 (h.kids h1 h2 hz).2)
  · exact sorted_eq (R := fun a b => r1.farther a b = true) (fun a b => RS.fart_asymm r1) (srt h2.ok.inv.root h2.ok.sort0) (h1.ok.sort0.filter _) (mem h2.ok.inv.root (h.root h1 h2))
/-- A child that r2 has has its parent there. -/
theorem Img.closed (h : Img r1 r2 f) (h1 : TOk r1) (h2 : TOk r2) {z y : Nat} (hz : z < r1.l.length) (hy : y ∈ (r1.nd z).lefts ∨ y ∈ (r1.nd z).more) (hi : inI f r2.l.length y = true) : inI f r2.l.length z = true := by
  obtain ⟨x, hx, rfl⟩ := inI_iff.1 hi
  have e : (r1.nd (f x)).par = (z : Int) := by
    rcases hy with hy | hy
    · exact (h1.ok.kidL z hz _ hy).1
    · exact h1.ok.kidM z hz _ hy
  rw [(h.par h1 h2 (x + 1) x (Nat.lt_succ_self _) hx).1] at e
  obtain ⟨p, hp, e2⟩ := phI_eq e
  have := h2.ok.inv.up x hx
  exact inI_iff.2 ⟨p, by omega, e2⟩
theorem Img.none (h : Img r1 r2 f) (h1 : TOk r1) (h2 : TOk r2) : ∀ (g : Nat) (l : List Nat), (∀ y ∈ l, y < r1.l.length ∧ inI f r2.l.length y = false) → (r1.walk g l).filter (inI f r2.l.length) = []
  | 0, l, _ => rfl
  | g + 1, [], _ => rfl
  | g + 1, x :: l, hl => by
    obtain ⟨hx, hn⟩ := hl x (by simp)
    have kid : ∀ y, y ∈ (r1.nd x).lefts ∨ y ∈ (r1.nd x).more → y < r1.l.length ∧ inI f r2.l.length y = false := fun y hy => by
      refine ⟨by rcases hy with hy | hy; exact (h1.ok.inv.kids x hx).1 y hy; exact (h1.ok.inv.kids x hx).2 y hy, ?_⟩
      cases e : inI f r2.l.length y with
      | false => rfl
      | true => rw [h.closed h1 h2 hx hy e] at hn; cases hn
    rw [RS.walk_cons, List.filter_append, List.filter_append, List.filter_cons, hn, h.none h1 h2 g _ fun y hy => kid y (.inl hy), h.none h1 h2 (g + 1) l fun y hy => hl y (List.mem_cons_of_mem _ hy)]
    simp [h.none h1 h2 g _ fun y hy => kid y (.inr hy)]
theorem Img.walk (h : Img r1 r2 f) (h1 : TOk r1) (h2 : TOk r2) (hl : (∀ z, z < r2.l.length → (r2.nd z).lefts.map f = (r1.nd (f z)).lefts.filter (inI f r2.l.length) ∧ (r2.nd z).more.map f = (r1.nd (f z)).more.filter (inI f r2.l.length))) : ∀ (g : Nat) (k l : List Nat), (∀ y ∈ k, y < r2.l.length) → (∀ y ∈ l, y < r1.l.length) → k.map f = l.filter (inI f r2.l.length) → (r2.walk g k).map f = (r1.walk g l).filter (inI f r2.l.length)
  | 0, k, l, _, _, _ => rfl
  | g + 1, k, [], hk, _, e => by
    have : k = [] := by simpa using e
    subst this; rfl
  | g + 1, k, x :: l, hk, hl1, e => by
    have hx := hl1 x (by simp)
    cases hn : inI f r2.l.length x with
    | false =>
      rw [List.filter_cons, hn] at e
      have ih := h.walk h1 h2 hl (g + 1) k l hk (fun y hy => hl1 y (List.mem_cons_of_mem _ hy)) e
      rw [ih, show x :: l = [x] ++ l from rfl, RS.walk_append, List.filter_append, h.none h1 h2 (g + 1) [x] fun y hy => by simp at hy; subst hy; exact ⟨hx, hn⟩]
      rfl
    | true =>
      rw [List.filter_cons, hn, if_pos rfl] at e
      cases k with
      | nil => simp at e
      | cons y k =>
        rw [List.map_cons, List.cons.injEq] at e
        obtain ⟨e1, e2⟩ := e
        subst e1
        have hy := hk y (by simp)
        have ih := h.walk h1 h2 hl (g + 1) k l (fun z hz => hk z (List.mem_cons_of_mem _ hz)) (fun z hz => hl1 z (List.mem_cons_of_mem _ hz)) e2
        have iL := h.walk h1 h2 hl g _ _ (h2.ok.inv.kids y hy).1 (h1.ok.inv.kids _ hx).1 (hl y hy).1
        have iM := h.walk h1 h2 hl g _ _ (h2.ok.inv.kids y hy).2 (h1.ok.inv.kids _ hx).2 (hl y hy).2
        rw [RS.walk_cons, RS.walk_cons, List.map_append, List.map_append, List.map_cons, List.filter_append, List.filter_append, List.filter_cons, hn, if_pos rfl, ih, iL, iM]
theorem RS.deep_succ (r : RS) : ∀ (g : Nat) (l : List Nat), r.Deep g l → r.Deep (g + 1) l
  | 0, l, h => by
    have : l = [] := h
    subst this
    exact fun x hx => (List.not_mem_nil hx).elim
  | g + 1, l, h => fun x hx => by
    obtain ⟨a, b, c⟩ := h x hx
    exact ⟨a, RS.deep_succ r g _ b, RS.deep_succ r g _ c⟩
theorem RS.walk_more (r : RS) : ∀ (k g : Nat) (l : List Nat), r.Deep g l → r.Deep (g + k) l ∧ r.walk (g + k) l = r.walk g l
  | 0, g, l, h => ⟨h, rfl⟩
  | k + 1, g, l, h => by
    obtain ⟨a, b⟩ := RS.walk_more r k g l h
    refine ⟨RS.deep_succ r _ _ a, ?_⟩
    rw [← Nat.add_assoc, RS.walk_fuel r _ _ a, b]
/-- The order of r2 is that of r1, of those that it has. -/
theorem Img.order (h : Img r1 r2 f) (h1 : TOk r1) (h2 : TOk r2) (hf : ∀ a b, a < r2.l.length → b < r2.l.length → r2.farther a b = r1.farther (f a) (f b)) : r2.order.map f = r1.order.filter (inI f r2.l.length) := by
  obtain ⟨hl, hr⟩ := h.lists h1 h2 hf
  have e1 := (RS.walk_more r1 r2.l.length _ _ h1.ok.inv.deep).2
  have e2 := (RS.walk_more r2 r1.l.length _ _ h2.ok.inv.deep).2
  rw [h1.ok.inv.ord, h2.ok.inv.ord, ← e1, ← e2, Nat.add_comm r1.l.length]
  exact h.walk h1 h2 hl _ _ _ h2.ok.inv.root h1.ok.inv.root hr
/-- r2 has some of r1's units, in r1's order. -/
structure Sub (r1 r2 : RS) (f : Nat → Nat) : Prop where
  img : Img r1 r2 f
  ord : r2.order.map f = r1.order.filter (inI f r2.l.length)
theorem Sub.lt' (h : Sub r1 r2 f) (h1 : TOk r1) (h2 : TOk r2) {a b : Nat} (ha : a < r2.l.length) (hb : b < r2.l.length) (hlt : r2.place (a : Int) < r2.place (b : Int)) : r1.place (f a : Int) < r1.place (f b : Int) := by
  have := ((h2.ok.inv.bf ha hb).2 hlt).map f
  rw [h.ord] at this
  exact (h1.ok.inv.bf (h.img a ha).1 (h.img b hb).1).1 this.of_filter
theorem Sub.lt (h : Sub r1 r2 f) (h1 : TOk r1) (h2 : TOk r2) {a b : Nat} (ha : a < r2.l.length) (hb : b < r2.l.length) : r2.place (a : Int) < r2.place (b : Int) ↔ r1.place (f a : Int) < r1.place (f b : Int) := by
  refine ⟨h.lt' h1 h2 ha hb, fun q => ?_⟩
  refine Decidable.byContradiction fun hn => ?_
  by_cases e : r2.place (a : Int) = r2.place (b : Int)
  · obtain ⟨i, hi, i1, i2⟩ := h2.ok.inv.place_ok a ha
    obtain ⟨j, hj, j1, j2⟩ := h2.ok.inv.place_ok b hb
    have hij : i = j := by omega
    subst hij
    have : a = b := by rw [← i1, ← j1]
    subst this
    omega
  · have := h.lt' h1 h2 hb ha (by omega)
    omega
theorem Sub.fart (h : Sub r1 r2 f) (h1 : TOk r1) (h2 : TOk r2) {v w : Un} (hv : RgtOk r2 v) (hw : RgtOk r2 w) : r2.fart v w = r1.fart v w := by
  have far : ∀ {v : Un}, RgtOk r2 v → (r2.farU v = (r2.l.length : Int) + 1 ∧ r1.farU v = (r1.l.length : Int) + 1) ∨ ∃ q : Nat, q < r2.l.length ∧ r2.farU v = r2.place (q : Int) ∧ r1.farU v = r1.place (f q : Int) := fun {v} hv => by
    unfold RS.farU RS.far
    by_cases e : v.rc = 0 ∧ v.rk = 0
    · left
      rw [if_pos e, if_pos e, h1.ok.inv.len, h2.ok.inv.len]
      exact ⟨rfl, rfl⟩
    · right
      rw [if_neg e, if_neg e]
      have hne := hv.resolve_left e
      have hb := RS.find_lt (r := r2) v.rc v.rk
      obtain ⟨q, hq⟩ := Int.eq_ofNat_of_zero_le (show 0 ≤ r2.find v.rc v.rk by omega)
      have hq1 := h.img.find h1.ok hq
      refine ⟨q, (RS.find_id hq).1, ?_, ?_⟩
      · unfold RS.findP; rw [if_neg (by omega), hq]
      · unfold RS.findP; rw [if_neg (by omega), hq1]
  have key : r2.fart v w = true ↔ r1.fart v w = true := by
    rw [RS.fart_iff, RS.fart_iff]
    rcases far hv with ⟨a1, a2⟩ | ⟨q, a0, a1, a2⟩ <;> rcases far hw with ⟨b1, b2⟩ | ⟨p, b0, b1, b2⟩
    · rw [a1, a2, b1, b2]; omega
    · have := h2.ok.inv.place_ge b0
      have := h1.ok.inv.place_ge (h.img p b0).1
      rw [a1, a2, b1, b2]; omega
    · have := h2.ok.inv.place_ge a0
      have := h1.ok.inv.place_ge (h.img q a0).1
      rw [a1, a2, b1, b2]; omega
    · have e1 := h.lt h1 h2 a0 b0
      have e2 := h.lt h1 h2 b0 a0
      rw [a1, a2, b1, b2]; omega
  cases a : r2.fart v w <;> cases b : r1.fart v w <;> simp_all
/-- One unit more of r1's. -/
theorem Sub.step {S : SS} {sp : Nat → Sp} (h : Sub r1 r2 f) (h1 : TOk r1) (h2 : TOk r2) (hc : Corr S r2 sp) {y : Nat} (hy : y < r1.l.length) (hu : (r1.nd y).u.ok) (hnew : r2.find (r1.nd y).u.c (r1.nd y).u.k = -1) (hl : ((r1.nd y).u.lc = 0 ∧ (r1.nd y).u.lk = 0) ∨ r2.find (r1.nd y).u.lc (r1.nd y).u.lk ≠ -1) (hr : ((r1.nd y).u.rc = 0 ∧ (r1.nd y).u.rk = 0) ∨ r2.find (r1.nd y).u.rc (r1.nd y).u.rk ≠ -1) :
    MayR r2 (r1.nd y).u ∧ TOk (r2.laid (r1.nd y).u) ∧ ∃ g, Sub r1 (r2.laid (r1.nd y).u) g := by
  have hm : MayR r2 (r1.nd y).u := by
    refine ⟨(h1.ok.id y hy).1, (h1.ok.id y hy).2, hnew, hl, hr, fun q1 q2 => ?_⟩
    have b1 := RS.find_lt (r := r2) (r1.nd y).u.lc (r1.nd y).u.lk
    have b2 := RS.find_lt (r := r2) (r1.nd y).u.rc (r1.nd y).u.rk
    obtain ⟨t, ht⟩ := Int.eq_ofNat_of_zero_le (show 0 ≤ r2.find (r1.nd y).u.lc (r1.nd y).u.lk by omega)
    obtain ⟨q, hq⟩ := Int.eq_ofNat_of_zero_le (show 0 ≤ r2.find (r1.nd y).u.rc (r1.nd y).u.rk by omega)
    rw [ht, hq, h.lt h1 h2 (RS.find_id ht).1 (RS.find_id hq).1]
    have := h1.btwL y _ hy (h.img.find h1.ok ht)
    have := h1.btwR y _ hy (h.img.find h1.ok hq)
    omega
  have h2' := h2.laid hc hu hm
  obtain ⟨A, B, eo, es, ep⟩ := hc.place hu hm
  have L := laid1 r2 (r1.nd y).u
  have hus := us_laid L
  have hlen : (r2.laid (r1.nd y).u).l.length = r2.l.length + 1 := L.len
  have hmeu : ((r2.laid (r1.nd y).u).nd r2.l.length).u = (r1.nd y).u := by rw [L.me]; rfl
  refine ⟨hm, h2', fun x => if x = r2.l.length then y else f x, ?_⟩
  have hi : Img r1 (r2.laid (r1.nd y).u) (fun x => if x = r2.l.length then y else f x) := fun x hx => by
    show (if x = r2.l.length then y else f x) < _ ∧ (r1.nd (if x = r2.l.length then y else f x)).u = _
    rw [hlen] at hx
    by_cases e : x = r2.l.length
    · rw [if_pos e, e, hmeu]; exact ⟨hy, rfl⟩
    · rw [if_neg e, (L.old x (by omega)).1]; exact h.img x (by omega)
  have hR : ∀ x, x < r2.l.length + 1 → RgtOk r2 ((r2.laid (r1.nd y).u).nd x).u := fun x hx => by
    by_cases e : x = r2.l.length
    · rw [e, hmeu]; exact hm.right
    · rw [(L.old x (by omega)).1]; exact h2.ok.rgt x (by omega)
  refine ⟨hi, hi.order h1 h2' fun a b ha hb => ?_⟩
  rw [hlen] at ha hb
  rw [RS.farther_eq, RS.farther_eq, fart_more h2.ok.inv eo es hus (hR a ha) (hR b hb), h.fart h1 h2 (hR a ha) (hR b hb), (hi a (by omega)).2, (hi b (by omega)).2]
theorem Sub.zero : Sub r1 .zero f := ⟨fun x h => absurd h (Nat.not_lt_zero _), by
  have : ∀ y, inI f 0 y = false := fun y => rfl
  show [] = List.filter (inI f 0) r1.order
  symm
  rw [List.filter_eq_nil_iff]
  intro y _
  rw [this]; simp⟩
/-- r2 has them all: the same units in the same order. -/
theorem Sub.full (h : Sub r1 r2 f) (h1 : TOk r1) (h2 : TOk r2) (hl : r1.l.length ≤ r2.l.length) : r2.order.map (fun x => (r2.nd x).u) = r1.order.map fun x => (r1.nd x).u := by
  have e1 : r2.order.map (fun x => (r2.nd x).u) = (r2.order.map f).map fun x => (r1.nd x).u := by
    rw [List.map_map]
    exact List.map_congr_left fun x hx => ((h.img x (h2.ok.inv.lt x hx)).2).symm
  rw [e1, h.ord]
  have hlen : (r1.order.filter (inI f r2.l.length)).length = r2.l.length := by rw [← h.ord, List.length_map, h2.ok.inv.len]
  have hle := List.length_filter_le (inI f r2.l.length) r1.order
  rw [h1.ok.inv.len] at hle
  have : r1.order.filter (inI f r2.l.length) = r1.order := by
    rw [List.filter_eq_self]
    exact List.length_filter_eq_length_iff.1 (by rw [hlen, h1.ok.inv.len]; omega)
  rw [this]
end
end Go.Proofs.Ytnbphdmpbjahhaa
