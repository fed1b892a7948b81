/- Turns of ids, and their one form. Nothing here speaks of a program. -/
namespace Go.Proofs.YtodpdcflbnomgaaGreat
set_option linter.unusedVariables false

/-- A turn: client, from, to, how often. -/
structure Tn where
  c : Int
  f : Int
  t : Int
  n : Int
deriving DecidableEq, Inhabited
/-- A range. -/
structure Rg where
  c : Int
  f : Int
  t : Int
deriving DecidableEq, Inhabited

def topId : Int := 9007199254740991
def numOk (x : Int) : Bool := decide (1 ≤ x) && decide (x ≤ 9007199254740991)
def Rg.ok (r : Rg) : Bool := numOk r.c && (decide (1 ≤ r.f) && (decide (r.f < r.t) && decide (r.t ≤ 9007199254740992)))
def Rg.tn (r : Rg) : Tn := ⟨r.c, r.f, r.t, 1⟩
def Tn.rg (x : Tn) : Rg := ⟨x.c, x.f, x.t⟩
def Tn.ok (x : Tn) : Bool := x.rg.ok && numOk x.n
def Rg.has (r : Rg) (c k : Int) : Bool := decide (r.c = c) && (decide (r.f ≤ k) && decide (k < r.t))
def Tn.has (x : Tn) (c k : Int) : Bool := x.rg.has c k

/-- What a list tells of an id: the greatest turn of its right ones. -/
def turnOf : List Tn → Int → Int → Int
  | [], _, _ => 0
  | x :: l, c, k => if x.ok && x.has c k then max x.n (turnOf l c k) else turnOf l c k
/-- The first one that has it. -/
def val : List Tn → Int → Int → Int
  | [], _, _ => 0
  | x :: l, c, k => if x.has c k then x.n else val l c k
/-- May b stand behind a? -/
def follows (a b : Tn) : Bool := if a.c = b.c then (decide (a.t < b.f) || (decide (a.t = b.f) && decide (a.n ≠ b.n))) else decide (a.c < b.c)
/-- The one form. -/
def Canon : List Tn → Prop
  | [] => True
  | [x] => x.ok = true
  | x :: y :: l => x.ok = true ∧ follows x y = true ∧ Canon (y :: l)

theorem numOk_iff {x : Int} : numOk x = true ↔ 1 ≤ x ∧ x ≤ 9007199254740991 := by simp [numOk]
theorem Rg.ok_iff {r : Rg} : r.ok = true ↔ (1 ≤ r.c ∧ r.c ≤ 9007199254740991) ∧ 1 ≤ r.f ∧ r.f < r.t ∧ r.t ≤ 9007199254740992 := by simp [Rg.ok, numOk_iff]
theorem Tn.ok_iff {x : Tn} : x.ok = true ↔ (1 ≤ x.c ∧ x.c ≤ 9007199254740991) ∧ (1 ≤ x.f ∧ x.f < x.t ∧ x.t ≤ 9007199254740992) ∧ 1 ≤ x.n ∧ x.n ≤ 9007199254740991 := by
  simp [Tn.ok, Rg.ok_iff, numOk_iff, Tn.rg, and_assoc]
theorem Tn.has_iff {x : Tn} {c k : Int} : x.has c k = true ↔ x.c = c ∧ x.f ≤ k ∧ k < x.t := by
  unfold Tn.has Rg.has
  rw [Bool.and_eq_true, Bool.and_eq_true, decide_eq_true_iff, decide_eq_true_iff, decide_eq_true_iff]
  exact Iff.rfl
theorem Tn.has_not {x : Tn} {c k : Int} : x.has c k = false ↔ ¬ (x.c = c ∧ x.f ≤ k ∧ k < x.t) := by rw [← Tn.has_iff]; simp
theorem follows_iff {a b : Tn} : follows a b = true ↔ a.c < b.c ∨ (a.c = b.c ∧ (a.t < b.f ∨ (a.t = b.f ∧ a.n ≠ b.n))) := by
  unfold follows
  split
  · rename_i h; simp [h]
  · rename_i h; simp [h]
/-- Ends ahead of where the other begins. -/
def Bef (a b : Tn) : Prop := a.c < b.c ∨ (a.c = b.c ∧ a.t ≤ b.f)

theorem Canon.ok {x : Tn} {l : List Tn} (h : Canon (x :: l)) : x.ok = true := by
  cases l with
  | nil => exact h
  | cons y l => exact h.1
theorem Canon.tail {x : Tn} {l : List Tn} (h : Canon (x :: l)) : Canon l := by
  cases l with
  | nil => trivial
  | cons y l => exact h.2.2
theorem Canon.bef {x : Tn} {l : List Tn} (h : Canon (x :: l)) : ∀ y ∈ l, Bef x y := by
  induction l generalizing x with
  | nil => intro y hy; cases hy
  | cons z l ih =>
    intro y hy
    have h1 := follows_iff.1 h.2.1
    rcases List.mem_cons.1 hy with rfl | hy
    · unfold Bef; omega
    · have h2 := ih h.2.2 y hy
      have h3 := Tn.ok_iff.1 h.2.2.ok
      unfold Bef at *; omega
theorem Canon.oks {l : List Tn} (h : Canon l) : ∀ y ∈ l, y.ok = true := by
  induction l with
  | nil => intro y hy; cases hy
  | cons x l ih =>
    intro y hy
    rcases List.mem_cons.1 hy with rfl | hy
    · exact h.ok
    · exact ih h.tail y hy
theorem val_zero {l : List Tn} {c k : Int} (h : ∀ y ∈ l, y.has c k = false) : val l c k = 0 := by
  induction l with
  | nil => rfl
  | cons x l ih =>
    unfold val
    rw [h x List.mem_cons_self]
    exact ih fun y hy => h y (List.mem_cons_of_mem _ hy)
/-- Nothing lies ahead of where a list in its form begins. -/
theorem Canon.ahead {x : Tn} {l : List Tn} (h : Canon (x :: l)) {c k : Int} (hk : c < x.c ∨ (c = x.c ∧ k < x.f)) : val (x :: l) c k = 0 := by
  refine val_zero fun y hy => Tn.has_not.2 ?_
  rcases List.mem_cons.1 hy with rfl | hy
  · omega
  · have h1 := h.bef y hy
    have h2 := Tn.ok_iff.1 h.ok
    unfold Bef at h1; omega
theorem Canon.tail_zero {x : Tn} {l : List Tn} (h : Canon (x :: l)) {c k : Int} (hk : x.has c k = true) : val l c k = 0 := by
  refine val_zero fun y hy => Tn.has_not.2 ?_
  have h1 := h.bef y hy
  have h2 := Tn.has_iff.1 hk
  unfold Bef at h1; omega
theorem Canon.val_pos {l : List Tn} (h : Canon l) (c k : Int) : 0 ≤ val l c k ∧ val l c k ≤ 9007199254740991 := by
  induction l with
  | nil => exact ⟨Int.le_refl _, by simp [val]⟩
  | cons x l ih =>
    unfold val
    split
    · have := Tn.ok_iff.1 h.ok; omega
    · exact ih h.tail
theorem Canon.turnOf {l : List Tn} (h : Canon l) (c k : Int) : turnOf l c k = val l c k := by
  induction l with
  | nil => rfl
  | cons x l ih =>
    unfold YtodpdcflbnomgaaGreat.turnOf val
    rw [h.ok, ih h.tail]
    simp only [Bool.true_and]
    split
    · rename_i hh
      rw [h.tail_zero hh]
      have := Tn.ok_iff.1 h.ok
      omega
    · rfl
/-- Behind the end of the first one its own turn is not told. -/
theorem Canon.at_end {x : Tn} {l : List Tn} (h : Canon (x :: l)) : val l x.c x.t ≠ x.n := by
  have hx := Tn.ok_iff.1 h.ok
  cases l with
  | nil => simp [val]; omega
  | cons y l =>
    have h1 := follows_iff.1 h.2.1
    by_cases hy : y.has x.c x.t = true
    · have h2 := Tn.has_iff.1 hy
      unfold val; rw [if_pos hy]; omega
    · have h2 := Tn.has_not.1 (by simpa using hy)
      have h3 := Tn.ok_iff.1 h.2.2.ok
      rw [h.tail.ahead (by omega)]; omega
/-- A list in its form is ruled by what it tells. -/
theorem Canon.eq {l m : List Tn} (hl : Canon l) (hm : Canon m) (h : ∀ c k, val l c k = val m c k) : l = m := by
  induction l generalizing m with
  | nil =>
    cases m with
    | nil => rfl
    | cons y m =>
      have h1 := Tn.ok_iff.1 hm.ok
      have h2 := h y.c y.f
      have h3 : y.has y.c y.f = true := Tn.has_iff.2 ⟨rfl, Int.le_refl _, by omega⟩
      rw [val, val, if_pos h3] at h2; omega
  | cons x l ih =>
    have hx := Tn.ok_iff.1 hl.ok
    have x3 : x.has x.c x.f = true := Tn.has_iff.2 ⟨rfl, Int.le_refl _, by omega⟩
    cases m with
    | nil => have h2 := h x.c x.f; rw [val, val, if_pos x3] at h2; omega
    | cons y m =>
      have hy := Tn.ok_iff.1 hm.ok
      have y3 : y.has y.c y.f = true := Tn.has_iff.2 ⟨rfl, Int.le_refl _, by omega⟩
      have ex := h x.c x.f
      have ey := h y.c y.f
      have hc : x.c = y.c ∧ x.f = y.f := by
        rcases (by omega : (x.c < y.c ∨ (x.c = y.c ∧ x.f < y.f)) ∨ (y.c < x.c ∨ (y.c = x.c ∧ y.f < x.f)) ∨ (x.c = y.c ∧ x.f = y.f)) with g | g | g
        · rw [hm.ahead g, val, if_pos x3] at ex; omega
        · rw [hl.ahead g] at ey; rw [val, if_pos y3] at ey; omega
        · exact g
      have hn : x.n = y.n := by
        rw [val, if_pos x3, hc.1, hc.2, val, if_pos y3] at ex; exact ex
      have ht : x.t = y.t := by
        rcases (by omega : x.t < y.t ∨ y.t < x.t ∨ x.t = y.t) with g | g | g
        · have e := h x.c x.t
          have a : x.has x.c x.t = false := Tn.has_not.2 (by omega)
          have b : y.has x.c x.t = true := Tn.has_iff.2 (by omega)
          rw [val, a, val, if_pos b] at e
          exact absurd (e.trans hn.symm) hl.at_end
        · have e := h y.c y.t
          have a : y.has y.c y.t = false := Tn.has_not.2 (by omega)
          have b : x.has y.c y.t = true := Tn.has_iff.2 (by omega)
          rw [val, if_pos b, val, a] at e
          exact absurd (e.symm.trans hn) hm.at_end
        · exact g
      have hxy : x = y := by
        cases x; cases y; simp only [Tn.mk.injEq]; exact ⟨hc.1, hc.2, ht, hn⟩
      subst hxy
      rw [ih hl.tail hm.tail]
      intro c k
      by_cases g : x.has c k = true
      · rw [hl.tail_zero g, hm.tail_zero g]
      · have e := h c k
        rw [val, if_neg g, val, if_neg g] at e; exact e

/-- l is THE list that tells F. -/
def Form (l : List Tn) (F : Int → Int → Int) : Prop := Canon l ∧ ∀ c k, val l c k = F c k
theorem Form.eq {l m : List Tn} {F G : Int → Int → Int} (hl : Form l F) (hm : Form m G) (h : ∀ c k, F c k = G c k) : l = m :=
  hl.1.eq hm.1 fun c k => by rw [hl.2, hm.2, h]
theorem turnOf_append (a b : List Tn) (c k : Int) : turnOf (a ++ b) c k = max (turnOf a c k) (turnOf b c k) := by
  have hp : ∀ b : List Tn, 0 ≤ turnOf b c k := by
    intro b
    induction b with
    | nil => exact Int.le_refl _
    | cons x b ih =>
      unfold turnOf
      split
      · omega
      · exact ih
  induction a with
  | nil => have := hp b; simp [turnOf]; omega
  | cons x a ih =>
    rw [List.cons_append, turnOf, turnOf, ih]
    split <;> omega
theorem turnOf_pos (b : List Tn) (c k : Int) : 0 ≤ turnOf b c k ∧ turnOf b c k ≤ 9007199254740991 := by
  induction b with
  | nil => exact ⟨Int.le_refl _, by simp [turnOf]⟩
  | cons x b ih =>
    unfold turnOf
    split
    · rename_i h; simp at h; have := Tn.ok_iff.1 h.1; omega
    · exact ih
theorem turnOf_perm {a b : List Tn} (h : a.Perm b) (c k : Int) : turnOf a c k = turnOf b c k := by
  induction h with
  | nil => rfl
  | cons x _ ih => simp only [turnOf, ih]
  | swap x y l => simp only [turnOf]; split <;> split <;> omega
  | trans _ _ h1 h2 => rw [h1, h2]
/-- l with t behind it. -/
def lay : List Tn → Tn → List Tn
  | [], t => if t.n = 0 then [] else [t]
  | [x], t => if t.n = 0 then [x] else if follows x t then [x, t] else [⟨x.c, x.f, t.t, x.n⟩]
  | x :: y :: l, t => x :: lay (y :: l) t
theorem lay_zero (l : List Tn) (t : Tn) (h : t.n = 0) : lay l t = l := by
  induction l with
  | nil => simp [lay, h]
  | cons x l ih =>
    cases l with
    | nil => simp [lay, h]
    | cons y l => rw [lay, ih]
theorem lay_last (l : List Tn) (x t : Tn) : lay (l ++ [x]) t = l ++ lay [x] t := by
  induction l with
  | nil => rfl
  | cons y l ih =>
    cases l with
    | nil => rfl
    | cons z l =>
      have e : lay (y :: (z :: l) ++ [x]) t = y :: lay (z :: l ++ [x]) t := rfl
      rw [e, ih]; rfl
theorem lay_head (x : Tn) (l : List Tn) (t : Tn) : ∃ x' l', lay (x :: l) t = x' :: l' ∧ x'.c = x.c ∧ x'.f = x.f ∧ x'.n = x.n ∧ (l ≠ [] → x'.t = x.t) := by
  cases l with
  | nil =>
    unfold lay
    split
    · exact ⟨_, _, rfl, rfl, rfl, rfl, fun _ => rfl⟩
    · split
      · exact ⟨_, _, rfl, rfl, rfl, rfl, fun _ => rfl⟩
      · exact ⟨_, _, rfl, rfl, rfl, rfl, fun h => absurd rfl h⟩
  | cons y l => exact ⟨_, _, rfl, rfl, rfl, rfl, fun _ => rfl⟩
theorem Canon.lay {l : List Tn} {t : Tn} (h : Canon l) (hb : ∀ y ∈ l, Bef y t) (ht : t.n ≠ 0 → t.ok = true) :
    Canon (lay l t) ∧ (∀ c k, val (YtodpdcflbnomgaaGreat.lay l t) c k = val l c k + if t.has c k then t.n else 0) ∧ ∀ y ∈ YtodpdcflbnomgaaGreat.lay l t, y ∈ l ∨ (y.c = t.c ∧ y.t = t.t) := by
  by_cases hn : t.n = 0
  · rw [lay_zero l t hn]
    refine ⟨h, fun c k => ?_, fun y hy => .inl hy⟩
    rw [hn]; split <;> omega
  · have hok := ht hn
    have ho := Tn.ok_iff.1 hok
    induction l with
    | nil =>
      unfold YtodpdcflbnomgaaGreat.lay; rw [if_neg hn]
      refine ⟨hok, fun c k => ?_, fun y hy => .inr ?_⟩
      · simp only [val]; split <;> omega
      · rcases List.mem_singleton.1 hy with rfl; exact ⟨rfl, rfl⟩
    | cons x l ih =>
      have hx := Tn.ok_iff.1 h.ok
      cases l with
      | nil =>
        have hbx := hb x List.mem_cons_self
        unfold Bef at hbx
        unfold YtodpdcflbnomgaaGreat.lay; rw [if_neg hn]
        split
        · rename_i hf
          refine ⟨⟨h, hf, hok⟩, fun c k => ?_, fun y hy => ?_⟩
          · simp only [val]
            by_cases a : x.has c k = true
            · have a1 := Tn.has_iff.1 a
              have b : t.has c k = false := Tn.has_not.2 (by omega)
              simp [a, b]
            · simp [a]
          · rcases List.mem_cons.1 hy with rfl | hy
            · exact .inl List.mem_cons_self
            · rcases List.mem_singleton.1 hy with rfl; exact .inr ⟨rfl, rfl⟩
        · rename_i hf
          have hf2 : ¬ (x.c < t.c ∨ (x.c = t.c ∧ (x.t < t.f ∨ (x.t = t.f ∧ x.n ≠ t.n)))) := fun e => hf (follows_iff.2 e)
          have e1 : x.c = t.c := by omega
          have e2 : x.t = t.f := by omega
          have e3 : x.n = t.n := by omega
          refine ⟨Tn.ok_iff.2 (by simp only; omega), fun c k => ?_, fun y hy => ?_⟩
          · simp only [val]
            by_cases a : x.has c k = true
            · have a1 := Tn.has_iff.1 a
              have b : t.has c k = false := Tn.has_not.2 (by omega)
              have d : (⟨x.c, x.f, t.t, x.n⟩ : Tn).has c k = true := Tn.has_iff.2 (by simp only; omega)
              simp [a, b, d]
            · have a1 := Tn.has_not.1 (by simpa using a)
              by_cases b : t.has c k = true
              · have b1 := Tn.has_iff.1 b
                have d : (⟨x.c, x.f, t.t, x.n⟩ : Tn).has c k = true := Tn.has_iff.2 (by simp only; omega)
                rw [if_pos d, if_neg a, if_pos b]; omega
              · have b1 := Tn.has_not.1 (by simpa using b)
                have d : (⟨x.c, x.f, t.t, x.n⟩ : Tn).has c k = false := Tn.has_not.2 (by simp only; omega)
                simp [a, b, d]
          · rcases List.mem_singleton.1 hy with rfl; exact .inr ⟨e1, rfl⟩
      | cons y l =>
        obtain ⟨i1, i2, i3⟩ := ih h.2.2 (fun z hz => hb z (List.mem_cons_of_mem _ hz))
        obtain ⟨y', l', e, e1, e2, e3, e4⟩ := lay_head y l t
        have hf := follows_iff.1 h.2.1
        rw [YtodpdcflbnomgaaGreat.lay]
        refine ⟨?_, fun c k => ?_, fun z hz => ?_⟩
        · rw [e] at i1 ⊢
          exact ⟨h.ok, follows_iff.2 (by rw [e1, e2, e3]; exact hf), i1⟩
        · rw [val, val, i2]
          by_cases a : x.has c k = true
          · have a1 := Tn.has_iff.1 a
            have hbx := hb x List.mem_cons_self
            unfold Bef at hbx
            have b : t.has c k = false := Tn.has_not.2 (by omega)
            simp [a, b]
          · simp [a]
        · rcases List.mem_cons.1 hz with rfl | hz
          · exact .inl List.mem_cons_self
          · rcases i3 z hz with g | g
            · exact .inl (List.mem_cons_of_mem _ g)
            · exact .inr g

/-- A' is A without the clocks k to to - 1 of c, of all of which A told n. -/
structure Cutt (A A' : List Tn) (c k to n : Int) : Prop where
  canon : Canon A'
  inn : ∀ k', k ≤ k' → k' < to → val A c k' = n ∧ val A' c k' = 0
  out : ∀ c' k', ¬ (c' = c ∧ k ≤ k' ∧ k' < to) → val A' c' k' = val A c' k'
  aft : ∀ y ∈ A', c < y.c ∨ (c = y.c ∧ to ≤ y.f)
  old : ∀ y ∈ A', ∃ a ∈ A, a.c = y.c ∧ a.f ≤ y.f
/-- What the heads of two lists begin. -/
theorem Cutt.skip {A : List Tn} (h : Canon A) {c k to : Int} (ha : ∀ x l, A = x :: l → c < x.c ∨ (c = x.c ∧ to ≤ x.f)) : Cutt A A c k to 0 := by
  cases A with
  | nil => exact ⟨h, fun _ _ _ => ⟨rfl, rfl⟩, fun _ _ _ => rfl, fun y hy => (by cases hy), fun y hy => (by cases hy)⟩
  | cons x l =>
    have hx := ha x l rfl
    have h2 := Tn.ok_iff.1 h.ok
    have hz : ∀ k', k ≤ k' → k' < to → val (x :: l) c k' = 0 := fun k' _ h2 => h.ahead (by omega)
    refine ⟨h, fun k' h1 h2 => ⟨hz k' h1 h2, hz k' h1 h2⟩, fun _ _ _ => rfl, fun y hy => ?_, fun y hy => ⟨y, hy, rfl, Int.le_refl _⟩⟩
    rcases List.mem_cons.1 hy with rfl | hy
    · exact hx
    · have := h.bef y hy
      unfold Bef at this; omega
/-- What is left of a list whose first one is cut at to. -/
def cutL (x : Tn) (l : List Tn) (to : Int) : List Tn := if to = x.t then l else ⟨x.c, to, x.t, x.n⟩ :: l
theorem Cutt.cut {x : Tn} {l : List Tn} (h : Canon (x :: l)) {to : Int} (h1 : x.f < to) (h2 : to ≤ x.t) : Cutt (x :: l) (cutL x l to) x.c x.f to x.n := by
  have hx := Tn.ok_iff.1 h.ok
  unfold cutL
  split
  · rename_i e
    refine ⟨h.tail, fun k' a b => ?_, fun c' k' a => ?_, fun y hy => ?_, fun y hy => ⟨y, List.mem_cons_of_mem _ hy, rfl, Int.le_refl _⟩⟩
    · have : x.has x.c k' = true := Tn.has_iff.2 (by omega)
      exact ⟨by rw [val, if_pos this], h.tail_zero this⟩
    · have : x.has c' k' = false := Tn.has_not.2 (by omega)
      rw [val, this]; rfl
    · have := h.bef y hy
      unfold Bef at this; omega
  · rename_i e
    have hc : Canon (⟨x.c, to, x.t, x.n⟩ :: l) := by
      cases l with
      | nil => exact Tn.ok_iff.2 (by simp only; omega)
      | cons y l => exact ⟨Tn.ok_iff.2 (by simp only; omega), follows_iff.2 (by have := follows_iff.1 h.2.1; simpa using this), h.2.2⟩
    refine ⟨hc, fun k' a b => ?_, fun c' k' a => ?_, fun y hy => ?_, fun y hy => ?_⟩
    · have : x.has x.c k' = true := Tn.has_iff.2 (by omega)
      exact ⟨by rw [val, if_pos this], hc.ahead (.inr ⟨rfl, b⟩)⟩
    · rw [val, val]
      by_cases g : x.has c' k' = true
      · have g1 := Tn.has_iff.1 g
        have g2 : (⟨x.c, to, x.t, x.n⟩ : Tn).has c' k' = true := Tn.has_iff.2 (by simp only; omega)
        simp [g, g2]
      · have g1 := Tn.has_not.1 (by simpa using g)
        have g2 : (⟨x.c, to, x.t, x.n⟩ : Tn).has c' k' = false := Tn.has_not.2 (by simp only; omega)
        simp [g, g2]
    · rcases List.mem_cons.1 hy with rfl | hy
      · exact .inr ⟨rfl, Int.le_refl _⟩
      · have := h.bef y hy
        unfold Bef at this; omega
    · rcases List.mem_cons.1 hy with rfl | hy
      · exact ⟨x, List.mem_cons_self, rfl, by simp only; omega⟩
      · exact ⟨y, List.mem_cons_of_mem _ hy, rfl, Int.le_refl _⟩

/-- A pick of two turns. -/
structure Pick (p : Int → Int → Int) : Prop where
  none : p 0 0 = 0
  fits : ∀ x y, 0 ≤ x → x ≤ 9007199254740991 → 0 ≤ y → y ≤ 9007199254740991 → 0 ≤ p x y ∧ p x y ≤ 9007199254740991
/-- Two lists blended so far. -/
structure Blend (p : Int → Int → Int) (A0 B0 out A B : List Tn) : Prop where
  ca : Canon A
  cb : Canon B
  co : Canon out
  ba : ∀ y ∈ out, ∀ a ∈ A, Bef y a
  bb : ∀ y ∈ out, ∀ a ∈ B, Bef y a
  tells : ∀ c k, p (val A0 c k) (val B0 c k) = val out c k + p (val A c k) (val B c k)
theorem Blend.start {p : Int → Int → Int} {A B : List Tn} (ha : Canon A) (hb : Canon B) : Blend p A B [] A B :=
  ⟨ha, hb, trivial, fun _ h => (by cases h), fun _ h => (by cases h), fun _ _ => by simp [val]⟩
theorem Blend.form {p : Int → Int → Int} (hp : Pick p) {A0 B0 out : List Tn} (h : Blend p A0 B0 out [] []) : Form out fun c k => p (val A0 c k) (val B0 c k) :=
  ⟨h.co, fun c k => by have := h.tells c k; simp only [val, hp.none] at this; simp only; omega⟩
theorem Blend.step {p : Int → Int → Int} (hp : Pick p) {A0 B0 out A B A' B' : List Tn} (h : Blend p A0 B0 out A B) {c k to n m : Int} (hc : 1 ≤ c ∧ c ≤ 9007199254740991) (hk : 1 ≤ k ∧ k < to ∧ to ≤ 9007199254740992)
    (hs : (∃ x l, A = x :: l ∧ x.c = c ∧ x.f = k) ∨ ∃ x l, B = x :: l ∧ x.c = c ∧ x.f = k) (hA : Cutt A A' c k to n) (hB : Cutt B B' c k to m) : Blend p A0 B0 (lay out ⟨c, k, to, p n m⟩) A' B' := by
  have hn : 0 ≤ n ∧ n ≤ 9007199254740991 := by have := (hA.inn k (Int.le_refl _) hk.2.1).1; have := h.ca.val_pos c k; omega
  have hm : 0 ≤ m ∧ m ≤ 9007199254740991 := by have := (hB.inn k (Int.le_refl _) hk.2.1).1; have := h.cb.val_pos c k; omega
  have hpn := hp.fits n m hn.1 hn.2 hm.1 hm.2
  have hbef : ∀ y ∈ out, Bef y ⟨c, k, to, p n m⟩ := by
    intro y hy
    rcases hs with ⟨x, l, e, e1, e2⟩ | ⟨x, l, e, e1, e2⟩
    · have := h.ba y hy x (by rw [e]; exact List.mem_cons_self)
      unfold Bef at *; simp only; omega
    · have := h.bb y hy x (by rw [e]; exact List.mem_cons_self)
      unfold Bef at *; simp only; omega
  obtain ⟨l1, l2, l3⟩ := h.co.lay hbef (fun hne => Tn.ok_iff.2 (by simp only at hne ⊢; omega))
  refine ⟨hA.canon, hB.canon, l1, fun y hy a ha => ?_, fun y hy a ha => ?_, fun c' k' => ?_⟩
  · rcases l3 y hy with g | g
    · obtain ⟨a', ha', e1, e2⟩ := hA.old a ha
      have := h.ba y g a' ha'
      unfold Bef at *; omega
    · have := hA.aft a ha
      unfold Bef; simp only at g; omega
  · rcases l3 y hy with g | g
    · obtain ⟨a', ha', e1, e2⟩ := hB.old a ha
      have := h.bb y g a' ha'
      unfold Bef at *; omega
    · have := hB.aft a ha
      unfold Bef; simp only at g; omega
  · rw [h.tells, l2]
    by_cases g : c' = c ∧ k ≤ k' ∧ k' < to
    · obtain ⟨rfl, g1, g2⟩ := g
      have a1 := hA.inn k' g1 g2
      have b1 := hB.inn k' g1 g2
      have t1 : (⟨c', k, to, p n m⟩ : Tn).has c' k' = true := Tn.has_iff.2 ⟨rfl, g1, g2⟩
      rw [a1.1, b1.1, a1.2, b1.2, hp.none, if_pos t1]; simp only; omega
    · have t1 : (⟨c, k, to, p n m⟩ : Tn).has c' k' = false := Tn.has_not.2 (by simp only; omega)
      rw [hA.out c' k' g, hB.out c' k' g, t1]; simp

/-- Two lists tell alike. -/
theorem Form.of {l : List Tn} {F G : Int → Int → Int} (h : Form l F) (e : ∀ c k, F c k = G c k) : Form l G := ⟨h.1, fun c k => by rw [h.2, e]⟩

/-- Ranges of one list, as turns of 1. -/
def tns (l : List Rg) : List Tn := l.map Rg.tn
theorem tns_cons (x : Rg) (l : List Rg) : tns (x :: l) = x.tn :: tns l := rfl
theorem tns_append (a b : List Rg) : tns (a ++ b) = tns a ++ tns b := List.map_append
theorem tns_inj {a b : List Rg} (h : tns a = tns b) : a = b := by
  have : ∀ l : List Rg, (tns l).map Tn.rg = l := fun l => by unfold tns; rw [List.map_map]; exact List.map_id l
  rw [← this a, h, this b]
theorem Rg.tn_ok {r : Rg} : r.tn.ok = r.ok := by simp [Tn.ok, Rg.tn, Tn.rg, numOk]
theorem Rg.tn_has {r : Rg} {c k : Int} : r.tn.has c k = r.has c k := rfl
theorem Rg.has_iff {x : Rg} {c k : Int} : x.has c k = true ↔ x.c = c ∧ x.f ≤ k ∧ k < x.t := by
  unfold Rg.has
  rw [Bool.and_eq_true, Bool.and_eq_true, decide_eq_true_iff, decide_eq_true_iff, decide_eq_true_iff]
/-- Ranges joined, from a first one on. -/
def mergeFrom : Rg → List Rg → List Rg
  | w, [] => [w]
  | w, r :: l => if r.c ≠ w.c ∨ w.t < r.f then w :: mergeFrom r l else mergeFrom ⟨w.c, w.f, max w.t r.t⟩ l
def mergeR : List Rg → List Rg
  | [] => []
  | w :: l => mergeFrom w l
/-- By clients, then by where they begin. -/
def Rg.le (a b : Rg) : Prop := a.c < b.c ∨ (a.c = b.c ∧ a.f ≤ b.f)
theorem mergeFrom_head (w : Rg) (l : List Rg) : ∃ t m, mergeFrom w l = ⟨w.c, w.f, t⟩ :: m := by
  induction l generalizing w with
  | nil => exact ⟨_, _, rfl⟩
  | cons r l ih =>
    unfold mergeFrom
    split
    · exact ⟨_, _, rfl⟩
    · exact ih _
theorem mergeFrom_form (w : Rg) (l : List Rg) (hw : w.ok = true) (hl : ∀ r ∈ l, r.ok = true) (hs : (w :: l).Pairwise Rg.le) : Form (tns (mergeFrom w l)) (turnOf (tns (w :: l))) := by
  induction l generalizing w with
  | nil =>
    have hc : Canon (tns [w]) := by show w.tn.ok = true; rw [Rg.tn_ok]; exact hw
    exact ⟨hc, fun c k => (hc.turnOf c k).symm⟩
  | cons r l ih =>
    have hr := hl r List.mem_cons_self
    have hl' : ∀ r ∈ l, r.ok = true := fun x hx => hl x (List.mem_cons_of_mem _ hx)
    have h1 := Rg.ok_iff.1 hw
    have h2 := Rg.ok_iff.1 hr
    have hle : Rg.le w r := (List.pairwise_cons.1 hs).1 r List.mem_cons_self
    unfold mergeFrom
    split
    · rename_i hg
      obtain ⟨i1, i2⟩ := ih r hr hl' (List.pairwise_cons.1 hs).2
      obtain ⟨t, m, e⟩ := mergeFrom_head r l
      have hc : Canon (tns (w :: mergeFrom r l)) := by
        rw [e] at i1 ⊢
        refine ⟨by rw [Rg.tn_ok]; exact hw, follows_iff.2 ?_, i1⟩
        unfold Rg.le at hle
        simp only [Rg.tn]; omega
      refine ⟨hc, fun c k => ?_⟩
      rw [← hc.turnOf, tns_cons, tns_cons, turnOf, turnOf, i1.turnOf, i2]
    · rename_i hg
      have hw' : (⟨w.c, w.f, max w.t r.t⟩ : Rg).ok = true := Rg.ok_iff.2 (by simp only; omega)
      have hs' : ((⟨w.c, w.f, max w.t r.t⟩ : Rg) :: l).Pairwise Rg.le := by
        refine List.pairwise_cons.2 ⟨fun x hx => ?_, (List.pairwise_cons.1 (List.pairwise_cons.1 hs).2).2⟩
        exact (List.pairwise_cons.1 hs).1 x (List.mem_cons_of_mem _ hx)
      refine (ih _ hw' hl' hs').of fun c k => ?_
      rw [tns_cons, tns_cons, tns_cons, turnOf, turnOf, turnOf, Rg.tn_ok, Rg.tn_ok, Rg.tn_ok, hw', hw, hr]
      simp only [Bool.true_and, Rg.tn_has]
      unfold Rg.le at hle
      have hp := turnOf_pos (tns l) c k
      by_cases a : w.has c k = true
      · have a1 := Rg.has_iff.1 a
        have d : (⟨w.c, w.f, max w.t r.t⟩ : Rg).has c k = true := Rg.has_iff.2 (by simp only; omega)
        rw [if_pos d, if_pos a]; simp only [Rg.tn]; split <;> omega
      · have a1 : ¬ (w.c = c ∧ w.f ≤ k ∧ k < w.t) := fun e => a (Rg.has_iff.2 e)
        by_cases b : r.has c k = true
        · have b1 := Rg.has_iff.1 b
          have d : (⟨w.c, w.f, max w.t r.t⟩ : Rg).has c k = true := Rg.has_iff.2 (by simp only; omega)
          rw [if_pos d, if_neg a, if_pos b]; simp only [Rg.tn]
        · have b1 : ¬ (r.c = c ∧ r.f ≤ k ∧ k < r.t) := fun e => b (Rg.has_iff.2 e)
          have d : ¬ (⟨w.c, w.f, max w.t r.t⟩ : Rg).has c k = true := fun e => by have := Rg.has_iff.1 e; simp only at this; omega
          rw [if_neg d, if_neg a, if_neg b]
theorem mergeR_form (l : List Rg) (hl : ∀ r ∈ l, r.ok = true) (hs : l.Pairwise Rg.le) : Form (tns (mergeR l)) (turnOf (tns l)) := by
  cases l with
  | nil => exact ⟨trivial, fun _ _ => rfl⟩
  | cons w l => exact mergeFrom_form w l (hl w List.mem_cons_self) (fun r hr => hl r (List.mem_cons_of_mem _ hr)) hs
theorem turnOf_filter (l : List Tn) (c k : Int) : turnOf (l.filter Tn.ok) c k = turnOf l c k := by
  induction l with
  | nil => rfl
  | cons x l ih =>
    by_cases h : x.ok = true
    · rw [List.filter_cons_of_pos h, turnOf, turnOf, ih]
    · rw [List.filter_cons_of_neg h, turnOf, ih]; simp [h]
theorem tns_filter (l : List Rg) : tns (l.filter Rg.ok) = (tns l).filter Tn.ok := by
  induction l with
  | nil => rfl
  | cons x l ih =>
    by_cases h : x.ok = true
    · rw [List.filter_cons_of_pos h, tns_cons, tns_cons, List.filter_cons_of_pos (by rw [Rg.tn_ok]; exact h), ih]
    · rw [List.filter_cons_of_neg h, tns_cons, List.filter_cons_of_neg (by rw [Rg.tn_ok]; exact h), ih]
/-- Right ranges, sorted, joined: the one form. -/
theorem clean_form {l s : List Rg} (hp : s.Perm (l.filter Rg.ok)) (hs : s.Pairwise Rg.le) : Form (tns (mergeR s)) (turnOf (tns l)) := by
  refine (mergeR_form s (fun r hr => ?_) hs).of fun c k => ?_
  · exact (List.mem_filter.1 (hp.subset hr)).2
  · have e : (tns s).Perm (tns (l.filter Rg.ok)) := hp.map Rg.tn
    rw [turnOf_perm e, tns_filter, turnOf_filter]
end Go.Proofs.YtodpdcflbnomgaaGreat
