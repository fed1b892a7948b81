/- Clocks of clients, and their one form. Nothing here speaks of a program. -/
import Derived.Test.YtdblfabbmpdoiaaGreatIdM
namespace Go.Proofs.YtdblfabbmpdoiaaGreat
set_option linter.unusedVariables false

/-- A client and a clock. -/
structure Ck where
  c : Int
  k : Int
deriving DecidableEq, Inhabited

/-- What it tells: a clock beyond all is the last one. -/
def Ck.cap (x : Ck) : Ck := ⟨x.c, min x.k 9007199254740991⟩
def Ck.ok (x : Ck) : Bool := numOk x.c && numOk x.k
/-- The greatest clock that a list tells of a client. -/
def atC : List Ck → Int → Int
  | [], _ => 0
  | x :: l, c => if x.c = c ∧ 1 ≤ c ∧ c ≤ 9007199254740991 then max (min x.k 9007199254740991) (atC l c) else atC l c
theorem Ck.ok_iff {x : Ck} : x.ok = true ↔ (1 ≤ x.c ∧ x.c ≤ 9007199254740991) ∧ 1 ≤ x.k ∧ x.k ≤ 9007199254740991 := by simp [Ck.ok, numOk_iff]
theorem Ck.ok_not {x : Ck} : x.ok = false ↔ ¬ ((1 ≤ x.c ∧ x.c ≤ 9007199254740991) ∧ 1 ≤ x.k ∧ x.k ≤ 9007199254740991) := by rw [← Ck.ok_iff]; simp
theorem atC_pos (l : List Ck) (c : Int) : 0 ≤ atC l c ∧ atC l c ≤ 9007199254740991 := by
  induction l with
  | nil => exact ⟨Int.le_refl _, by simp [atC]⟩
  | cons x l ih =>
    unfold atC
    split <;> omega
theorem atC_append (a b : List Ck) (c : Int) : atC (a ++ b) c = max (atC a c) (atC b c) := by
  induction a with
  | nil =>
    have := atC_pos b c
    show atC b c = max 0 (atC b c)
    omega
  | cons x a ih =>
    have e1 : atC (x :: a ++ b) c = if x.c = c ∧ 1 ≤ c ∧ c ≤ 9007199254740991 then max (min x.k 9007199254740991) (atC (a ++ b) c) else atC (a ++ b) c := rfl
    have e2 : atC (x :: a) c = if x.c = c ∧ 1 ≤ c ∧ c ≤ 9007199254740991 then max (min x.k 9007199254740991) (atC a c) else atC a c := rfl
    rw [e1, e2, ih]
    split <;> omega
theorem atC_perm {a b : List Ck} (h : a.Perm b) (c : Int) : atC a c = atC b c := by
  induction h with
  | nil => rfl
  | cons x _ ih => unfold atC; rw [ih]
  | swap x y l => simp only [atC]; split <;> split <;> omega
  | trans _ _ h1 h2 => exact h1.trans h2
theorem atC_none {l : List Ck} {c : Int} (h : ∀ x ∈ l, x.c ≠ c) : atC l c = 0 := by
  induction l with
  | nil => rfl
  | cons x l ih =>
    unfold atC
    rw [if_neg (fun e => h x List.mem_cons_self e.1)]
    exact ih fun y hy => h y (List.mem_cons_of_mem _ hy)
theorem atC_wrong {l : List Ck} {c : Int} (h : ¬ (1 ≤ c ∧ c ≤ 9007199254740991)) : atC l c = 0 := by
  induction l with
  | nil => rfl
  | cons x l ih =>
    unfold atC
    rw [if_neg (fun e => h e.2)]
    exact ih
theorem atC_one (x : Ck) (c : Int) : atC [x] c = if x.cap.ok = true ∧ x.c = c then x.cap.k else 0 := by
  have e : atC [x] c = if x.c = c ∧ 1 ≤ c ∧ c ≤ 9007199254740991 then max (min x.k 9007199254740991) 0 else 0 := rfl
  have ok := Ck.ok_iff (x := x.cap)
  have e1 : x.cap.c = x.c := rfl
  have e2 : x.cap.k = min x.k 9007199254740991 := rfl
  rw [e1, e2] at ok
  rw [e, e2]
  by_cases h : x.cap.ok = true
  · have := ok.1 h
    rw [h]
    simp only [true_and]
    split <;> split <;> omega
  · rw [if_neg (c := x.cap.ok = true ∧ x.c = c) (fun q => h q.1)]
    have : ¬ _ := fun q => h (ok.2 q)
    split <;> omega
/-- The one form, and what it tells. -/
structure VForm (l : List Ck) (F : Int → Int) : Prop where
  asc : l.Pairwise (fun a b => a.c < b.c)
  oks : ∀ x ∈ l, x.ok = true
  tells : ∀ c, atC l c = F c
theorem atC_mem {l : List Ck} (ha : l.Pairwise (fun a b => a.c < b.c)) (ho : ∀ x ∈ l, x.ok = true) {x : Ck} (hx : x ∈ l) : atC l x.c = x.k := by
  induction l with
  | nil => cases hx
  | cons y l ih =>
    obtain ⟨h1, h2⟩ := List.pairwise_cons.1 ha
    have oy := Ck.ok_iff.1 (ho y List.mem_cons_self)
    rcases List.mem_cons.1 hx with rfl | hx
    · unfold atC
      rw [if_pos ⟨rfl, oy.1⟩, atC_none fun z hz => by have := h1 z hz; omega]
      omega
    · have := h1 x hx
      unfold atC
      rw [if_neg (by omega)]
      exact ih h2 (fun z hz => ho z (List.mem_cons_of_mem _ hz)) hx
theorem VForm.mem {l : List Ck} {F : Int → Int} (h : VForm l F) {x : Ck} (hx : x ∈ l) : F x.c = x.k := by
  rw [← h.tells]; exact atC_mem h.asc h.oks hx
theorem form_eq {l m : List Ck} (hl : l.Pairwise (fun a b => a.c < b.c)) (ol : ∀ x ∈ l, x.ok = true) (hm : m.Pairwise (fun a b => a.c < b.c)) (om : ∀ x ∈ m, x.ok = true) (h : ∀ c, atC l c = atC m c) : l = m := by
  induction l generalizing m with
  | nil =>
    cases m with
    | nil => rfl
    | cons y m =>
      have h1 := atC_mem hm om (x := y) List.mem_cons_self
      have h2 := Ck.ok_iff.1 (om y List.mem_cons_self)
      rw [← h] at h1
      change 0 = y.k at h1
      omega
  | cons x l ih =>
    cases m with
    | nil =>
      have h1 := atC_mem hl ol (x := x) List.mem_cons_self
      have h2 := Ck.ok_iff.1 (ol x List.mem_cons_self)
      rw [h] at h1
      change 0 = x.k at h1
      omega
    | cons y m =>
      obtain ⟨l1, l2⟩ := List.pairwise_cons.1 hl
      obtain ⟨m1, m2⟩ := List.pairwise_cons.1 hm
      have ox := Ck.ok_iff.1 (ol x List.mem_cons_self)
      have oy := Ck.ok_iff.1 (om y List.mem_cons_self)
      have hx := atC_mem hl ol (x := x) List.mem_cons_self
      have hy := atC_mem hm om (x := y) List.mem_cons_self
      have ec : x.c = y.c := by
        rcases Int.lt_trichotomy x.c y.c with c | c | c
        · have : atC (y :: m) x.c = 0 := atC_none fun z hz => by
            rcases List.mem_cons.1 hz with rfl | hz
            · omega
            · have := m1 z hz; omega
          rw [← h, hx] at this; omega
        · exact c
        · have : atC (x :: l) y.c = 0 := atC_none fun z hz => by
            rcases List.mem_cons.1 hz with rfl | hz
            · omega
            · have := l1 z hz; omega
          rw [h, hy] at this; omega
      have ek : x.k = y.k := by rw [← hx, ← hy, h, ec]
      obtain ⟨xc, xk⟩ := x
      obtain ⟨yc, yk⟩ := y
      simp only at ec ek
      subst ec ek
      rw [ih l2 (fun z hz => ol z (List.mem_cons_of_mem _ hz)) m2 (fun z hz => om z (List.mem_cons_of_mem _ hz)) fun c => ?_]
      by_cases e : xc = c
      · subst e
        rw [atC_none fun z hz => by have := l1 z hz; simp only at this; omega, atC_none fun z hz => by have := m1 z hz; simp only at this; omega]
      · have := h c
        simp only [atC] at this
        rw [if_neg (fun q => e q.1), if_neg (fun q => e q.1)] at this
        exact this
theorem VForm.eq {l m : List Ck} {F G : Int → Int} (h : VForm l F) (k : VForm m G) (e : ∀ c, F c = G c) : l = m :=
  form_eq h.asc h.oks k.asc k.oks fun c => by rw [h.tells, k.tells, e]
theorem VForm.of {l : List Ck} {F G : Int → Int} (h : VForm l F) (e : ∀ c, F c = G c) : VForm l G := ⟨h.asc, h.oks, fun c => by rw [h.tells, e]⟩
theorem VForm.nil : VForm [] (atC []) := ⟨List.Pairwise.nil, (fun x hx => nomatch hx), fun c => rfl⟩
/-- One more that tells nothing. -/
theorem VForm.skip {out p : List Ck} {x : Ck} (h : VForm out (atC p)) (hx : x.cap.ok = false) : VForm out (atC (p ++ [x])) :=
  h.of fun c => by
    rw [atC_append, atC_one, hx]
    have := atC_pos p c
    simp only [Bool.false_eq_true, false_and, if_false]
    omega
/-- One more, of a client behind all that are there. -/
theorem VForm.push {out p : List Ck} {x : Ck} (h : VForm out (atC p)) (hx : x.cap.ok = true) (hl : ∀ y ∈ out, y.c < x.c) : VForm (out ++ [x.cap]) (atC (p ++ [x])) := by
  refine ⟨?_, ?_, fun c => ?_⟩
  · rw [List.pairwise_append]
    refine ⟨h.asc, List.pairwise_singleton _ _, fun a ha b hb => ?_⟩
    rw [List.mem_singleton] at hb
    subst hb
    exact hl a ha
  · intro y hy
    rcases List.mem_append.1 hy with hy | hy
    · exact h.oks y hy
    · rw [List.mem_singleton] at hy; subst hy; exact hx
  · have e : x.cap.cap = x.cap := by
      unfold Ck.cap
      simp only [Ck.mk.injEq, true_and]
      omega
    have ec : x.cap.c = x.c := rfl
    rw [atC_append, atC_append, h.tells, atC_one, atC_one, e, ec]
/-- One more, of the last client. -/
theorem VForm.again {out p : List Ck} {x y : Ck} (h : VForm (out ++ [y]) (atC p)) (hx : x.cap.ok = true) (e : y.c = x.c) : VForm (out ++ [⟨y.c, max y.k x.cap.k⟩]) (atC (p ++ [x])) := by
  have oy := Ck.ok_iff.1 (h.oks y (by simp))
  have ox := Ck.ok_iff.1 hx
  have hasc := List.pairwise_append.1 h.asc
  refine ⟨?_, ?_, fun c => ?_⟩
  · rw [List.pairwise_append]
    refine ⟨hasc.1, List.pairwise_singleton _ _, fun a ha b hb => ?_⟩
    rw [List.mem_singleton] at hb
    subst hb
    exact hasc.2.2 a ha y (by simp)
  · intro z hz
    rcases List.mem_append.1 hz with hz | hz
    · exact h.oks z (List.mem_append_left _ hz)
    · rw [List.mem_singleton] at hz; subst hz
      refine Ck.ok_iff.2 ⟨oy.1, ?_⟩
      simp only
      omega
  · have h1 := h.tells c
    rw [atC_append] at h1
    rw [atC_append, atC_append, ← h1, atC_one, atC_one y, atC_one x]
    have oz : (Ck.cap ⟨y.c, max y.k x.cap.k⟩).ok = true := by
      refine Ck.ok_iff.2 ⟨oy.1, ?_⟩
      unfold Ck.cap
      simp only
      have : x.cap.k = min x.k 9007199254740991 := rfl
      omega
    have oy' : y.cap.ok = true := by
      refine Ck.ok_iff.2 ⟨oy.1, ?_⟩
      unfold Ck.cap
      simp only
      omega
    have ez : (Ck.cap ⟨y.c, max y.k x.cap.k⟩).k = max y.k x.cap.k := by
      unfold Ck.cap at *
      simp only at *
      omega
    have ey : y.cap.k = y.k := by
      unfold Ck.cap
      simp only
      omega
    rw [oz, oy', hx, ez, ey, e]
    simp only [true_and]
    split <;> omega

/-- What a vector knows, as ranges. -/
def rngs (l : List Ck) : List Rg := l.map fun x => ⟨x.c, 1, x.k + 1⟩
def ind (F : Int → Int) (c k : Int) : Int := if 1 ≤ k ∧ k ≤ F c then 1 else 0
theorem rngs_len (l : List Ck) : (rngs l).length = l.length := by unfold rngs; simp
theorem rngs_val {l : List Ck} (ha : l.Pairwise (fun a b => a.c < b.c)) (ho : ∀ x ∈ l, x.ok = true) (c k : Int) : val (tns (rngs l)) c k = ind (atC l) c k := by
  induction l with
  | nil =>
    show (0 : Int) = ind (fun _ => 0) c k
    unfold ind
    simp only
    rw [if_neg (by omega)]
  | cons x l ih =>
    obtain ⟨h1, h2⟩ := List.pairwise_cons.1 ha
    have ih := ih h2 fun z hz => ho z (List.mem_cons_of_mem _ hz)
    have ox := Ck.ok_iff.1 (ho x List.mem_cons_self)
    have e : tns (rngs (x :: l)) = ⟨x.c, 1, x.k + 1, 1⟩ :: tns (rngs l) := rfl
    rw [e, val, ih]
    by_cases hc : x.c = c
    · subst hc
      have z : atC l x.c = 0 := atC_none fun z hz => by have := h1 z hz; omega
      have y : atC (x :: l) x.c = x.k := atC_mem ha ho List.mem_cons_self
      unfold ind
      rw [z, y]
      by_cases hk : 1 ≤ k ∧ k ≤ x.k
      · rw [if_pos (Tn.has_iff.2 ⟨rfl, hk.1, by simp only; omega⟩), if_pos hk]
      · rw [if_neg (fun q => hk (by have := Tn.has_iff.1 q; simp only at this; omega)), if_neg (by omega), if_neg hk]
    · rw [if_neg (fun q => hc (Tn.has_iff.1 q).1)]
      unfold ind
      rw [show atC (x :: l) c = atC l c from by rw [atC, if_neg (fun q => hc q.1)]]
theorem rngs_canon {l : List Ck} (ha : l.Pairwise (fun a b => a.c < b.c)) (ho : ∀ x ∈ l, x.ok = true) : Canon (tns (rngs l)) := by
  induction l with
  | nil => trivial
  | cons x l ih =>
    obtain ⟨h1, h2⟩ := List.pairwise_cons.1 ha
    have ih := ih h2 fun z hz => ho z (List.mem_cons_of_mem _ hz)
    have ox := Ck.ok_iff.1 (ho x List.mem_cons_self)
    have o : (⟨x.c, 1, x.k + 1, 1⟩ : Tn).ok = true := Tn.ok_iff.2 ⟨ox.1, by simp only; omega, by simp only; omega⟩
    cases l with
    | nil => exact o
    | cons y l => exact ⟨o, follows_iff.2 (.inl (h1 y List.mem_cons_self)), ih⟩
theorem VForm.ranges {l : List Ck} {F : Int → Int} (h : VForm l F) : Form (tns (rngs l)) (ind F) :=
  ⟨rngs_canon h.asc h.oks, fun c k => by rw [rngs_val h.asc h.oks]; unfold ind; rw [h.tells]⟩
/-- What is told of ids by a vector's ranges. -/
theorem VForm.turnOf {l : List Ck} {F : Int → Int} (h : VForm l F) (c k : Int) : YtdblfabbmpdoiaaGreat.turnOf (tns (rngs l)) c k = ind F c k := by
  rw [h.ranges.1.turnOf, h.ranges.2]
/-- Of each client the lesser one. -/
def meetC (a : List Ck) (G : Int → Int) : List Ck := (a.map fun x => (⟨x.c, min x.k (G x.c)⟩ : Ck)).filter (fun x => decide (1 ≤ x.k))
theorem meetC_form {a : List Ck} {F G : Int → Int} (h : VForm a F) (hG : ∀ c, 0 ≤ G c) : VForm (meetC a G) (fun c => min (F c) (G c)) := by
  have key : ∀ (a : List Ck), a.Pairwise (fun a b => a.c < b.c) → (∀ x ∈ a, x.ok = true) → (meetC a G).Pairwise (fun a b => a.c < b.c) ∧ (∀ x ∈ meetC a G, x.ok = true) ∧ ∀ c, atC (meetC a G) c = min (atC a c) (G c) := by
    intro a ha ho
    refine ⟨List.Pairwise.filter _ (List.pairwise_map.2 ha), fun x hx => ?_, fun c => ?_⟩
    · obtain ⟨h1, h2⟩ := List.mem_filter.1 hx
      obtain ⟨y, hy, rfl⟩ := List.mem_map.1 h1
      have oy := Ck.ok_iff.1 (ho y hy)
      simp only [decide_eq_true_eq] at h2
      exact Ck.ok_iff.2 ⟨oy.1, h2, by simp only; omega⟩
    · induction a with
      | nil =>
        have := hG c
        show (0 : Int) = min 0 (G c)
        omega
      | cons x a ih =>
        obtain ⟨h1, h2⟩ := List.pairwise_cons.1 ha
        have ih := ih h2 fun z hz => ho z (List.mem_cons_of_mem _ hz)
        have ox := Ck.ok_iff.1 (ho x List.mem_cons_self)
        have hg := hG x.c
        by_cases hc : x.c = c
        · subst hc
          have z : atC a x.c = 0 := atC_none fun z hz => by have := h1 z hz; omega
          have y : atC (x :: a) x.c = x.k := atC_mem ha ho List.mem_cons_self
          rw [y]
          rw [z] at ih
          unfold meetC at *
          rw [List.map_cons, List.filter_cons]
          split
          · rw [atC, if_pos ⟨rfl, ox.1⟩, ih]
            simp only at *
            omega
          · rename_i q
            simp only [decide_eq_true_eq] at q
            rw [ih]
            omega
        · rw [show atC (x :: a) c = atC a c from by rw [atC, if_neg (fun q => hc q.1)], ← ih]
          unfold meetC
          rw [List.map_cons, List.filter_cons]
          split
          · rw [atC, if_neg (fun q => hc q.1)]
          · rfl
  obtain ⟨h1, h2, h3⟩ := key a h.asc h.oks
  exact ⟨h1, h2, fun c => by rw [h3, h.tells]⟩
def unR (r : Rg) : Ck := ⟨r.c, r.t - 1⟩
theorem unR_rngs (l : List Ck) : (rngs l).map unR = l := by
  unfold rngs
  rw [List.map_map]
  have : unR ∘ (fun x : Ck => (⟨x.c, 1, x.k + 1⟩ : Rg)) = id := by
    funext x
    obtain ⟨c, k⟩ := x
    simp [unR]
  rw [this, List.map_id]
/-- Ranges that are those of a vector. -/
theorem rngs_of {out : List Rg} {H : Int → Int → Int} {m : List Ck} {F : Int → Int} (h : Form (tns out) H) (hm : VForm m F) (e : ∀ c k, H c k = ind F c k) : out = rngs m :=
  tns_inj (h.eq hm.ranges e)
theorem ind_min (F G : Int → Int) (c k : Int) : min (ind F c k) (ind G c k) = ind (fun c => min (F c) (G c)) c k := by
  unfold ind
  simp only
  split <;> split <;> split <;> omega
/-- What one lacks. -/
def lack (F G : Int → Int) (c k : Int) : Int := if 1 ≤ k ∧ F c < k ∧ k ≤ G c then 1 else 0
theorem lack_none {out : List Rg} {F G : Int → Int} (h : Form (tns out) (lack F G)) (hF : ∀ c, 0 ≤ F c) : out = [] ↔ ∀ c, G c ≤ F c := by
  constructor
  · intro e c
    subst e
    have := h.2 c (G c)
    have hf := hF c
    unfold lack at this
    change (0 : Int) = _ at this
    split at this
    · omega
    · omega
  · intro hl
    have hn : Form (tns []) (fun _ _ => 0) := ⟨trivial, fun c k => rfl⟩
    exact tns_inj (h.eq hn fun c k => by
      have := hl c
      unfold lack
      rw [if_neg (by omega)])
/-- Does b know all that a knows? -/
def inC (a b : List Ck) : Bool := a.all fun x => decide (atC a x.c ≤ atC b x.c)
theorem inC_iff {a b : List Ck} : inC a b = true ↔ ∀ c, atC a c ≤ atC b c := by
  unfold inC
  rw [List.all_eq_true]
  constructor
  · intro h c
    by_cases hx : ∃ x ∈ a, x.c = c
    · obtain ⟨x, hx, rfl⟩ := hx
      exact of_decide_eq_true (h x hx)
    · rw [atC_none fun x hx' e => hx ⟨x, hx', e⟩]
      exact (atC_pos b c).1
  · intro h x hx
    exact decide_eq_true (h x.c)
end Go.Proofs.YtdblfabbmpdoiaaGreat
