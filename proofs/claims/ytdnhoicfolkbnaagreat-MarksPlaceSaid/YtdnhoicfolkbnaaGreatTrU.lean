/- Package seq: the steps up, and the child over a spot (no Go in it). -/
import Derived.Test.YtdnhoicfolkbnaaGreatPart17
namespace Go.Proofs.YtdnhoicfolkbnaaGreat
set_option linter.unusedVariables false
set_option linter.unusedSimpArgs false

/-- The spot above one. -/
def parS (R : List Rn) (x : Sp) : Sp := if x.pos = 0 then (rn R x.run).par else ⟨x.run, x.pos - 1⟩
def upN (R : List Rn) : Nat → Sp → Sp
  | 0, x => x
  | k + 1, x => upN R k (parS R x)
theorem upN_add (R : List Rn) : ∀ (a b : Nat) (x : Sp), upN R (a + b) x = upN R b (upN R a x)
  | 0, b, x => by rw [Nat.zero_add]; rfl
  | a + 1, b, x => by rw [Nat.succ_add]; exact upN_add R a b (parS R x)
theorem upN_succ (R : List Rn) (k : Nat) (x : Sp) : upN R (k + 1) x = parS R (upN R k x) := upN_add R k 1 x
/-- What is so of runs: what the steps up rely on. -/
structure RunsOk (R : List Rn) : Prop where
  root : rn R 0 = .zero
  len : 0 < R.length
  par : ∀ r, 0 < r → r < R.length → (rn R r).par.run < r ∧ 0 ≤ (rn R r).par.pos ∧ ((rn R r).par.run = 0 → (rn R r).par = .zero)
  depth : ∀ r, 0 < r → r < R.length → (rn R r).depth = (rn R (rn R r).par.run).depth + 1
  far : ∀ r, 0 < r → r < R.length → ∃ k, upN R k (rn R r).par = (rn R r).far
/-- A spot of a run, or the root. -/
def SpV (R : List Rn) (x : Sp) : Prop := x.run < R.length ∧ 0 ≤ x.pos ∧ (x.run = 0 → x = .zero)
theorem RunsOk.parV {R : List Rn} (h : RunsOk R) {x : Sp} (hx : SpV R x) : SpV R (parS R x) ∧ (parS R x).run ≤ x.run ∧ (rn R (parS R x).run).depth ≤ (rn R x.run).depth := by
  obtain ⟨h1, h2, h3⟩ := hx
  unfold parS
  by_cases h0 : x.pos = 0
  · rw [if_pos h0]
    by_cases hr : x.run = 0
    · rw [hr, h.root]
      exact ⟨⟨h.len, Int.le_refl _, fun _ => rfl⟩, Nat.le_refl _, by rw [h.root]; exact Int.le_refl _⟩
    · obtain ⟨a, b, c⟩ := h.par x.run (by omega) h1
      have d := h.depth x.run (by omega) h1
      exact ⟨⟨by omega, b, c⟩, by omega, by omega⟩
  · rw [if_neg h0]
    refine ⟨⟨h1, by show 0 ≤ x.pos - 1; omega, fun e => ?_⟩, Nat.le_refl _, Int.le_refl _⟩
    have := h3 e
    rw [this] at h0
    exact absurd rfl h0
theorem RunsOk.upV {R : List Rn} (h : RunsOk R) : ∀ (k : Nat) {x : Sp}, SpV R x → SpV R (upN R k x) ∧ (upN R k x).run ≤ x.run ∧ (rn R (upN R k x).run).depth ≤ (rn R x.run).depth
  | 0, x, hx => ⟨hx, Nat.le_refl _, Int.le_refl _⟩
  | k + 1, x, hx => by
    obtain ⟨a, b, c⟩ := h.parV hx
    obtain ⟨d, e, f⟩ := h.upV k a
    exact ⟨d, Nat.le_trans e b, Int.le_trans f c⟩
theorem upN_run (R : List Rn) : ∀ (k : Nat) (r : Nat) (q : Int), (k : Int) ≤ q → upN R k ⟨r, q⟩ = ⟨r, q - (k : Int)⟩
  | 0, r, q, h => by simp [upN]
  | k + 1, r, q, h => by
    show upN R k (parS R ⟨r, q⟩) = _
    have e : parS R ⟨r, q⟩ = ⟨r, q - 1⟩ := by unfold parS; rw [if_neg (by show ¬ q = 0; omega)]
    rw [e, upN_run R k r (q - 1) (by omega)]
    simp only [Sp.mk.injEq, true_and]
    omega
/-- The steps from a spot to its run's parent. -/
theorem up_par {R : List Rn} {x : Sp} (h0 : 0 ≤ x.pos) : upN R (x.pos.toNat + 1) x = (rn R x.run).par ∧ upN R x.pos.toNat x = ⟨x.run, 0⟩ := by
  have e : upN R x.pos.toNat x = ⟨x.run, 0⟩ := by
    have := upN_run R x.pos.toNat x.run x.pos (by omega)
    rw [show (⟨x.run, x.pos⟩ : Sp) = x from rfl] at this
    rw [this]
    simp only [Sp.mk.injEq, true_and]
    omega
  refine ⟨?_, e⟩
  rw [upN_succ, e]
  rfl
/-- No spot from y up hangs on p. -/
def NoC (R : List Rn) (p y : Sp) : Prop := ∀ k, (upN R k y).run ≠ 0 → parS R (upN R k y) ≠ p
theorem NoC.of {R : List Rn} {p : Sp} (Q : Sp → Prop) (hs : ∀ y, Q y → Q (parS R y)) (hn : ∀ y, Q y → y.run ≠ 0 → parS R y ≠ p) {y : Sp} (hy : Q y) : NoC R p y := fun k => by
  have : ∀ k y, Q y → Q (upN R k y) := fun k => by
    induction k with
    | zero => exact fun y h => h
    | succ k ih => exact fun y h => ih _ (hs y h)
  exact hn _ (this k y hy)
theorem RunsOk.noA {R : List Rn} (h : RunsOk R) {p y : Sp} (hp : SpV R p) (hy : SpV R y) (e : y.run = p.run) (hle : y.pos ≤ p.pos) : NoC R p y := by
  refine NoC.of (fun z => SpV R z ∧ ((z.run = p.run ∧ z.pos ≤ p.pos) ∨ z.run < p.run)) ?_ ?_ ⟨hy, .inl ⟨e, hle⟩⟩
  · rintro z ⟨hz, hq⟩
    obtain ⟨a, b, _⟩ := h.parV hz
    refine ⟨a, ?_⟩
    rcases hq with ⟨q1, q2⟩ | q
    · by_cases h0 : z.pos = 0
      · by_cases hr : z.run = 0
        · have hz0 := hz.2.2 hr
          left
          have : parS R z = .zero := by rw [hz0]; unfold parS; rw [if_pos rfl]; show (rn R 0).par = _; rw [h.root]
          rw [this]
          exact ⟨by rw [← q1, hr], hp.2.1⟩
        · right
          have := (h.par z.run (by omega) hz.1).1
          unfold parS
          rw [if_pos h0]; omega
      · left
        unfold parS
        rw [if_neg h0]
        exact ⟨q1, by show z.pos - 1 ≤ p.pos; omega⟩
    · right; omega
  · rintro z ⟨hz, hq⟩ hr ee
    rcases hq with ⟨q1, q2⟩ | q
    · by_cases h0 : z.pos = 0
      · have := (h.par z.run (by omega) hz.1).1
        unfold parS at ee
        rw [if_pos h0] at ee
        rw [ee] at this
        omega
      · unfold parS at ee
        rw [if_neg h0] at ee
        have : z.pos - 1 = p.pos := by rw [← ee]
        omega
    · have := (h.parV hz).2.1
      rw [ee] at this
      omega
theorem RunsOk.noD {R : List Rn} (h : RunsOk R) {p y : Sp} (hy : SpV R y) (e : y.run ≠ p.run) (hd : (rn R y.run).depth ≤ (rn R p.run).depth) : NoC R p y := by
  have step : ∀ z, (SpV R z ∧ z.run ≠ p.run ∧ (rn R z.run).depth ≤ (rn R p.run).depth) → (SpV R (parS R z) ∧ (parS R z).run ≠ p.run ∧ (rn R (parS R z).run).depth ≤ (rn R p.run).depth) := by
    rintro z ⟨hz, q1, q2⟩
    obtain ⟨a, b, c⟩ := h.parV hz
    refine ⟨a, ?_, Int.le_trans c q2⟩
    unfold parS
    by_cases h0 : z.pos = 0
    · rw [if_pos h0]
      by_cases hr : z.run = 0
      · rw [hr, h.root]
        intro e2
        exact q1 (hr.trans e2)
      · intro e2
        have := h.depth z.run (by omega) hz.1
        rw [e2] at this
        omega
    · rw [if_neg h0]; exact q1
  exact NoC.of (fun z => SpV R z ∧ z.run ≠ p.run ∧ (rn R z.run).depth ≤ (rn R p.run).depth) step (fun z hz _ ee => (step z hz).2.1 (by rw [ee])) ⟨hy, e, hd⟩
/-- What the child over x is. -/
def ChildOk (R : List Rn) (p x : Sp) (q : Sp × Bool) : Prop := (q.2 = true → ∃ k, upN R k x = q.1 ∧ q.1.run ≠ 0 ∧ parS R q.1 = p) ∧ (q.2 = false → NoC R p x)
theorem ChildOk.jump {R : List Rn} (h : RunsOk R) {p x y : Sp} {q : Sp × Bool} (hx : SpV R x) (K : Nat) (hK : upN R K x = y) (hd : (rn R p.run).depth < (rn R y.run).depth) (hy : ChildOk R p y q) : ChildOk R p x q := by
  refine ⟨fun e => ?_, fun e k hr => ?_⟩
  · obtain ⟨k, e1, e2, e3⟩ := hy.1 e
    exact ⟨K + k, by rw [upN_add, hK]; exact e1, e2, e3⟩
  · rcases Nat.lt_or_ge k K with hk | hk
    · intro ee
      have h1 := (h.upV (k + 1) hx).1
      have h2 := (h.upV (K - (k + 1)) h1).2.2
      rw [← upN_add, show k + 1 + (K - (k + 1)) = K by omega, hK, upN_succ, ee] at h2
      omega
    · have e1 : upN R k x = upN R (k - K) y := by rw [← hK, ← upN_add]; congr 1; omega
      rw [e1] at hr ⊢
      exact hy.2 e (k - K) hr
theorem fin_child {R : List Rn} (h : RunsOk R) {p x : Sp} (hp : SpV R p) (hx : SpV R x) (hd : x.run ≠ p.run → (rn R x.run).depth ≤ (rn R p.run).depth) : ChildOk R p x (fin p x) := by
  unfold fin
  by_cases hc : x.run ≠ p.run ∨ x.pos ≤ p.pos
  · rw [if_pos hc]
    refine ⟨(fun e => by cases e), fun _ => ?_⟩
    by_cases hr : x.run = p.run
    · exact h.noA hp hx hr (by rcases hc with hc | hc; exact absurd hr hc; exact hc)
    · exact h.noD hx hr (hd hr)
  · rw [if_neg hc]
    have hr : x.run = p.run := Decidable.byContradiction fun e => hc (.inl e)
    have hl : ¬ x.pos ≤ p.pos := fun e => hc (.inr e)
    have hpp := hp.2.1
    refine ⟨fun _ => ⟨(x.pos - p.pos - 1).toNat, ?_, ?_, ?_⟩, (fun e => by cases e)⟩
    · have := upN_run R (x.pos - p.pos - 1).toNat x.run x.pos (by omega)
      rw [show (⟨x.run, x.pos⟩ : Sp) = x from rfl] at this
      rw [this]
      simp only [Sp.mk.injEq]
      exact ⟨hr, by omega⟩
    · intro e0
      have e1 : x.run = 0 := by rw [hr]; exact e0
      have := hx.2.2 e1
      rw [this] at hl
      exact hl hpp
    · unfold parS
      rw [if_neg (by show ¬ p.pos + 1 = 0; omega)]
      show (⟨p.run, p.pos + 1 - 1⟩ : Sp) = p
      rw [Int.add_sub_cancel]
theorem climb_child {R : List Rn} (h : RunsOk R) (hD : Down R) {p : Sp} (hp : SpV R p) : ∀ (f : Nat) (x : Sp), x.run < f → SpV R x → ChildOk R p x (climb R p f x)
  | 0, x, hf, hx => absurd hf (Nat.not_lt_zero _)
  | f + 1, x, hf, hx => by
    unfold climb
    by_cases hr : x.run = p.run
    · rw [if_pos hr]; exact fin_child h hp hx fun e => absurd hr e
    · rw [if_neg hr]
      have hpd := hD.2.1 p.run
      by_cases h0 : x.run = 0
      · have hx0 := hx.2.2 h0
        have ed : (rn R 0).depth = 0 := by rw [h.root]
        have ef : (rn R x.run).far = .zero := by rw [h0, h.root]
        have ep : (rn R x.run).par = .zero := by rw [h0, h.root]
        rw [ef, ep]
        have n1 : ¬ (rn R p.run).depth < (rn R (Sp.zero).run).depth := by
          show ¬ (rn R p.run).depth < (rn R 0).depth
          omega
        rw [if_neg n1, if_neg n1, if_neg (fun e : Sp.zero = p => hr (by rw [h0, ← e])), ← hx0]
        refine fin_child h hp hx fun _ => ?_
        rw [h0]; omega
      · obtain ⟨a1, a2, a3⟩ := h.par x.run (by omega) hx.1
        obtain ⟨k0, ek⟩ := h.far x.run (by omega) hx.1
        have hfr := (hD.2.2 x.run (by omega) hx.1).2
        obtain ⟨u1, u2⟩ := up_par (R := R) hx.2.1
        have hpv : SpV R (rn R x.run).par := ⟨by have := hx.1; omega, a2, a3⟩
        by_cases b1 : (rn R p.run).depth < (rn R (rn R x.run).far.run).depth
        · rw [if_pos b1]
          have hfv : SpV R (rn R x.run).far := by rw [← ek]; exact (h.upV k0 hpv).1
          exact ChildOk.jump h hx (x.pos.toNat + 1 + k0) (by rw [upN_add, u1, ek]) b1 (climb_child h hD hp f _ (by omega) hfv)
        · rw [if_neg b1]
          by_cases b2 : (rn R p.run).depth < (rn R (rn R x.run).par.run).depth
          · rw [if_pos b2]
            exact ChildOk.jump h hx (x.pos.toNat + 1) u1 b2 (climb_child h hD hp f _ (by omega) hpv)
          · rw [if_neg b2]
            by_cases b3 : (rn R x.run).par = p
            · rw [if_pos b3]
              exact ⟨fun _ => ⟨x.pos.toNat, u2, h0, by unfold parS; rw [if_pos rfl]; exact b3⟩, (fun e => by cases e)⟩
            · rw [if_neg b3]
              have hfin := fin_child h hp hpv fun _ => by omega
              refine ⟨fun e => ?_, fun e k hk => ?_⟩
              · obtain ⟨k, e1, e2, e3⟩ := hfin.1 e
                exact ⟨x.pos.toNat + 1 + k, by rw [upN_add, u1]; exact e1, e2, e3⟩
              · rcases Nat.lt_or_ge k (x.pos.toNat + 1) with hlt | hge
                · have hx2 := hx.2.1
                  have e1 : upN R k x = ⟨x.run, x.pos - (k : Int)⟩ := upN_run R k x.run x.pos (by omega)
                  rw [e1]
                  unfold parS
                  by_cases hz : x.pos - (k : Int) = 0
                  · rw [if_pos hz]; exact b3
                  · rw [if_neg hz]
                    intro ee
                    exact hr (by rw [← ee])
                · have e1 : upN R k x = upN R (k - (x.pos.toNat + 1)) (rn R x.run).par := by rw [← u1, ← upN_add]; congr 1; omega
                  rw [e1] at hk ⊢
                  exact hfin.2 e _ hk
theorem childR_ok {R : List Rn} (h : RunsOk R) (hD : Down R) {p x : Sp} (hp : SpV R p) (hx : SpV R x) : ChildOk R p x (childR R p x) := climb_child h hD hp (x.run + 1) x (Nat.lt_succ_self _) hx
/-- How far a spot is from the root: each step up lessens it. -/
theorem RunsOk.less {R : List Rn} (h : RunsOk R) {x : Sp} (hx : SpV R x) (h0 : x.run ≠ 0) : (parS R x).run < x.run ∨ ((parS R x).run = x.run ∧ (parS R x).pos < x.pos) := by
  unfold parS
  by_cases hz : x.pos = 0
  · rw [if_pos hz]; exact .inl (h.par x.run (by omega) hx.1).1
  · rw [if_neg hz]; exact .inr ⟨rfl, by show x.pos - 1 < x.pos; omega⟩
theorem RunsOk.lessN {R : List Rn} (h : RunsOk R) : ∀ (k : Nat) {x : Sp}, SpV R x → (upN R k x).run < x.run ∨ ((upN R k x).run = x.run ∧ (upN R k x).pos ≤ x.pos)
  | 0, x, hx => .inr ⟨rfl, Int.le_refl _⟩
  | k + 1, x, hx => by
    have ih := h.lessN k (h.parV hx).1
    have e : upN R (k + 1) x = upN R k (parS R x) := rfl
    rw [e]
    by_cases h0 : x.run = 0
    · have hx0 := hx.2.2 h0
      have ep : parS R x = x := by rw [hx0]; unfold parS; rw [if_pos rfl]; show (rn R 0).par = _; rw [h.root]
      rw [ep] at ih ⊢
      exact ih
    · rcases h.less hx h0 with a | ⟨a, b⟩ <;> rcases ih with c | ⟨c, d⟩
      · exact .inl (by omega)
      · exact .inl (by omega)
      · exact .inl (by omega)
      · exact .inr ⟨by omega, by omega⟩
/-- There is one child over a spot. -/
theorem RunsOk.one {R : List Rn} (h : RunsOk R) {p x : Sp} (hx : SpV R x) {a b : Nat} (ha : parS R (upN R a x) = p) (hb : parS R (upN R b x) = p) (ha0 : (upN R a x).run ≠ 0) (hb0 : (upN R b x).run ≠ 0) : upN R a x = upN R b x := by
  have key : ∀ {a b : Nat}, a < b → parS R (upN R a x) = p → parS R (upN R b x) = p → (upN R b x).run ≠ 0 → False := fun {a b} hab ha hb hb0 => by
    have hv := (h.upV b hx).1
    have e : upN R b x = upN R (b - (a + 1)) p := by
      rw [← ha, ← upN_succ, ← upN_add]
      congr 1
      omega
    have h1 := h.less hv hb0
    rw [hb] at h1
    have hpv : SpV R p := by rw [← ha, ← upN_succ]; exact (h.upV (a + 1) hx).1
    have h2 := h.lessN (b - (a + 1)) hpv
    rw [← e] at h2
    omega
  rcases Nat.lt_trichotomy a b with hab | hab | hab
  · exact (key hab ha hb hb0).elim
  · rw [hab]
  · exact (key hab hb ha ha0).elim
/-- The child over x, where one is known. -/
theorem childR_eq {R : List Rn} (h : RunsOk R) (hD : Down R) {p x : Sp} (hp : SpV R p) (hx : SpV R x) {k : Nat} (hk : parS R (upN R k x) = p) (h0 : (upN R k x).run ≠ 0) : childR R p x = (upN R k x, true) := by
  have hc := childR_ok h hD hp hx
  cases hb : (childR R p x).2 with
  | false => exact absurd hk (hc.2 hb k h0)
  | true =>
    obtain ⟨j, e1, e2, e3⟩ := hc.1 hb
    have e4 : upN R j x = upN R k x := h.one hx (by rw [e1]; exact e3) hk (by rw [e1]; exact e2) h0
    have : (childR R p x).1 = upN R k x := by rw [← e1, e4]
    rw [← this, ← hb]
theorem childR_no {R : List Rn} (h : RunsOk R) (hD : Down R) {p x : Sp} (hp : SpV R p) (hx : SpV R x) (hn : NoC R p x) : (childR R p x).2 = false := by
  have hc := childR_ok h hD hp hx
  cases hb : (childR R p x).2 with
  | false => rfl
  | true =>
    obtain ⟨j, e1, e2, e3⟩ := hc.1 hb
    rw [← e1] at e2 e3
    exact absurd e3 (hn j e2)
theorem parS_more (R : List Rn) (n : Rn) (x : Sp) (hx : x.run < R.length) : parS (R ++ [n]) x = parS R x := by
  unfold parS
  rw [rn_snoc, if_pos hx]
theorem RunsOk.upN_more {R : List Rn} (h : RunsOk R) (n : Rn) : ∀ (k : Nat) {x : Sp}, SpV R x → upN (R ++ [n]) k x = upN R k x
  | 0, x, hx => rfl
  | k + 1, x, hx => by
    show upN (R ++ [n]) k (parS (R ++ [n]) x) = upN R k (parS R x)
    rw [parS_more R n x hx.1]
    exact h.upN_more n k (h.parV hx).1
theorem RunsOk.far_up {R : List Rn} (h : RunsOk R) {x : Sp} (hx : SpV R x) : ∃ k, upN R k x = (rn R x.run).far := by
  by_cases h0 : x.run = 0
  · refine ⟨0, ?_⟩
    rw [h0, h.root]
    exact hx.2.2 h0
  · obtain ⟨k, e⟩ := h.far x.run (by omega) hx.1
    exact ⟨x.pos.toNat + 1 + k, by rw [upN_add, (up_par hx.2.1).1, e]⟩
theorem RunsOk.farOf_up {R : List Rn} (h : RunsOk R) {x : Sp} (hx : SpV R x) : ∃ k, upN R k x = farOf R x := by
  unfold farOf
  split
  · obtain ⟨k1, e1⟩ := h.far_up hx
    have hv := (h.upV k1 hx).1
    rw [e1] at hv
    obtain ⟨k2, e2⟩ := h.far_up hv
    exact ⟨k1 + k2, by rw [upN_add, e1, e2]⟩
  · exact ⟨0, rfl⟩
/-- One run more. -/
theorem RunsOk.add {R : List Rn} (h : RunsOk R) (u : Un) {par : Sp} (hp : SpV R par) : RunsOk (R ++ [⟨u, par, farOf R par, (rn R par.run).depth + 1⟩]) := by
  have old : ∀ r, r < R.length → rn (R ++ [⟨u, par, farOf R par, (rn R par.run).depth + 1⟩]) r = rn R r := fun r hr => by rw [rn_snoc, if_pos hr]
  have new : rn (R ++ [⟨u, par, farOf R par, (rn R par.run).depth + 1⟩]) R.length = ⟨u, par, farOf R par, (rn R par.run).depth + 1⟩ := by rw [rn_snoc, if_neg (by omega), if_pos rfl]
  have hl : (R ++ [(⟨u, par, farOf R par, (rn R par.run).depth + 1⟩ : Rn)]).length = R.length + 1 := by simp
  refine ⟨by rw [old 0 h.len]; exact h.root, by omega, fun r h0 hr => ?_, fun r h0 hr => ?_, fun r h0 hr => ?_⟩
  · rw [hl] at hr
    by_cases e : r < R.length
    · rw [old r e]; exact h.par r h0 e
    · have : r = R.length := by omega
      subst this
      rw [new]
      exact ⟨hp.1, hp.2.1, hp.2.2⟩
  · rw [hl] at hr
    by_cases e : r < R.length
    · rw [old r e, old _ (by have := (h.par r h0 e).1; omega)]; exact h.depth r h0 e
    · have : r = R.length := by omega
      subst this
      rw [new]
      show (rn R par.run).depth + 1 = (rn _ par.run).depth + 1
      rw [old _ hp.1]
  · rw [hl] at hr
    by_cases e : r < R.length
    · rw [old r e]
      obtain ⟨k, ek⟩ := h.far r h0 e
      obtain ⟨a, b, c⟩ := h.par r h0 e
      exact ⟨k, by rw [h.upN_more _ k ⟨by omega, b, c⟩]; exact ek⟩
    · have : r = R.length := by omega
      subst this
      rw [new]
      obtain ⟨k, ek⟩ := h.farOf_up hp
      exact ⟨k, by rw [h.upN_more _ k hp]; exact ek⟩
theorem RunsOk.new : RunsOk SS.new.runs := ⟨rfl, by decide, fun r h0 hr => by simp [SS.new] at hr; omega, fun r h0 hr => by simp [SS.new] at hr; omega, fun r h0 hr => by simp [SS.new] at hr; omega⟩
end Go.Proofs.YtdnhoicfolkbnaaGreat
