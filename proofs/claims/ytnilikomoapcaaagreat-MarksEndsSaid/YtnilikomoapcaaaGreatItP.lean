/- Iterators that keep cells of their own, and iterators over iterators: contracts with footprints (what the caller's loop speaks of is a set of blocks; the iterator's own blocks lie outside it), and the law of a range over such an iterator. They speak of no program. -/
import Derived.Test.YtnilikomoapcaaaGreatPart1
import Derived.RangeFuncNested
import Derived.RangeFuncBound
import Derived.RangeFuncCalls
import Derived.RangeFuncLeaves
namespace Go.Proofs.YtnilikomoapcaaaGreat
open Go.RowKit
set_option linter.unusedVariables false

theorem wideN {n : Nat} : Fence.wide.depth.isSome = true → 1 ≤ n := fun h => absurd h (by simp [Fence.wide])
/-- At the wide fence no depth is asked: a round is one at any depth, and within another loop's round. -/
theorem round_wide {m m' : Nat} {P : Program} {l : Nat} {f : FuncId} {tmps : Array Value} {assign body : Code} {w : World} {R : Ending → World → Prop} (h : RoundIn Fence.wide m P l f tmps assign body w R) : RoundIn Fence.wide m' P l f tmps assign body w R :=
  ⟨h.1, fun c cs _ => h.2 c cs (fun d h => by cases h)⟩
theorem round_in {m m' : Nat} {P : Program} {l : Nat} {f : FuncId} {tmps : Array Value} {assign body : Code} {w : World} {R : Ending → World → Prop} (q : Nat) (h : RoundIn Fence.wide m P l f tmps assign body w R) : RoundIn (Fence.wide.inRound q) m' P l f tmps assign body w R :=
  round_wide (m' := m') h
theorem Touch.putObj {S : Nat → Prop} {a b : World} (h : Touch S a b) (l : Nat) (o : Obj) (hl : l < a.heap.size → S l) : Touch S a (b.putObj l o) :=
  ⟨h.os, h.tape, h.output, by rw [World.putObj_size]; exact h.size, fun i hi hn => (World.putObj_heap_other (w := b) (r := l) (k := i) fun e => hn (by subst e; exact hl hi)).trans (h.block i hi hn)⟩
/-- I speaks of the blocks below n and of those of Φ alone. -/
structure Foot {β : Type} (n : Nat) (I : β → (Nat → Prop) → World → Prop) : Prop where
  keep : ∀ s Φ A B, I s Φ A → Touch (fun k => n ≤ k ∧ ¬ Φ k) A B → I s Φ B
  lt : ∀ s Φ A, I s Φ A → ∀ k, Φ k → k < A.heap.size
theorem Foot.up {β : Type} {n m : Nat} {I : β → (Nat → Prop) → World → Prop} (h : Foot n I) (hm : n ≤ m) : Foot m I :=
  ⟨fun s Φ A B hi t => h.keep s Φ A B hi (t.mono fun k _ q => ⟨Nat.le_trans hm q.1, q.2⟩), h.lt⟩
/-- A footprint has grown by new blocks alone. -/
def Swells (Φ Ψ : Nat → Prop) (n : Nat) : Prop := ∀ k, Ψ k → Φ k ∨ n ≤ k
theorem Swells.refl (Φ : Nat → Prop) (n : Nat) : Swells Φ Φ n := fun _ h => .inl h
theorem Swells.trans {A B C : Nat → Prop} {n m : Nat} (h : Swells A B n) (k : Swells B C m) (hnm : n ≤ m) : Swells A C n := fun i hi => by
  rcases k i hi with h1 | h1
  · exact h i h1
  · exact .inr (Nat.le_trans hnm h1)
/-- What is touched later is touched from the beginning on, or new. -/
theorem Touch.swell {Φ Ψ : Nat → Prop} {a b c : World} (h : Touch Φ a b) (k : Touch Ψ b c) (g : Swells Φ Ψ a.heap.size) : Touch Φ a c :=
  h.then k fun i hi hp => (g i hp).elim id fun x => absurd x (by omega)
/-- What a round of a caller's loop does: it goes on, or says 'no more'. -/
def RoundP {α : Type} (J Jx : List α → (Nat → Prop) → World → Prop) (pre : List α) (Ψ : Nat → Prop) (W : World) (e : Ending) (W' : World) : Prop :=
  Touch Ψ W W' ∧ ∃ Ψ', Swells Ψ Ψ' W.heap.size ∧ ((e = .returned (.bool true) ∧ J pre Ψ' W') ∨ (e = .returned (.bool false) ∧ Jx pre Ψ' W'))
/-- THE ITERATOR's CONTRACT: made in w, reading the blocks of R; what comes is xs, or a beginning of it. -/
def SeqP {α : Type} (P : Program) (g : Nat) (lb : Array Value) (encs : α → Array Value) (R : Nat → Prop) (xs : List α) (w : World) : Prop :=
  ∀ (l n : Nat) (J Jx : List α → (Nat → Prop) → World → Prop) (W : World) (Φ : Nat → Prop), Touch (fun k => ¬ R k) w W → Foot W.heap.size J → Foot W.heap.size Jx → (∀ k, R k → ¬ Φ k) →
    (∀ pre x Ψ W1, J pre Ψ W1 → (∀ k, R k → ¬ Ψ k) → pre ++ [x] <+: xs → ∀ m, YieldAt Fence.wide m P l (encs x) W1 fun e W' => RoundP J Jx (pre ++ [x]) Ψ W1 e W') →
    J [] Φ W →
    CallsIn Fence.wide n P g (#[.func (.yield l) #[] #[]] ++ lb) W fun e W' => (∃ v, e = .returned v) ∧ Touch Φ W W' ∧ ∃ Ψ, Swells Φ Ψ W.heap.size ∧ (J xs Ψ W' ∨ ∃ pre, pre <+: xs ∧ Jx pre Ψ W')
theorem SeqP.later {α : Type} {P : Program} {g : Nat} {lb : Array Value} {encs : α → Array Value} {R : Nat → Prop} {xs : List α} {w w' : World} (h : SeqP P g lb encs R xs w) (t : Touch (fun k => ¬ R k) w w') : SeqP P g lb encs R xs w' :=
  fun l n J Jx W Φ hW => h l n J Jx W Φ (t.trans hW)
/-- How a round's body may be left. -/
def postP {α : Type} (I : List α → (Nat → Prop) → World → Prop) (Ix : Code → List α → (Nat → Prop) → World → Prop) (ys : List α) (Ψ : Nat → Prop) (W : World) : Exit → Act → World → Prop
  | .normal, _, W' => Touch Ψ W W' ∧ ∃ Ψ', Swells Ψ Ψ' W.heap.size ∧ I ys Ψ' W'
  | .ret, _, W' => Touch Ψ W W' ∧ ∃ Ψ', Swells Ψ Ψ' W.heap.size ∧ Ix .ret ys Ψ' W'
  | .exit id, _, W' => Touch Ψ W W' ∧ ∃ Ψ', Swells Ψ Ψ' W.heap.size ∧ Ix (.exit id) ys Ψ' W'
  | .goto t, _, W' => Touch Ψ W W' ∧ ∃ Ψ', Swells Ψ Ψ' W.heap.size ∧ Ix (.goto t) ys Ψ' W'
  | .panic _, _, _ => False
  | .outgrown, _, _ => False
/-- The caller's word with the two blocks of book-keeping in its footprint. -/
def BookP {α : Type} (D : Nat) (o : Obj) (I : List α → (Nat → Prop) → World → Prop) (pre : List α) (Ω : Nat → Prop) (W : World) : Prop :=
  ∃ Ψ, (∀ k, Ω k ↔ Ψ k ∨ k = D ∨ k = D + 1) ∧ ¬ Ψ D ∧ ¬ Ψ (D + 1) ∧ I pre Ψ W ∧ W.heap[D + 1]? = some o ∧ W.heap[D]? = some (.deferred (some []))
theorem BookP.foot {α : Type} {D : Nat} {o : Obj} {I : List α → (Nat → Prop) → World → Prop} (h : Foot D I) : Foot (D + 2) (BookP D o I) := by
  refine ⟨fun s Ω A B => ?_, fun s Ω A => ?_⟩
  · rintro ⟨Ψ, hq, n1, n2, hi, h1, h2⟩ t
    exact ⟨Ψ, hq, n1, n2, h.keep s Ψ A B hi (t.mono fun k _ hk => ⟨by have := hk.1; omega, fun hp => hk.2 ((hq k).2 (.inl hp))⟩), (t.block _ (lt_of_heap h1) fun x => absurd x.1 (by omega)).trans h1, (t.block _ (lt_of_heap h2) fun x => absurd x.1 (by omega)).trans h2⟩
  · rintro ⟨Ψ, hq, n1, n2, hi, h1, h2⟩ k hk
    rcases (hq k).1 hk with e | rfl | rfl
    · exact h.lt s Ψ A hi k e
    · exact lt_of_heap h2
    · exact lt_of_heap h1
theorem foot_ex {α γ : Type} {n : Nat} {I : γ → List α → (Nat → Prop) → World → Prop} (h : ∀ c, Foot n (I c)) : Foot n (fun s Φ W => ∃ c, I c s Φ W) :=
  ⟨fun s Φ A B ⟨c, hc⟩ t => ⟨c, (h c).keep s Φ A B hc t⟩, fun s Φ A ⟨c, hc⟩ => (h c).lt s Φ A hc⟩

set_option maxHeartbeats 1600000 in
/-- THE LAW OF A RANGE OVER SUCH AN ITERATOR (outside of any round). -/
theorem wp_range {α : Type} {P : Program} {n : Nat} {g : Operand} {ps : Array Tmp} {assign body : Code} {Q : Exit → Act → World → Prop} {a : Act} {w : World}
    {gf : Nat} {lb : Array Value} (hg : a.eval g = .func (.func gf) #[] lb) (eg : ∀ args w, (callFunc gf args).run P w = .ok (.enter gf args) w)
    {encs : α → Array Value} {R : Nat → Prop} {xs : List α} {w0 : World} (hseq : SeqP P gf lb encs R xs w0) (hw : Touch (fun k => ¬ R k) w0 w) (hRw : ∀ k, R k → k < w0.heap.size) (hps : ∀ x, (encs x).size = ps.size)
    (I : List α → (Nat → Prop) → World → Prop) (Ix : Code → List α → (Nat → Prop) → World → Prop) (fI : Foot w.heap.size I) (fIx : ∀ c, Foot w.heap.size (Ix c)) (Φ : Nat → Prop) (hR : ∀ k, R k → ¬ Φ k) (h0 : I [] Φ w)
    (A : α → Act → List α → (Nat → Prop) → World → Prop) (fA : ∀ x a', Foot w.heap.size (A x a'))
    (hassign : ∀ (l : Nat) (pre : List α) (x : α) (Ψ : Nat → Prop) (W : World) (K : Act → World → Prop), I pre Ψ W → (∀ a' W' Ψ', Touch Ψ W W' → Swells Ψ Ψ' W.heap.size → A x a' pre Ψ' W' → K a' W') →
      assign.wpIn (Fence.wide.inRound l) (n - 1 - 1) P (Exit.then K (fun _ _ _ => False)) { tmps := (ps.zip (encs x)).foldl (fun t (p, v) => t.setIfInBounds p v) a.tmps, defers := [] } W)
    (hbody : ∀ (l : Nat) (pre : List α) (x : α) (a' : Act) (Ψ : Nat → Prop) (W : World), w.heap.size < W.heap.size → (∀ k, R k → ¬ Ψ k) → pre ++ [x] <+: xs → A x a' pre Ψ W →
      body.wpIn (Fence.wide.inRound l) (n - 1 - 1) P (postP I Ix (pre ++ [x]) Ψ W) a' W)
    (hdone : ∀ (D : Nat) (Ψ : Nat → Prop) (W : World), w.heap.size ≤ D → ¬ Ψ D → Touch Φ w W → Swells Φ Ψ w.heap.size → I xs Ψ W → W.heap[D]? = some (.deferred (some [])) → Q .normal { a with defers := { target := .collected D, args := #[] } :: a.defers } W)
    (hstop : ∀ (D : Nat) (c : Code) (pre : List α) (Ψ : Nat → Prop) (W : World), w.heap.size ≤ D → ¬ Ψ D → Touch Φ w W → Swells Φ Ψ w.heap.size → pre <+: xs → Ix c pre Ψ W → W.heap[D]? = some (.deferred (some [])) → c.wpIn Fence.wide n P Q { a with defers := { target := .collected D, args := #[] } :: a.defers } W) :
    (Code.rangeFunc g ps assign body).wpIn Fence.wide n P Q a w := by
  refine wpIn_rangeFunc ?_
  intro fn hfn
  obtain ⟨rec, hrec⟩ : ∃ rec : LoopState → Option Code → Loop, rec = fun st pe => { state := st, pending := pe, fn, tmps := a.tmps, params := ps, assign, body, defers := w.heap.size } := ⟨_, rfl⟩
  obtain ⟨D, hD⟩ : ∃ D, D = w.heap.size := ⟨_, rfl⟩
  obtain ⟨W1, hW1⟩ : ∃ W1, (w.alloc (.deferred (some []))).alloc (.loop (rec .ready none)) = W1 := ⟨_, rfl⟩
  have hs1 : W1.heap.size = D + 2 := by rw [← hW1, hD]; simp
  have t1 : Touch (fun _ => False) w W1 := by rw [← hW1]; exact ((Touch.refl _ w).alloc _).alloc _
  have l1 : W1.heap[D + 1]? = some (.loop (rec .ready none)) := by
    rw [← hW1, hD]
    have := World.alloc_heap_new (w.alloc (.deferred (some []))) (.loop (rec .ready none))
    rwa [World.size_alloc] at this
  have d1 : W1.heap[D]? = some (.deferred (some [])) := by
    rw [← hW1, hD]; exact (Below.heap_alloc _ _ _ (by simp)).trans (World.alloc_heap_new w _)
  have nD : ∀ k, Φ k → k < D := fun k hk => by rw [hD]; exact fI.lt _ _ _ h0 k hk
  rw [← hD] at fI fIx fA
  have i1 : I [] Φ W1 := fI.keep _ _ _ _ h0 (t1.mono fun _ _ h => h.elim)
  refine ⟨D + 1, [{ target := .collected D, args := #[] }], W1, { target := .fn (.func gf) lb, args := #[.func (.yield (D + 1)) #[] #[]] }, W1, gf,
    #[.func (.yield (D + 1)) #[] #[]] ++ lb, W1, ?_, ?_, fun _ _ => trivial, ?_, wideN, ?_⟩
  · rw [← hW1, hrec, hD]; exact run_enterLoop_outer _ _ _ _ _
  · simp only [resolve, hg]
    simp [go_sem]
  · simp [invoke, go_sem, eg]
  refine (hseq (D + 1) (n - 1) (BookP D (.loop (rec .ready none)) I) (fun pre Ω W => ∃ c, BookP D (.loop (rec .done (some c))) (Ix c) pre Ω W) W1 (fun k => Φ k ∨ k = D ∨ k = D + 1)
    (hw.trans (t1.mono fun _ _ h => h.elim)) (by rw [hs1]; exact BookP.foot fI) (by rw [hs1]; exact foot_ex fun c => BookP.foot (fIx c)) ?_ ?_ ⟨Φ, fun k => Iff.rfl, fun h => absurd (nD _ h) (by omega), fun h => absurd (nD _ h) (by omega), i1, l1, d1⟩).mono ?_
  · intro k hk
    have hlt : k < w.heap.size := Nat.lt_of_lt_of_le (hRw k hk) hw.size
    rintro (h | h | h)
    · exact hR k hk h
    · omega
    · omega
  · rintro pre x Ω W ⟨Ψ, hq, n1, n2, hi, hl, hd⟩ hRo hpre m
    have hlt : D + 1 < W.heap.size := lt_of_heap hl
    have hy := run_yield (P := P) (args := encs x) hl (by rw [hrec]; exact hps x)
    rw [hrec] at hy
    refine ⟨fn, _, assign, body, hy, ?_⟩
    have hRI := roundIn_of_wpIn (F := Fence.wide) (n := n - 1 - 1) (P := P) (l := D + 1) (f := fn) (tmps := (ps.zip (encs x)).foldl (fun t (p, v) => t.setIfInBounds p v) a.tmps) (assign := assign) (body := body) (w := W) (R := RoundP (BookP D (.loop (rec .ready none)) I) (fun pre Ω W => ∃ c, BookP D (.loop (rec .done (some c))) (Ix c) pre Ω W) (pre ++ [x]) Ω W) hfn ?_
    · exact ⟨hRI.1, fun c cs _ => hRI.2 c cs (fun d h => by cases h)⟩
    refine hassign (D + 1) pre x Ψ W _ hi ?_
    intro a' Wa Ψa ta ga hA
    have hla := (ta.block _ hlt n2).trans hl
    have hda := (ta.block _ (lt_of_heap hd) n1).trans hd
    have na1 : ¬ Ψa D := fun h => (ga D h).elim n1 fun h => absurd h (by omega)
    have na2 : ¬ Ψa (D + 1) := fun h => (ga (D + 1) h).elim n2 fun h => absurd h (by omega)
    have hsa := ta.size
    refine ⟨_, run_beginRound hla (by rw [hrec]), ?_⟩
    obtain ⟨Wb, hWb⟩ : ∃ Wb, Wb = Wa.putObj (D + 1) (.loop { rec .ready none with state := .busy }) := ⟨_, rfl⟩
    rw [← hWb]
    have hsb : Wb.heap.size = Wa.heap.size := by rw [hWb]; simp
    have hlb : Wb.heap[D + 1]? = some (.loop { rec .ready none with state := .busy }) := by rw [hWb]; exact World.putObj_heap_same (by omega)
    have hdb : Wb.heap[D]? = some (.deferred (some [])) := by rw [hWb]; exact (World.putObj_heap_other (by omega)).trans hda
    have tb : Touch (fun k => D ≤ k ∧ ¬ Ψa k) Wa Wb := by rw [hWb]; exact (Touch.refl _ Wa).putObj _ _ fun _ => ⟨by omega, na2⟩
    have hRa : ∀ k, R k → ¬ Ψa k := fun k hk h => by
      have hlt : k < w.heap.size := Nat.lt_of_lt_of_le (hRw k hk) hw.size
      rcases ga k h with h | h
      · exact hRo k hk ((hq k).2 (.inl h))
      · omega
    refine wpIn_mono (hbody (D + 1) pre x a' Ψa Wb (by omega) hRa hpre ((fA x a').keep _ _ _ _ hA tb)) ?_
    have tW : Touch Ω W Wb := by
      rw [hWb]
      exact (ta.mono fun k _ h => (hq k).2 (.inl h)).putObj _ _ fun _ => (hq _).2 (.inr (.inr rfl))
    have gW : Swells Ω Ψa W.heap.size := fun k hk => (ga k hk).imp (fun h => (hq k).2 (.inl h)) id
    have fin : ∀ (jump : Option Code) (W3 : World) (Ψ3 : Nat → Prop), Touch Ψa Wb W3 → Swells Ψa Ψ3 Wb.heap.size →
        ∃ W4, (Instr.endRound (D + 1) jump).run P W3 = .ok (.bool jump.isNone) W4 ∧ W4.heap[D + 1]? = some (.loop (rec (if jump.isNone then .ready else .done) jump)) ∧ W4.heap[D]? = some (.deferred (some [])) ∧ Touch Ω W W4 ∧ ¬ Ψ3 D ∧ ¬ Ψ3 (D + 1) ∧ Touch (fun k => D ≤ k ∧ ¬ Ψ3 k) W3 W4 ∧ Swells Ω (fun k => Ψ3 k ∨ k = D ∨ k = D + 1) W.heap.size := fun jump W3 Ψ3 t3 g3 => by
      have hl3 := (t3.block _ (by omega) na2).trans hlb
      have hd3 := (t3.block _ (by omega) na1).trans hdb
      have hr := run_endRound (P := P) jump hl3
      have m1 : ¬ Ψ3 D := fun h => (g3 D h).elim na1 fun h => absurd h (by omega)
      have m2 : ¬ Ψ3 (D + 1) := fun h => (g3 (D + 1) h).elim na2 fun h => absurd h (by omega)
      refine ⟨_, hr, ?_, (World.putObj_heap_other (by omega)).trans hd3, ?_, m1, m2, (Touch.refl _ W3).putObj _ _ fun _ => ⟨by omega, m2⟩, ?_⟩
      · rw [World.putObj_heap_same (lt_of_heap hl3), hrec]
      · exact (tW.swell t3 gW).putObj _ _ fun _ => (hq _).2 (.inr (.inr rfl))
      · rintro k (h | rfl | rfl)
        · rcases g3 k h with h | h
          · exact gW k h
          · exact .inr (by omega)
        · exact .inl ((hq _).2 (.inr (.inl rfl)))
        · exact .inl ((hq _).2 (.inr (.inr rfl)))
    rintro e a3 W3 hp
    cases e with
    | normal =>
      obtain ⟨t3, Ψ3, g3, hi3⟩ := hp
      obtain ⟨W4, hr, hl4, hd4, t4, m1, m2, t5, g5⟩ := fin none W3 Ψ3 t3 g3
      exact ⟨_, W4, hr, t4, _, g5, .inl ⟨rfl, Ψ3, fun k => Iff.rfl, m1, m2, fI.keep _ _ _ _ hi3 t5, hl4, hd4⟩⟩
    | ret =>
      obtain ⟨t3, Ψ3, g3, hi3⟩ := hp
      obtain ⟨W4, hr, hl4, hd4, t4, m1, m2, t5, g5⟩ := fin (some .ret) W3 Ψ3 t3 g3
      exact ⟨_, W4, hr, t4, _, g5, .inr ⟨rfl, .ret, Ψ3, fun k => Iff.rfl, m1, m2, (fIx _).keep _ _ _ _ hi3 t5, hl4, hd4⟩⟩
    | exit id =>
      obtain ⟨t3, Ψ3, g3, hi3⟩ := hp
      obtain ⟨W4, hr, hl4, hd4, t4, m1, m2, t5, g5⟩ := fin (some (.exit id)) W3 Ψ3 t3 g3
      exact ⟨_, W4, hr, t4, _, g5, .inr ⟨rfl, .exit id, Ψ3, fun k => Iff.rfl, m1, m2, (fIx _).keep _ _ _ _ hi3 t5, hl4, hd4⟩⟩
    | goto t =>
      obtain ⟨t3, Ψ3, g3, hi3⟩ := hp
      obtain ⟨W4, hr, hl4, hd4, t4, m1, m2, t5, g5⟩ := fin (some (.goto t)) W3 Ψ3 t3 g3
      exact ⟨_, W4, hr, t4, _, g5, .inr ⟨rfl, .goto t, Ψ3, fun k => Iff.rfl, m1, m2, (fIx _).keep _ _ _ _ hi3 t5, hl4, hd4⟩⟩
    | panic ch => exact hp.elim
    | outgrown => exact hp.elim
  · rintro e W2 ⟨⟨v, rfl⟩, t2, Ω, g2, hj⟩
    have tw : Touch Φ w W2 := (t1.mono fun _ _ h => h.elim).then t2 fun k hk h => by
      rcases h with h | h | h
      · exact h
      · omega
      · omega
    have sw : ∀ Ψ : Nat → Prop, (∀ k, Ω k ↔ Ψ k ∨ k = D ∨ k = D + 1) → Swells Φ Ψ w.heap.size := fun Ψ hq k hk => by
      rcases g2 k ((hq k).2 (.inl hk)) with (h | h | h) | h
      · exact .inl h
      · exact .inr (by omega)
      · exact .inr (by omega)
      · exact .inr (by omega)
    rcases hj with ⟨Ψ, hq, n1, n2, hi, hl, hd⟩ | ⟨pre, hpre, c, Ψ, hq, n1, n2, hi, hl, hd⟩
    · have he := run_endLoop (P := P) hl (by rw [hrec]; simp)
      refine ⟨none, _, by rw [hrec] at he; exact he, ?_⟩
      exact hdone D Ψ _ (by omega) n1 (tw.putObj _ _ fun h => absurd h (by omega)) (sw Ψ hq) (fI.keep _ _ _ _ hi ((Touch.refl _ W2).putObj _ _ fun _ => ⟨by omega, n2⟩)) ((World.putObj_heap_other (by omega)).trans hd)
    · have he := run_endLoop (P := P) hl (by rw [hrec]; simp)
      refine ⟨some c, _, by rw [hrec] at he; exact he, ?_⟩
      exact hstop D c pre Ψ _ (by omega) n1 (tw.putObj _ _ fun h => absurd h (by omega)) (sw Ψ hq) hpre ((fIx c).keep _ _ _ _ hi ((Touch.refl _ W2).putObj _ _ fun _ => ⟨by omega, n2⟩)) ((World.putObj_heap_other (by omega)).trans hd)
end Go.Proofs.YtnilikomoapcaaaGreat
