/- Iterators that keep cells of their own, and iterators over iterators: contracts with footprints (what the caller's loop speaks of is a set of blocks; the iterator's own blocks lie outside it), and the law of a range over such an iterator. They speak of no program. -/
import Derived.Test.YtnbphdmpbjahhaaPart1
import Derived.RangeFuncNested
import Derived.RangeFuncBound
import Derived.RangeFuncCalls
import Derived.RangeFuncLeaves
import Derived.Test.YtnbphdmpbjahhaaPart8
import Derived.Shelf.Abstract
import Derived.Shelf.RegionOpen
import Derived.OwnWalkIn
import Derived.TacticsInMore
import Derived.LoopNIn
import Derived.LoopIn
import Derived.Test.YtnbphdmpbjahhaaPart19
namespace Go.Proofs.Ytnbphdmpbjahhaa
open Go.RowKit
set_option linter.unusedVariables false

theorem wideN {n : Nat} : Fence.wide.depth.isSome = true → 1 ≤ n := fun h => absurd h (by simp [Fence.wide])
/-- At the wide fence no depth is asked: a round is one at any depth, and within another loop's round. -/
theorem round_wide {m m' : Nat} {P : Program} {l : Nat} {f : FuncId} {tmps : Array Value} {assign body : Code} {w : World} {R : Ending → World → Prop} (h : RoundIn Fence.wide m P l f tmps assign body w R) : RoundIn Fence.wide m' P l f tmps assign body w R :=
  ⟨h.1, fun c cs _ => h.2 c cs (fun d h => by cases h)⟩
theorem round_in {m m' : Nat} {P : Program} {l : Nat} {f : FuncId} {tmps : Array Value} {assign body : Code} {w : World} {R : Ending → World → Prop} (q : Nat) (h : RoundIn Fence.wide m P l f tmps assign body w R) : RoundIn (Fence.wide.inRound q) m' P l f tmps assign body w R :=
  round_wide (m' := m') h
theorem Touch.putObj {S : Nat → Prop} {a b : World} (h : Touch S a b) (l : Nat) (o : Obj) (hl : l < a.heap.size → S l) : Touch S a (b.putObj l o) :=
  ⟨h.os, h.tape, h.output, by rw [World.putObj_size]; exact h.size, fun i hi hn => (World.putObj_heap_other (w := b) (r := l) (k := i) fun e => hn (by subst e; exact hl hi)).trans (h.block i hi hn)⟩
/-- I speaks of the blocks below n and of those of Φ alone. -/
structure Foot {β : Type} (n : Nat) (I : β → (Nat → Prop) → World → Prop) : Prop where
  keep : ∀ s Φ A B, I s Φ A → Touch (fun k => n ≤ k ∧ ¬ Φ k) A B → I s Φ B
  lt : ∀ s Φ A, I s Φ A → ∀ k, Φ k → k < A.heap.size
theorem Foot.up {β : Type} {n m : Nat} {I : β → (Nat → Prop) → World → Prop} (h : Foot n I) (hm : n ≤ m) : Foot m I :=
  ⟨fun s Φ A B hi t => h.keep s Φ A B hi (t.mono fun k _ q => ⟨Nat.le_trans hm q.1, q.2⟩), h.lt⟩
/-- A footprint has grown by new blocks alone. -/
def Swells (Φ Ψ : Nat → Prop) (n : Nat) : Prop := ∀ k, Ψ k → Φ k ∨ n ≤ k
theorem Swells.refl (Φ : Nat → Prop) (n : Nat) : Swells Φ Φ n := fun _ h => .inl h
theorem Swells.trans {A B C : Nat → Prop} {n m : Nat} (h : Swells A B n) (k : Swells B C m) (hnm : n ≤ m) : Swells A C n := fun i hi => by
  rcases k i hi with h1 | h1
  · exact h i h1
  · exact .inr (Nat.le_trans hnm h1)
/-- What is touched later is touched from the beginning on, or new. -/
theorem Touch.swell {Φ Ψ : Nat → Prop} {a b c : World} (h : Touch Φ a b) (k : Touch Ψ b c) (g : Swells Φ Ψ a.heap.size) : Touch Φ a c :=
  h.then k fun i hi hp => (g i hp).elim id fun x => absurd x (by omega)
/-- What a round of a caller's loop does: it goes on, or says 'no more'. -/
def RoundP {α : Type} (J Jx : List α → (Nat → Prop) → World → Prop) (pre : List α) (Ψ : Nat → Prop) (W : World) (e : Ending) (W' : World) : Prop :=
  Touch Ψ W W' ∧ ∃ Ψ', Swells Ψ Ψ' W.heap.size ∧ ((e = .returned (.bool true) ∧ J pre Ψ' W') ∨ (e = .returned (.bool false) ∧ Jx pre Ψ' W'))
/-- THE ITERATOR's CONTRACT: made in w, reading the blocks of R; what comes is xs, or a beginning of it. -/
def SeqP {α : Type} (P : Program) (g : Nat) (lb : Array Value) (encs : α → Array Value) (R : Nat → Prop) (xs : List α) (w : World) : Prop :=
  ∀ (l n : Nat) (J Jx : List α → (Nat → Prop) → World → Prop) (W : World) (Φ : Nat → Prop), Touch (fun k => ¬ R k) w W → Foot W.heap.size J → Foot W.heap.size Jx → (∀ k, R k → ¬ Φ k) →
    (∀ pre x Ψ W1, J pre Ψ W1 → (∀ k, R k → ¬ Ψ k) → pre ++ [x] <+: xs → ∀ m, YieldAt Fence.wide m P l (encs x) W1 fun e W' => RoundP J Jx (pre ++ [x]) Ψ W1 e W') →
    J [] Φ W →
    CallsIn Fence.wide n P g (#[.func (.yield l) #[] #[]] ++ lb) W fun e W' => (∃ v, e = .returned v) ∧ Touch Φ W W' ∧ ∃ Ψ, Swells Φ Ψ W.heap.size ∧ (J xs Ψ W' ∨ ∃ pre, pre <+: xs ∧ Jx pre Ψ W')
theorem SeqP.later {α : Type} {P : Program} {g : Nat} {lb : Array Value} {encs : α → Array Value} {R : Nat → Prop} {xs : List α} {w w' : World} (h : SeqP P g lb encs R xs w) (t : Touch (fun k => ¬ R k) w w') : SeqP P g lb encs R xs w' :=
  fun l n J Jx W Φ hW => h l n J Jx W Φ (t.trans hW)
/-- How a round's body may be left. -/
def postP {α : Type} (I : List α → (Nat → Prop) → World → Prop) (Ix : Code → List α → (Nat → Prop) → World → Prop) (ys : List α) (Ψ : Nat → Prop) (W : World) : Exit → Act → World → Prop
  | .normal, _, W' => Touch Ψ W W' ∧ ∃ Ψ', Swells Ψ Ψ' W.heap.size ∧ I ys Ψ' W'
  | .ret, _, W' => Touch Ψ W W' ∧ ∃ Ψ', Swells Ψ Ψ' W.heap.size ∧ Ix .ret ys Ψ' W'
  | .exit id, _, W' => Touch Ψ W W' ∧ ∃ Ψ', Swells Ψ Ψ' W.heap.size ∧ Ix (.exit id) ys Ψ' W'
  | .goto t, _, W' => Touch Ψ W W' ∧ ∃ Ψ', Swells Ψ Ψ' W.heap.size ∧ Ix (.goto t) ys Ψ' W'
  | .panic _, _, _ => False
  | .outgrown, _, _ => False
/-- The caller's word with the two blocks of book-keeping in its footprint. -/
def BookP {α : Type} (D : Nat) (o : Obj) (I : List α → (Nat → Prop) → World → Prop) (pre : List α) (Ω : Nat → Prop) (W : World) : Prop :=
  ∃ Ψ, (∀ k, Ω k ↔ Ψ k ∨ k = D ∨ k = D + 1) ∧ ¬ Ψ D ∧ ¬ Ψ (D + 1) ∧ I pre Ψ W ∧ W.heap[D + 1]? = some o ∧ W.heap[D]? = some (.deferred (some []))
theorem BookP.foot {α : Type} {D : Nat} {o : Obj} {I : List α → (Nat → Prop) → World → Prop} (h : Foot D I) : Foot (D + 2) (BookP D o I) := by
  refine ⟨fun s Ω A B => ?_, fun s Ω A => ?_⟩
  · rintro ⟨Ψ, hq, n1, n2, hi, h1, h2⟩ t
    exact ⟨Ψ, hq, n1, n2, h.keep s Ψ A B hi (t.mono fun k _ hk => ⟨by have := hk.1; omega, fun hp => hk.2 ((hq k).2 (.inl hp))⟩), (t.block _ (lt_of_heap h1) fun x => absurd x.1 (by omega)).trans h1, (t.block _ (lt_of_heap h2) fun x => absurd x.1 (by omega)).trans h2⟩
  · rintro ⟨Ψ, hq, n1, n2, hi, h1, h2⟩ k hk
    rcases (hq k).1 hk with e | rfl | rfl
    · exact h.lt s Ψ A hi k e
    · exact lt_of_heap h2
    · exact lt_of_heap h1
theorem foot_ex {α γ : Type} {n : Nat} {I : γ → List α → (Nat → Prop) → World → Prop} (h : ∀ c, Foot n (I c)) : Foot n (fun s Φ W => ∃ c, I c s Φ W) :=
  ⟨fun s Φ A B ⟨c, hc⟩ t => ⟨c, (h c).keep s Φ A B hc t⟩, fun s Φ A ⟨c, hc⟩ => (h c).lt s Φ A hc⟩

set_option maxHeartbeats 1600000 in
/-- THE LAW OF A RANGE OVER SUCH AN ITERATOR (outside of any round). -/
theorem wp_range {α : Type} {P : Program} {n : Nat} {g : Operand} {ps : Array Tmp} {assign body : Code} {Q : Exit → Act → World → Prop} {a : Act} {w : World}
    {gf : Nat} {lb : Array Value} (hg : a.eval g = .func (.func gf) #[] lb) (eg : ∀ args w, (callFunc gf args).run P w = .ok (.enter gf args) w)
    {encs : α → Array Value} {R : Nat → Prop} {xs : List α} {w0 : World} (hseq : SeqP P gf lb encs R xs w0) (hw : Touch (fun k => ¬ R k) w0 w) (hRw : ∀ k, R k → k < w0.heap.size) (hps : ∀ x, (encs x).size = ps.size)
    (I : List α → (Nat → Prop) → World → Prop) (Ix : Code → List α → (Nat → Prop) → World → Prop) (fI : Foot w.heap.size I) (fIx : ∀ c, Foot w.heap.size (Ix c)) (Φ : Nat → Prop) (hR : ∀ k, R k → ¬ Φ k) (h0 : I [] Φ w)
    (A : α → Act → List α → (Nat → Prop) → World → Prop) (fA : ∀ x a', Foot w.heap.size (A x a'))
    (hassign : ∀ (l : Nat) (pre : List α) (x : α) (Ψ : Nat → Prop) (W : World) (K : Act → World → Prop), I pre Ψ W → (∀ a' W' Ψ', Touch Ψ W W' → Swells Ψ Ψ' W.heap.size → A x a' pre Ψ' W' → K a' W') →
      assign.wpIn (Fence.wide.inRound l) (n - 1 - 1) P (Exit.then K (fun _ _ _ => False)) { tmps := (ps.zip (encs x)).foldl (fun t (p, v) => t.setIfInBounds p v) a.tmps, defers := [] } W)
    (hbody : ∀ (l : Nat) (pre : List α) (x : α) (a' : Act) (Ψ : Nat → Prop) (W : World), w.heap.size < W.heap.size → (∀ k, R k → ¬ Ψ k) → pre ++ [x] <+: xs → A x a' pre Ψ W →
      body.wpIn (Fence.wide.inRound l) (n - 1 - 1) P (postP I Ix (pre ++ [x]) Ψ W) a' W)
    (hdone : ∀ (D : Nat) (Ψ : Nat → Prop) (W : World), w.heap.size ≤ D → ¬ Ψ D → Touch Φ w W → Swells Φ Ψ w.heap.size → I xs Ψ W → W.heap[D]? = some (.deferred (some [])) → Q .normal { a with defers := { target := .collected D, args := #[] } :: a.defers } W)
    (hstop : ∀ (D : Nat) (c : Code) (pre : List α) (Ψ : Nat → Prop) (W : World), w.heap.size ≤ D → ¬ Ψ D → Touch Φ w W → Swells Φ Ψ w.heap.size → pre <+: xs → Ix c pre Ψ W → W.heap[D]? = some (.deferred (some [])) → c.wpIn Fence.wide n P Q { a with defers := { target := .collected D, args := #[] } :: a.defers } W) :
    (Code.rangeFunc g ps assign body).wpIn Fence.wide n P Q a w := by
  refine wpIn_rangeFunc ?_
  intro fn hfn
  obtain ⟨rec, hrec⟩ : ∃ rec : LoopState → Option Code → Loop, rec = fun st pe => { state := st, pending := pe, fn, tmps := a.tmps, params := ps, assign, body, defers := w.heap.size } := ⟨_, rfl⟩
  obtain ⟨D, hD⟩ : ∃ D, D = w.heap.size := ⟨_, rfl⟩
  obtain ⟨W1, hW1⟩ : ∃ W1, (w.alloc (.deferred (some []))).alloc (.loop (rec .ready none)) = W1 := ⟨_, rfl⟩
  have hs1 : W1.heap.size = D + 2 := by rw [← hW1, hD]; simp
  have t1 : Touch (fun _ => False) w W1 := by rw [← hW1]; exact ((Touch.refl _ w).alloc _).alloc _
  have l1 : W1.heap[D + 1]? = some (.loop (rec .ready none)) := by
    rw [← hW1, hD]
    have := World.alloc_heap_new (w.alloc (.deferred (some []))) (.loop (rec .ready none))
    rwa [World.size_alloc] at this
  have d1 : W1.heap[D]? = some (.deferred (some [])) := by
    rw [← hW1, hD]; exact (Below.heap_alloc _ _ _ (by simp)).trans (World.alloc_heap_new w _)
  have nD : ∀ k, Φ k → k < D := fun k hk => by rw [hD]; exact fI.lt _ _ _ h0 k hk
  rw [← hD] at fI fIx fA
  have i1 : I [] Φ W1 := fI.keep _ _ _ _ h0 (t1.mono fun _ _ h => h.elim)
  refine ⟨D + 1, [{ target := .collected D, args := #[] }], W1, { target := .fn (.func gf) lb, args := #[.func (.yield (D + 1)) #[] #[]] }, W1, gf,
    #[.func (.yield (D + 1)) #[] #[]] ++ lb, W1, ?_, ?_, fun _ _ => trivial, ?_, wideN, ?_⟩
  · rw [← hW1, hrec, hD]; exact run_enterLoop_outer _ _ _ _ _
  · simp only [resolve, hg]
    simp [go_sem]
  · simp [invoke, go_sem, eg]
  refine (hseq (D + 1) (n - 1) (BookP D (.loop (rec .ready none)) I) (fun pre Ω W => ∃ c, BookP D (.loop (rec .done (some c))) (Ix c) pre Ω W) W1 (fun k => Φ k ∨ k = D ∨ k = D + 1)
    (hw.trans (t1.mono fun _ _ h => h.elim)) (by rw [hs1]; exact BookP.foot fI) (by rw [hs1]; exact foot_ex fun c => BookP.foot (fIx c)) ?_ ?_ ⟨Φ, fun k => Iff.rfl, fun h => absurd (nD _ h) (by omega), fun h => absurd (nD _ h) (by omega), i1, l1, d1⟩).mono ?_
  · intro k hk
    have hlt : k < w.heap.size := Nat.lt_of_lt_of_le (hRw k hk) hw.size
    rintro (h | h | h)
    · exact hR k hk h
    · omega
    · omega
  · rintro pre x Ω W ⟨Ψ, hq, n1, n2, hi, hl, hd⟩ hRo hpre m
    have hlt : D + 1 < W.heap.size := lt_of_heap hl
    have hy := run_yield (P := P) (args := encs x) hl (by rw [hrec]; exact hps x)
    rw [hrec] at hy
    refine ⟨fn, _, assign, body, hy, ?_⟩
    have hRI := roundIn_of_wpIn (F := Fence.wide) (n := n - 1 - 1) (P := P) (l := D + 1) (f := fn) (tmps := (ps.zip (encs x)).foldl (fun t (p, v) => t.setIfInBounds p v) a.tmps) (assign := assign) (body := body) (w := W) (R := RoundP (BookP D (.loop (rec .ready none)) I) (fun pre Ω W => ∃ c, BookP D (.loop (rec .done (some c))) (Ix c) pre Ω W) (pre ++ [x]) Ω W) hfn ?_
    · exact ⟨hRI.1, fun c cs _ => hRI.2 c cs (fun d h => by cases h)⟩
    refine hassign (D + 1) pre x Ψ W _ hi ?_
    intro a' Wa Ψa ta ga hA
    have hla := (ta.block _ hlt n2).trans hl
    have hda := (ta.block _ (lt_of_heap hd) n1).trans hd
    have na1 : ¬ Ψa D := fun h => (ga D h).elim n1 fun h => absurd h (by omega)
    have na2 : ¬ Ψa (D + 1) := fun h => (ga (D + 1) h).elim n2 fun h => absurd h (by omega)
    have hsa := ta.size
    refine ⟨_, run_beginRound hla (by rw [hrec]), ?_⟩
    obtain ⟨Wb, hWb⟩ : ∃ Wb, Wb = Wa.putObj (D + 1) (.loop { rec .ready none with state := .busy }) := ⟨_, rfl⟩
    rw [← hWb]
    have hsb : Wb.heap.size = Wa.heap.size := by rw [hWb]; simp
    have hlb : Wb.heap[D + 1]? = some (.loop { rec .ready none with state := .busy }) := by rw [hWb]; exact World.putObj_heap_same (by omega)
    have hdb : Wb.heap[D]? = some (.deferred (some [])) := by rw [hWb]; exact (World.putObj_heap_other (by omega)).trans hda
    have tb : Touch (fun k => D ≤ k ∧ ¬ Ψa k) Wa Wb := by rw [hWb]; exact (Touch.refl _ Wa).putObj _ _ fun _ => ⟨by omega, na2⟩
    have hRa : ∀ k, R k → ¬ Ψa k := fun k hk h => by
      have hlt : k < w.heap.size := Nat.lt_of_lt_of_le (hRw k hk) hw.size
      rcases ga k h with h | h
      · exact hRo k hk ((hq k).2 (.inl h))
      · omega
    refine wpIn_mono (hbody (D + 1) pre x a' Ψa Wb (by omega) hRa hpre ((fA x a').keep _ _ _ _ hA tb)) ?_
    have tW : Touch Ω W Wb := by
      rw [hWb]
      exact (ta.mono fun k _ h => (hq k).2 (.inl h)).putObj _ _ fun _ => (hq _).2 (.inr (.inr rfl))
    have gW : Swells Ω Ψa W.heap.size := fun k hk => (ga k hk).imp (fun h => (hq k).2 (.inl h)) id
    have fin : ∀ (jump : Option Code) (W3 : World) (Ψ3 : Nat → Prop), Touch Ψa Wb W3 → Swells Ψa Ψ3 Wb.heap.size →
        ∃ W4, (Instr.endRound (D + 1) jump).run P W3 = .ok (.bool jump.isNone) W4 ∧ W4.heap[D + 1]? = some (.loop (rec (if jump.isNone then .ready else .done) jump)) ∧ W4.heap[D]? = some (.deferred (some [])) ∧ Touch Ω W W4 ∧ ¬ Ψ3 D ∧ ¬ Ψ3 (D + 1) ∧ Touch (fun k => D ≤ k ∧ ¬ Ψ3 k) W3 W4 ∧ Swells Ω (fun k => Ψ3 k ∨ k = D ∨ k = D + 1) W.heap.size := fun jump W3 Ψ3 t3 g3 => by
      have hl3 := (t3.block _ (by omega) na2).trans hlb
      have hd3 := (t3.block _ (by omega) na1).trans hdb
      have hr := run_endRound (P := P) jump hl3
      have m1 : ¬ Ψ3 D := fun h => (g3 D h).elim na1 fun h => absurd h (by omega)
      have m2 : ¬ Ψ3 (D + 1) := fun h => (g3 (D + 1) h).elim na2 fun h => absurd h (by omega)
      refine ⟨_, hr, ?_, (World.putObj_heap_other (by omega)).trans hd3, ?_, m1, m2, (Touch.refl _ W3).putObj _ _ fun _ => ⟨by omega, m2⟩, ?_⟩
      · rw [World.putObj_heap_same (lt_of_heap hl3), hrec]
      · exact (tW.swell t3 gW).putObj _ _ fun _ => (hq _).2 (.inr (.inr rfl))
      · rintro k (h | rfl | rfl)
        · rcases g3 k h with h | h
          · exact gW k h
          · exact .inr (by omega)
        · exact .inl ((hq _).2 (.inr (.inl rfl)))
        · exact .inl ((hq _).2 (.inr (.inr rfl)))
    rintro e a3 W3 hp
    cases e with
    | normal =>
      obtain ⟨t3, Ψ3, g3, hi3⟩ := hp
      obtain ⟨W4, hr, hl4, hd4, t4, m1, m2, t5, g5⟩ := fin none W3 Ψ3 t3 g3
      exact ⟨_, W4, hr, t4, _, g5, .inl ⟨rfl, Ψ3, fun k => Iff.rfl, m1, m2, fI.keep _ _ _ _ hi3 t5, hl4, hd4⟩⟩
    | ret =>
      obtain ⟨t3, Ψ3, g3, hi3⟩ := hp
      obtain ⟨W4, hr, hl4, hd4, t4, m1, m2, t5, g5⟩ := fin (some .ret) W3 Ψ3 t3 g3
      exact ⟨_, W4, hr, t4, _, g5, .inr ⟨rfl, .ret, Ψ3, fun k => Iff.rfl, m1, m2, (fIx _).keep _ _ _ _ hi3 t5, hl4, hd4⟩⟩
    | exit id =>
      obtain ⟨t3, Ψ3, g3, hi3⟩ := hp
      obtain ⟨W4, hr, hl4, hd4, t4, m1, m2, t5, g5⟩ := fin (some (.exit id)) W3 Ψ3 t3 g3
      exact ⟨_, W4, hr, t4, _, g5, .inr ⟨rfl, .exit id, Ψ3, fun k => Iff.rfl, m1, m2, (fIx _).keep _ _ _ _ hi3 t5, hl4, hd4⟩⟩
    | goto t =>
      obtain ⟨t3, Ψ3, g3, hi3⟩ := hp
      obtain ⟨W4, hr, hl4, hd4, t4, m1, m2, t5, g5⟩ := fin (some (.goto t)) W3 Ψ3 t3 g3
      exact ⟨_, W4, hr, t4, _, g5, .inr ⟨rfl, .goto t, Ψ3, fun k => Iff.rfl, m1, m2, (fIx _).keep _ _ _ _ hi3 t5, hl4, hd4⟩⟩
    | panic ch => exact hp.elim
    | outgrown => exact hp.elim
  · rintro e W2 ⟨⟨v, rfl⟩, t2, Ω, g2, hj⟩
    have tw : Touch Φ w W2 := (t1.mono fun _ _ h => h.elim).then t2 fun k hk h => by
      rcases h with h | h | h
      · exact h
      · omega
      · omega
    have sw : ∀ Ψ : Nat → Prop, (∀ k, Ω k ↔ Ψ k ∨ k = D ∨ k = D + 1) → Swells Φ Ψ w.heap.size := fun Ψ hq k hk => by
      rcases g2 k ((hq k).2 (.inl hk)) with (h | h | h) | h
      · exact .inl h
      · exact .inr (by omega)
      · exact .inr (by omega)
      · exact .inr (by omega)
    rcases hj with ⟨Ψ, hq, n1, n2, hi, hl, hd⟩ | ⟨pre, hpre, c, Ψ, hq, n1, n2, hi, hl, hd⟩
    · have he := run_endLoop (P := P) hl (by rw [hrec]; simp)
      refine ⟨none, _, by rw [hrec] at he; exact he, ?_⟩
      exact hdone D Ψ _ (by omega) n1 (tw.putObj _ _ fun h => absurd h (by omega)) (sw Ψ hq) (fI.keep _ _ _ _ hi ((Touch.refl _ W2).putObj _ _ fun _ => ⟨by omega, n2⟩)) ((World.putObj_heap_other (by omega)).trans hd)
    · have he := run_endLoop (P := P) hl (by rw [hrec]; simp)
      refine ⟨some c, _, by rw [hrec] at he; exact he, ?_⟩
      exact hstop D c pre Ψ _ (by omega) n1 (tw.putObj _ _ fun h => absurd h (by omega)) (sw Ψ hq) hpre ((fIx c).keep _ _ _ _ hi ((Touch.refl _ W2).putObj _ _ fun _ => ⟨by omega, n2⟩)) ((World.putObj_heap_other (by omega)).trans hd)
end Go.Proofs.Ytnbphdmpbjahhaa

/- Package seq: the things of a row one after another: row.all's iterator. -/
namespace Go.Proofs.Ytnbphdmpbjahhaa
open Go.RowKit Go.Shelf
set_option linter.unusedVariables false
set_option linter.unusedSimpArgs false
set_option maxRecDepth 100000
attribute [local go_sem] Oper.semAt_some

/-- The thing that stands at a place of a row, 0 behind the last. -/
def nthF (F : List Nat) (j : Nat) : Nat := (F.drop j).headD 0
theorem nextF_zero (F : List Nat) : nextF F 0 = nthF F 0 := by unfold nextF nthF; simp
theorem nthF_get {F : List Nat} {j : Nat} (h : j < F.length) : nthF F j = F[j] := by
  unfold nthF
  rw [List.drop_eq_getElem_cons h]; rfl
theorem nthF_end {F : List Nat} {j : Nat} (h : F.length ≤ j) : nthF F j = 0 := by
  unfold nthF
  rw [List.drop_eq_nil_of_le h]; rfl
theorem nextF_nth {F : List Nat} (hn : F.Nodup) (hp : ∀ x ∈ F, 1 ≤ x) {j : Nat} (h : j < F.length) : nextF F (nthF F j) = nthF F (j + 1) := by
  have e : F = F.take j ++ F[j] :: F.drop (j + 1) := by rw [← List.drop_eq_getElem_cons h, List.take_append_drop]
  rw [nthF_get h]
  have h1 := hp F[j] (List.getElem_mem h)
  have hn' := hn
  rw [e] at hn'
  have h2 := (List.nodup_append.1 hn').2.2
  have h3 : F[j] ∉ F.take j := fun q => h2 _ q _ List.mem_cons_self rfl
  have := nextF_of (a := F.take j) (b := F.drop (j + 1)) (i := F[j]) (by omega) h3
  rw [← e] at this
  exact this
theorem idx_nth {F : List Nat} (hn : F.Nodup) (hp : ∀ x ∈ F, 1 ≤ x) {j : Nat} (h : j ≤ F.length) : F.idxOf (nthF F j) = j := by
  by_cases hj : j < F.length
  · rw [nthF_get hj]; exact hn.idxOf_getElem j hj
  · have e : j = F.length := by omega
    subst e
    rw [nthF_end (Nat.le_refl _)]
    exact List.idxOf_eq_length fun q => by have := hp 0 q; omega
theorem take_pre {α : Type} {F : List α} {j : Nat} (h : j < F.length) : F.take j ++ [F[j]] <+: F := by
  rw [← List.take_succ_eq_append_getElem h]
  exact List.take_prefix _ _

set_option maxHeartbeats 4000000 in
theorem rowAll_stops {w : World} {b k g cap n : Nat} {F : List Nat} {len : Nat → Int} (h : RowAt w b k g cap n F len) (B : Nat) (hB : w.heap[B]? = some (.cells #[rP b k] 109 (0, 0))) :
    SeqP Try.prog 81 #[.pointer (some ⟨B, 0, none⟩)] (fun i : Nat => #[iV (i : Int)]) (fun x => x = B ∨ x = b ∨ x = g) F w := fun l n' J Jx W Φ hW fJ fJx hR hY h0 => by
  have hF := h.form
  have HB : Hid (∀ wr, Touch Φ W wr → wr.cell? ⟨B, 0, none⟩ = some (rP b k)) := fun wr t => by
    have e := (hW.block _ (lt_of_heap hB) fun q => q (.inl rfl)).trans hB
    rw [cell_of_block ((t.block _ (lt_of_heap e) (hR B (.inl rfl))).trans e)]; rfl
  have HRow : Hid (∀ wr, Touch Φ W wr → RowAt wr b k g cap n F len) := fun wr t => (h.keep hW (fun q => q (.inr (.inl rfl))) (fun q => q (.inr (.inr rfl)))).keep t (hR b (.inr (.inl rfl))) (hR g (.inr (.inr rfl)))
  have HN : Hid (∀ wr, Touch Φ W wr → ∀ j, j < F.length → Calls Try.prog 82 #[rP b k, iV (nthF F j : Int)] wr fun e w' => e = .returned (iV (nthF F (j + 1) : Int)) ∧ Touch (fun _ => False) wr w') := fun wr t j hj => by
    have h1 := nextF_nth hF.nod (fun x hx => ((hF.lab x).1 hx).1) hj
    rw [← h1]
    exact r_next (HRow.out wr t) _ (by rw [nthF_get hj]; exact ((hF.lab _).1 (List.getElem_mem hj)).2)
  have C0 := r_next (HRow.out W (Touch.refl _ _)) 0 hF.n0
  rw [nextF_zero] at C0
  have HL : Hid (∀ j, j < F.length → nthF F j = F[j]! ∧ nthF F j ≠ 0 ∧ nthF F j < n) := fun j hj => by
    have := (hF.lab _).1 (List.getElem_mem hj)
    rw [nthF_get hj]
    exact ⟨by rw [getElem!_pos F j hj], by omega, this.2⟩
  have HY : Hid _ := hY
  have HFJ : Hid (Foot W.heap.size J) := fJ
  have HRP : Hid (∀ Ψ : Nat → Prop, Swells Φ Ψ W.heap.size → ∀ x, (x = B ∨ x = b ∨ x = g) → ¬ Ψ x) := fun Ψ hs x hx hp => by
    rcases hs x hp with q | q
    · exact hR x hx q
    · have h1 : x < W.heap.size := by
        rcases hx with rfl | rfl | rfl
        · exact Nat.lt_of_lt_of_le (lt_of_heap hB) hW.size
        · exact Nat.lt_of_lt_of_le (World.block_lt_of_cell? _ _ h.cellb) hW.size
        · exact Nat.lt_of_lt_of_le h.lt hW.size
      omega
  have c0 := HB.out W (Touch.refl _ _)
  have HP : Hid (∀ j, (hj : j < F.length) → F.take j ++ [nthF F j] <+: F ∧ F.take (j + 1) = F.take j ++ [nthF F j]) := fun j hj => by
    rw [nthF_get hj]
    exact ⟨take_pre hj, List.take_succ_eq_append_getElem hj⟩
  have HI : Hid (∀ j, j ≤ F.length → F.idxOf (nthF F j) = j) := fun j hj => idx_nth hF.nod (fun x hx => ((hF.lab x).1 hx).1) hj
  have HE : Hid (nthF F F.length = 0) := nthF_end (Nat.le_refl _)
  have HT : Hid (F.take F.length = F) := List.take_length
  clear hW hR hY hB h hF fJ fJx
  refine callsIn_of_wp Try.func81 rfl trivial ?_ rfl
  simp only [Try.ntmps81, List.size_toArray, List.length_cons, List.length_nil, Nat.reduceAdd, Nat.reduceSub, Array.replicate_succ, Array.replicate_zero, List.push_toArray, List.append_toArray, List.nil_append, List.cons_append]
  gi_wp2_with fail
  refine ⟨trivial, wideN, (callsIn_wide.2 C0).mono ?_⟩
  rintro e W1 ⟨rfl, t1⟩
  have HT1 : Hid (Touch Φ W W1) := t1.mono fun _ _ q => q.elim
  have HJ1 : Hid (J [] Φ W1) := HFJ.out.keep _ _ _ _ h0 (t1.mono fun _ _ q => q.elim)
  clear t1 h0 C0 c0
  gi_wp2
  gi_loopw [3] (fun i wr => ∃ (j : Nat) (Ψ : Nat → Prop), i = iV (nthF F j : Int) ∧ j ≤ F.length ∧ J (F.take j) Ψ wr ∧ Touch Φ W wr ∧ Swells Φ Ψ W.heap.size) (fun i _ => F.length - F.idxOf (intOf i).toNat)
  case atStart => exact ⟨0, Φ, rfl, Nat.zero_le _, HJ1.out, HT1.out, Swells.refl _ _⟩
  case round =>
    obtain ⟨j, Ψ, rfl, hj, hJr, hTr, hSr⟩ := hrel
    by_cases hlt : j < F.length
    · obtain ⟨-, hne, -⟩ := HL.out j hlt
      obtain ⟨hp1, hp2⟩ := HP.out j hlt
      have HP1 : Hid (F.take j ++ [nthF F j] <+: F) := hp1
      have HP2 : Hid (F.take (j + 1) = F.take j ++ [nthF F j]) := hp2
      have hsz := hTr.size
      have HI1 := HI.out j hj
      have HI2 := HI.out (j + 1) hlt
      have HM : Hid (F.length - F.idxOf (nthF F (j + 1)) < F.length - F.idxOf (nthF F j)) := by rw [Hid, HI1, HI2]; omega
      have HNj : Hid (∀ wr, Touch Φ W wr → Calls Try.prog 82 #[rP b k, iV (nthF F j : Int)] wr fun e w' => e = .returned (iV (nthF F (j + 1) : Int)) ∧ Touch (fun _ => False) wr w') := fun wr t => HN.out wr t j hlt
      generalize hyE : nthF F (j + 1) = y at *
      have HyE : Hid (nthF F (j + 1) = y) := hyE
      clear hyE
      generalize nthF F j = x at *
      have hx : ¬ ((x : Int) = 0) := by omega
      obtain ⟨fn, tmps, assign, body, hy, hRd⟩ := HY.out (F.take j) x Ψ wr hJr (HRP.out Ψ hSr) HP1.out 0
      have HTr : Hid (Touch Φ W wr) := hTr
      have HSr : Hid (Swells Φ Ψ W.heap.size) := hSr
      clear hJr hTr hSr hp1 hp2 HI1 HI2 hne
      gi_wp2
      refine ⟨wideN, (round_wide hRd).mono ?_⟩
      rintro e W3 ⟨t3, Ψ3, s3, (⟨rfl, hJ3⟩ | ⟨rfl, hJ3⟩)⟩
      · have HT3 : Hid (Touch Φ W W3) := HTr.out.swell t3 HSr.out
        have HS3 : Hid (Swells Φ Ψ3 W.heap.size) := HSr.out.trans s3 hsz
        have HJ3 : Hid (J (F.take j ++ [x]) Ψ3 W3) := hJ3
        have c3 := HB.out W3 HT3.out
        have C3 := HNj.out W3 HT3.out
        clear hy hRd t3 s3 hJ3
        gi_wp2
        refine ⟨trivial, wideN, (callsIn_wide.2 C3).mono ?_⟩
        rintro e W4 ⟨rfl, t4⟩
        have HT4 : Hid (Touch (fun _ => False) W3 W4) := t4
        clear t4 C3 c3
        gi_wp2
        go_roundw
        case rel => exact ⟨j + 1, Ψ3, by rw [HyE.out], by omega, by rw [HP2.out]; exact HFJ.out.keep _ _ _ _ HJ3.out (HT4.out.mono fun _ _ q => q.elim), HT3.out.trans (HT4.out.mono fun _ _ q => q.elim), HS3.out⟩
        case measure => simp only [intOf, Int.toNat_natCast]; exact HM.out
      · have HT3 : Hid (Touch Φ W W3) := HTr.out.swell t3 HSr.out
        have HS3 : Hid (Swells Φ Ψ3 W.heap.size) := HSr.out.trans s3 hsz
        gi_wp2
        refine bodyPost_ret (results_none rfl _ _ _) rfl ?_
        exact ⟨⟨_, rfl⟩, HT3.out, Ψ3, HS3.out, .inr ⟨_, HP1.out, hJ3⟩⟩
    · have hjl : j = F.length := by omega
      subst hjl
      rw [HE.out] at *
      gi_wp2
      go_end0
      exact ⟨⟨_, rfl⟩, hTr, Ψ, hSr, .inl (by rw [← HT.out]; exact hJr)⟩
end Go.Proofs.Ytnbphdmpbjahhaa

/- Package seq: the spots of a sequence one after another: spots' iterator, over row.all's. -/
namespace Go.Proofs.Ytnbphdmpbjahhaa
open Go.RowKit Go.Shelf
set_option linter.unusedVariables false
set_option linter.unusedSimpArgs false
set_option maxRecDepth 100000
attribute [local go_sem] Oper.semAt_some

theorem rowAll_any (b k : Nat) (w : World) : Calls Try.prog 76 #[rP b k] w fun e w' => e = .returned (.func (.func 81) #[] #[.pointer (some ⟨w.heap.size, 0, none⟩)]) ∧ w' = w.alloc (.cells #[rP b k] 109) := by
  go_enter Try.func76, Try.ntmps76
  go_wp2_with fail
  go_ret
  exact ⟨rfl, rfl⟩
theorem spots_any (b : Nat) (w : World) : Calls Try.prog 66 #[.pointer (some ⟨b, 0, none⟩)] w fun e w' => e = .returned (.func (.func 75) #[] #[.pointer (some ⟨w.heap.size, 0, none⟩)]) ∧ w' = w.alloc (.cells #[.pointer (some ⟨b, 0, none⟩)] 24) := by
  go_enter Try.func66, Try.ntmps66
  go_wp2_with fail
  go_ret
  exact ⟨rfl, rfl⟩
theorem all_any (b : Nat) (w : World) : Calls Try.prog 43 #[.pointer (some ⟨b, 0, none⟩)] w fun e w' => e = .returned (.func (.func 65) #[] #[.pointer (some ⟨w.heap.size, 0, none⟩)]) ∧ w' = w.alloc (.cells #[.pointer (some ⟨b, 0, none⟩)] 24) := by
  go_enter Try.func43, Try.ntmps43
  go_wp2_with fail
  go_ret
  exact ⟨rfl, rfl⟩
/-- The box in which an iterator keeps its yield. -/
abbrev yO (l t : Nat) : Obj := .cells #[.func (.yield l) #[] #[]] t (0, 0)
theorem spots_take (S : SS) {j : Nat} (h : j < S.ord.length) (m : Nat) (hm : (m : Int) ≤ S.len S.ord[j]) : (S.ord.take j).flatMap S.pcSp ++ spotsFrom (S.pc S.ord[j]) m <+: S.spots := by
  unfold SS.spots
  have e : S.ord = S.ord.take j ++ S.ord[j] :: S.ord.drop (j + 1) := by rw [← List.drop_eq_getElem_cons h, List.take_append_drop]
  conv => rhs; rw [e]
  rw [List.flatMap_append, List.flatMap_cons]
  refine (List.prefix_append_right_inj _).2 ?_
  have e2 : S.pcSp S.ord[j] = spotsFrom (S.pc S.ord[j]) m ++ spotsFrom ⟨(S.pc S.ord[j]).run, (S.pc S.ord[j]).pos + (m : Int)⟩ ((S.len S.ord[j]).toNat - m) := by
    rw [← spotsFrom_add]
    unfold SS.pcSp
    congr 1
    omega
  rw [e2, List.append_assoc]
  exact List.prefix_append _ _
theorem spotsFrom_snoc (x : Sp) (m : Nat) : spotsFrom x (m + 1) = spotsFrom x m ++ [⟨x.run, x.pos + (m : Int)⟩] := by
  rw [spotsFrom_add]
  congr 1
  simp [spotsFrom]
theorem pre_snoc {α : Type} {F pre : List α} {x : α} (h : pre ++ [x] <+: F) : ∃ h : pre.length < F.length, pre = F.take pre.length ∧ x = F[pre.length] := by
  obtain ⟨t, ht⟩ := h
  subst ht
  refine ⟨by simp, by simp, by simp⟩
/-- Between two rounds of the range over the row. -/
structure SpI (S : SS) (J : List Sp → (Nat → Prop) → World → Prop) (l : Nat) (Φ : Nat → Prop) (W : World) (w1 : Nat) (pre : List Nat) (Ψ : Nat → Prop) (W' : World) : Prop where
  j : J (pre.flatMap S.pcSp) Ψ W'
  t : Touch Φ W W'
  s : Swells Φ Ψ w1
  y : W'.heap[W.heap.size]? = some (yO l 121)
theorem SpI.foot {S : SS} {J : List Sp → (Nat → Prop) → World → Prop} {l : Nat} {Φ : Nat → Prop} {W : World} {w1 : Nat} (f : Foot W.heap.size J) (hw : W.heap.size < w1) : Foot w1 (SpI S J l Φ W w1) :=
  ⟨fun s Ψ A B h t => ⟨(f.up (Nat.le_of_lt hw)).keep _ _ _ _ h.j t, h.t.then t fun k hk q => absurd q.1 (by omega), h.s, (t.block _ (lt_of_heap h.y) fun q => absurd q.1 (by omega)).trans h.y⟩, fun s Ψ A h => f.lt _ _ _ h.j⟩
structure SpX (S : SS) (Jx : List Sp → (Nat → Prop) → World → Prop) (Φ : Nat → Prop) (W : World) (w1 : Nat) (c : Code) (pre : List Nat) (Ψ : Nat → Prop) (W' : World) : Prop where
  c : c = .ret
  j : ∃ ys, ys <+: S.spots ∧ Jx ys Ψ W'
  t : Touch Φ W W'
  s : Swells Φ Ψ w1
theorem SpX.foot {S : SS} {Jx : List Sp → (Nat → Prop) → World → Prop} {Φ : Nat → Prop} {W : World} {w1 : Nat} (f : Foot W.heap.size Jx) (hw : W.heap.size < w1) (c : Code) : Foot w1 (SpX S Jx Φ W w1 c) :=
  ⟨fun s Ψ A B h t => ⟨h.c, by obtain ⟨ys, h1, h2⟩ := h.j; exact ⟨ys, h1, (f.up (Nat.le_of_lt hw)).keep _ _ _ _ h2 t⟩, h.t.then t fun k hk q => absurd q.1 (by omega), h.s⟩, fun s Ψ A h => by obtain ⟨ys, h1, h2⟩ := h.j; exact f.lt _ _ _ h2⟩

set_option maxHeartbeats 8000000 in
theorem spots_stops {w : World} {B : Bk} {S : SS} (h : SeqM w B S) (hi : Inv S) (C : Nat) (hC : w.heap[C]? = some (.cells #[sP B] 24 (0, 0))) :
    SeqP Try.prog 75 #[.pointer (some ⟨C, 0, none⟩)] (fun x : Sp => #[spV x]) (fun x => x = C ∨ B.has x) S.spots w := fun l n' J Jx W Φ hW fJ fJx hR hY h0 => by
  have hCl : C < W.heap.size := Nat.lt_of_lt_of_le (lt_of_heap hC) hW.size
  have hBl : ∀ x, B.has x → x < W.heap.size := fun x hx => Nat.lt_of_lt_of_le (h.lt hx) hW.size
  have HB : Hid (∀ wr, Touch Φ W wr → wr.cell? ⟨C, 0, none⟩ = some (sP B)) := fun wr t => by
    have e := (hW.block _ (lt_of_heap hC) fun q => q (.inl rfl)).trans hC
    rw [cell_of_block ((t.block _ (lt_of_heap e) (hR C (.inl rfl))).trans e)]; rfl
  have HM : Hid (∀ wr, Touch Φ W wr → SeqM wr B S) := fun wr t => (h.keep hW fun x hx q => q (.inr hx)).keep t fun x hx => hR x (.inr hx)
  have HY : Hid _ := hY
  have HFJ : Hid (Foot W.heap.size J) := fJ
  have HFx : Hid (Foot W.heap.size Jx) := fJx
  have HRP : Hid (∀ (Ψ : Nat → Prop) m, W.heap.size ≤ m → Swells Φ Ψ m → ∀ x, (x = C ∨ B.has x) → ¬ Ψ x) := fun Ψ m hm hs x hx hp => by
    rcases hs x hp with q | q
    · exact hR x hx q
    · have h1 : x < W.heap.size := by
        rcases hx with rfl | hx
        · exact hCl
        · exact hBl x hx
      omega
  have HRn : Hid (∀ x, (x = C ∨ B.has x) → ¬ Φ x) := hR
  have HΦ : Hid (∀ k, Φ k → k < W.heap.size) := fJ.lt _ _ _ h0
  have HInv : Hid (Inv S) := hi
  have HBl : Hid (∀ x, B.has x → x < W.heap.size) := hBl
  have hc0 := HB.out ((W.alloc (yO l 121))) ((Touch.refl _ W).alloc _)
  have H0 : Hid (J [] Φ W) := h0
  clear hW hR hY hC h hi fJ fJx hBl h0
  refine callsIn_of_wp_marks Try.func75 rfl trivial ?_ rfl
  simp only [Try.ntmps75, List.size_toArray, List.length_cons, List.length_nil, Nat.reduceAdd, Nat.reduceSub, Array.replicate_succ, Array.replicate_zero, List.push_toArray, List.append_toArray, List.nil_append, List.cons_append]
  gi_wp2_with fail
  refine ⟨trivial, wideN, (callsIn_wide.2 (rowAll_any B.b 2 _)).mono ?_⟩
  rintro e W1 ⟨rfl, hW1⟩
  rw [World.size_alloc]
  have hs1 : W1.heap.size = W.heap.size + 2 := by rw [hW1]; simp
  have t1' : Touch (fun _ => False) W W1 := by rw [hW1]; exact ((Touch.refl _ W).alloc _).alloc _
  have t1 : Touch Φ W W1 := t1'.mono fun _ _ q => q.elim
  have y1 : W1.heap[W.heap.size]? = some (yO l 121) := by
    rw [hW1]; exact (Below.heap_alloc _ _ _ (by simp)).trans (World.alloc_heap_new W _)
  have a1 : W1.heap[W.heap.size + 1]? = some (.cells #[rP B.b 2] 109 (0, 0)) := by
    have := World.alloc_heap_new (W.alloc (yO l 121)) (.cells #[rP B.b 2] 109 (0, 0))
    rw [World.size_alloc] at this
    rw [hW1]; exact this
  clear hW1
  gi_wp2
  have HRow := rowAll_stops (HM.out W1 t1).ord (W.heap.size + 1) a1
  refine wp_range (gf := 81) (lb := #[.pointer (some ⟨W.heap.size + 1, 0, none⟩)]) rfl (enters_of Try.func81 (by kernel_rfl) rfl)
    HRow (Touch.refl _ _) ?hRw (fun _ => rfl) (SpI S J l Φ W W1.heap.size) (SpX S Jx Φ W W1.heap.size) (SpI.foot HFJ.out (by omega)) (SpX.foot HFx.out (by omega)) Φ ?hR ?h0
    (fun i a' pre Ψ W' => SpI S J l Φ W W1.heap.size pre Ψ W' ∧ a' = { tmps := #[.func (.yield l) #[] #[], .pointer (some ⟨C, 0, none⟩), .pointer (some ⟨W.heap.size, 0, none⟩), iV (i : Int), undef, sP B, .pointer (some ⟨B.b, 0, none⟩), .pointer (some ⟨B.b, 2, none⟩), .func (.func 81) #[] #[.pointer (some ⟨W.heap.size + 1, 0, none⟩)], iV (i : Int), undef, undef, undef, undef, undef, undef, undef, undef, undef, undef, undef, undef, undef, undef, undef, undef, undef, undef, undef, undef, undef, undef, undef], defers := [] }) ?fA ?assign ?body ?done ?stop
  case hRw =>
    rintro k (rfl | rfl | rfl)
    · omega
    · have := HBl.out _ (.inl rfl); omega
    · have := HBl.out B.go (.inr (.inr (.inr (.inl rfl)))); omega
  case hR =>
    rintro k (rfl | rfl | rfl) q
    · have := HΦ.out _ q; omega
    · exact HRn.out _ (.inr (.inl rfl)) q
    · exact HRn.out B.go (.inr (.inr (.inr (.inr (.inl rfl))))) q
  case h0 => exact ⟨HFJ.out.keep _ _ _ _ H0.out (t1'.mono fun _ _ q => q.elim), t1, Swells.refl _ _, y1⟩
  case fA => exact fun i a' => ⟨fun s Ψ A X q t => ⟨(SpI.foot HFJ.out (by omega)).keep _ _ _ _ q.1 t, q.2⟩, fun s Ψ A q => (SpI.foot HFJ.out (by omega)).lt _ _ _ q.1⟩
  case assign =>
    rintro q pre i Ψ W' K hI hK
    gi_wp2
    exact hK _ _ _ (Touch.refl _ _) (Swells.refl _ _) ⟨hI, rfl⟩
  case body =>
    rintro q pre i a' Ψ W2 hsz hRk hpre ⟨⟨hj, ht, hs, hy⟩, rfl⟩
    obtain ⟨hlt, hp1, hi1⟩ := pre_snoc hpre
    have hin : i ∈ S.ord := by rw [hi1]; exact List.getElem_mem _
    have hlab := (HInv.out.ordF.lab i).1 hin
    have hM2 := HM.out W2 ht
    have HPre : Hid (∀ m : Nat, (m : Int) ≤ S.len i → pre.flatMap S.pcSp ++ spotsFrom (S.pc i) m <+: S.spots) := fun m hm => by
      have := spots_take S hlt m (by rw [← hi1]; exact hm)
      rw [← hi1, ← hp1] at this
      exact this
    have HEnd : Hid ((pre ++ [i]).flatMap S.pcSp = pre.flatMap S.pcSp ++ spotsFrom (S.pc i) (S.len i).toNat) := by
      rw [Hid, List.flatMap_append]; simp [SS.pcSp]
    obtain ⟨k0, k1⟩ := hM2.pcs.sp i hlab.2
    have hpc : S.pcs[i] = S.pc i := by unfold SS.pc; rw [List.getElem?_eq_getElem hlab.2]; rfl
    rw [hpc] at k0 k1
    obtain ⟨z1, z2, z3, z4, z5⟩ := HInv.out.pcs i hlab.1 hlab.2
    have hrk := (HInv.out.runs (S.pc i).run z1 z2)
    have hk1 : 1 ≤ (rn S.runs (S.pc i).run).first.k := hrk.2.2.2.2.2.2.2.2.2.2.1
    have hbd : (S.pc i).pos + S.len i ≤ 9007199254740992 := by omega
    have L0 := r_lengthOf hM2.ord i hlab.2
    have HL : Hid (∀ wr, Touch (fun _ => False) W2 wr → Calls Try.prog 47 #[rP B.b 2, iV (i : Int)] wr fun e w' => e = .returned (iV (S.len i)) ∧ w' = wr) := fun wr t => r_lengthOf (hM2.keep0 t).ord i hlab.2
    have cC := HB.out W2 ht
    have cp := hM2.pcs.cell
    have l0 : (i : Int) < (S.pcs.length : Int) := by omega
    have l1 : (0 : Int) ≤ (i : Int) := by omega
    have HIJ : Hid (J (pre.flatMap S.pcSp) Ψ W2) := hj
    have HT2 : Hid (Touch Φ W W2) := ht
    have HS2 : Hid (Swells Φ Ψ W1.heap.size) := hs
    have HY2 : Hid (W2.heap[W.heap.size]? = some (yO l 121)) := hy
    generalize S.len i = ln at *
    generalize S.pc i = p at *
    obtain ⟨pr, pp⟩ := p
    simp only at k0 k1 z3 hbd
    clear hRk hpre hj ht hs hy hp1 hi1 hin hlab hM2 hpc z1 z2 z5 hrk hk1 L0 hc0 a1 HRow t1 t1' y1
    have HW1 : Hid (W1.heap.size = W.heap.size + 2) := hs1
    obtain ⟨m1, hm1⟩ : ∃ m1, m1 = W1.heap.size := ⟨_, rfl⟩
    rw [← hm1] at hs1 hsz HS2 HW1 ⊢
    clear hm1
    have HSz : Hid (m1 < W2.heap.size) := hsz
    obtain ⟨Wx, hWx⟩ : ∃ Wx, Wx = W2.alloc (spO ⟨pr, pp⟩) := ⟨_, rfl⟩
    have hsx : Wx.heap.size = W2.heap.size + 1 := by rw [hWx]; simp
    have tx : Touch (fun _ => False) W2 Wx := by rw [hWx]; exact (Touch.refl _ W2).alloc _
    have hX : Wx.heap[W2.heap.size]? = some (spO ⟨pr, pp⟩) := by rw [hWx]; exact World.alloc_heap_new _ _
    have cCx : (W2.alloc (spO ⟨pr, pp⟩)).cell? ⟨C, 0, none⟩ = some (sP B) := by rw [← hWx]; exact cell_keep tx cC
    have HLx := HL.out _ tx
    have HWx : Hid (Wx = W2.alloc (spO ⟨pr, pp⟩)) := hWx
    have HnY : Hid (¬ Ψ W.heap.size) := fun h => by
      rcases HS2.out _ h with h | h
      · have := HΦ.out _ h; omega
      · omega
    have HTx : Hid (Touch (fun _ => False) W2 Wx) := tx
    have HXx : Hid (Wx.heap[W2.heap.size]? = some (spO ⟨pr, pp⟩)) := hX
    have HSx : Hid (Wx.heap.size = W2.heap.size + 1) := hsx
    have HΨ : Hid (∀ k, Ψ k → k < W2.heap.size) := HFJ.out.lt _ _ _ HIJ.out
    have HBd : Hid (0 ≤ pp ∧ 1 ≤ ln ∧ pp + ln ≤ 9007199254740992) := ⟨z3, z4, hbd⟩
    rw [hWx] at HLx
    clear hs1 hsz hWx hsx tx hX z3 z4 hbd
    gi_wp2
    refine ⟨trivial, wideN, (CallsIn.inRound q (callsIn_wide.2 HLx)).mono ?_⟩
    rintro e Wy ⟨rfl, hWy⟩
    obtain rfl : Wy = Wx := hWy.trans HWx.out.symm
    clear hWy HLx cCx cC cp k0 k1 l0 l1
    gi_wp2
    gi_loopw [22] (fun t wr => ∃ (j : Nat) (Ψ' : Nat → Prop), t = iV (j : Int) ∧ (j : Int) ≤ ln ∧ J (pre.flatMap S.pcSp ++ spotsFrom ⟨pr, pp⟩ j) Ψ' wr ∧ Touch Ψ W2 wr ∧ Swells Ψ Ψ' Wy.heap.size ∧ wr.heap[W2.heap.size]? = some (spO ⟨pr, pp + (j : Int)⟩)) (fun t _ => (ln - intOf t).toNat)
    case atStart => exact ⟨0, Ψ, rfl, by have := HBd.out; omega, by simpa [spotsFrom] using HFJ.out.keep _ _ _ _ HIJ.out (HTx.out.mono fun _ _ q => q.elim), HTx.out.mono fun _ _ q => q.elim, Swells.refl _ _, by simpa using HXx.out⟩
    case round =>
      obtain ⟨j, Ψ', rfl, hjl, hJr, hTr, hSr, hXr⟩ := hrel
      have HTr : Hid (Touch Ψ W2 wr) := hTr
      have HSr : Hid (Swells Ψ Ψ' Wy.heap.size) := hSr
      have HJr : Hid (J (pre.flatMap S.pcSp ++ spotsFrom ⟨pr, pp⟩ j) Ψ' wr) := hJr
      have HXr : Hid (wr.heap[W2.heap.size]? = some (spO ⟨pr, pp + (j : Int)⟩)) := hXr
      have yr : wr.heap[W.heap.size]? = some (yO l 121) := by
        exact (hTr.block _ (lt_of_heap HY2.out) HnY.out).trans HY2.out
      have HYr : Hid (wr.heap[W.heap.size]? = some (yO l 121)) := yr
      have hnX : ¬ Ψ' W2.heap.size := fun h => by
        have := HSx.out
        rcases hSr _ h with h | h
        · have := HΨ.out _ h; omega
        · omega
      have HnX : Hid (¬ Ψ' W2.heap.size) := hnX
      have HT02 : Hid (Touch Ψ W2 wr) := hTr
      have hwy : Wy.heap.size ≤ wr.heap.size := by have := lt_of_heap hXr; have := HSx.out; omega
      have HWy : Hid (Wy.heap.size ≤ wr.heap.size) := hwy
      have HTW : Hid (Touch Φ W wr) := HT2.out.swell HT02.out fun k hk => (HS2.out k hk).imp id fun h => by have := HW1.out; omega
      have HSW : Hid (Swells Φ Ψ' m1) := HS2.out.trans hSr (by have := HSx.out; have := HSz.out; omega)
      have HS02 : Hid (Swells Ψ Ψ' W2.heap.size) := (Swells.refl Ψ W2.heap.size).trans hSr (by have := HSx.out; omega)
      by_cases hlt2 : (j : Int) < ln
      · have yc : wr.cell? ⟨W.heap.size, 0, none⟩ = some (.func (.yield l) #[] #[]) := by rw [cell_of_block yr]; rfl
        have x0 : wr.cell? ⟨W2.heap.size, 0, none⟩ = some (iV (pr : Int)) := by rw [cell_of_block hXr]; rfl
        have x1 : wr.cell? ⟨W2.heap.size, 1, none⟩ = some (u64 (pp + (j : Int))) := by rw [cell_of_block hXr]; rfl
        have hjb : (j : Int) + 1 ≤ 9007199254740992 := by have := HBd.out; omega
        have HPj : Hid (pre.flatMap S.pcSp ++ spotsFrom ⟨pr, pp⟩ j ++ [⟨pr, pp + (j : Int)⟩] <+: S.spots) := by
          have := HPre.out (j + 1) (by omega)
          rw [spotsFrom_snoc, ← List.append_assoc] at this
          exact this
        have HRr : Hid (∀ k, (k = C ∨ B.has k) → ¬ Ψ' k) := HRP.out Ψ' m1 (by have := HW1.out; omega) HSW.out
        obtain ⟨fn, tmps, assign, body, hyy, hRd⟩ := HY.out _ ⟨pr, pp + (j : Int)⟩ Ψ' wr hJr HRr.out HPj.out 0
        have ew : IntKind.u64.wrap (pp + (j : Int) + 1) = pp + (j : Int) + 1 := by have := HBd.out; rw [IntKind.wrap_u64]; omega
        clear hJr hTr hSr hXr yr hnX hwy
        gi_wp2
        refine ⟨wideN, (round_in q hRd).mono ?_⟩
        rintro e W3 ⟨t3, Ψ3, s3, (⟨rfl, hJ3⟩ | ⟨rfl, hJ3⟩)⟩
        · have hX3 : W3.heap[W2.heap.size]? = some (spO ⟨pr, pp + (j : Int)⟩) := (t3.block _ (lt_of_heap HXr.out) HnX.out).trans HXr.out
          have x3 : W3.cell? ⟨W2.heap.size, 1, none⟩ = some (u64 (pp + (j : Int))) := by rw [cell_of_block hX3]; rfl
          have f3 : W3.frozen? ⟨W2.heap.size, 1, none⟩ = false := free_of_block hX3
          have HX3 : Hid (W3.heap[W2.heap.size]? = some (spO ⟨pr, pp + (j : Int)⟩)) := hX3
          have HJ3 : Hid (J (pre.flatMap S.pcSp ++ spotsFrom ⟨pr, pp⟩ j ++ [⟨pr, pp + (j : Int)⟩]) Ψ3 W3) := hJ3
          have HT3 : Hid (Touch Ψ' wr W3) := t3
          have HS3 : Hid (Swells Ψ' Ψ3 wr.heap.size) := s3
          have HnX3 : Hid (¬ Ψ3 W2.heap.size) := fun h => by
            rcases s3 _ h with h | h
            · exact HnX.out h
            · have := lt_of_heap HXr.out; omega
          clear hyy hRd t3 s3 hJ3 hX3 yc x0 x1
          gi_wp2
          go_roundw
          case rel =>
            refine ⟨j + 1, Ψ3, by go_num, by omega, ?_, ?_, ?_, ?_⟩
            · rw [spotsFrom_snoc, ← List.append_assoc]
              exact HFJ.out.keep _ _ _ _ HJ3.out ((Touch.refl _ W3).setCell _ _ fun _ => ⟨by have := HW1.out; have := HSz.out; show W.heap.size ≤ W2.heap.size; omega, HnX3.out⟩)
            · exact (HTr.out.swell HT3.out HS02.out).setCell _ _ fun h => absurd h (by simp only; omega)
            · exact HSr.out.trans HS3.out HWy.out
            · have := heap_setCell_same W3 W2.heap.size 1 (u64 (pp + (j : Int) + 1)) HX3.out
              rw [this, show pp + ((j + 1 : Nat) : Int) = pp + (j : Int) + 1 from by omega]
              rfl
          case measure => simp only [intOf]; omega
        · gi_wp2
          refine ⟨HT02.out.swell t3 HS02.out, Ψ3, HS02.out.trans s3 HT02.out.size, rfl, ⟨_, HPj.out, hJ3⟩, HTW.out.swell t3 fun k hk => (HSW.out k hk).imp id fun h => by have := HW1.out; omega, HSW.out.trans s3 (by have := HT02.out.size; have := HSz.out; omega)⟩
      · have hjn : ln.toNat = j := by omega
        have HJe : Hid (J ((pre ++ [i]).flatMap S.pcSp) Ψ' wr) := by rw [Hid, HEnd.out, hjn]; exact hJr
        clear hJr hTr hSr hXr yr hnX hjn hwy
        gi_wp2
        exact ⟨HT02.out, Ψ', HS02.out, HJe.out, HTW.out, HSW.out, HYr.out⟩
  case done =>
    rintro D Ψ W3 hD hnD hT hS ⟨hj, ht, hs, hy⟩ hK
    gi_wp2
    refine ⟨by simp, .inl ⟨_, _, rfl, run_takeDeferred hK, ?_⟩⟩
    exact ⟨_, results_none rfl _ _ _, ⟨_, rfl⟩, ht.putObj _ _ fun h => absurd h (by omega), Ψ, (Swells.refl Φ W.heap.size).trans hs (by omega), .inl (HFJ.out.keep _ _ _ _ hj ((Touch.refl _ W3).putObj _ _ fun _ => ⟨by omega, hnD⟩))⟩
  case stop =>
    rintro D c pre Ψ W3 hD hnD hT hS hpre ⟨rfl, ⟨ys, h1, h2⟩, ht, hs⟩ hK
    gi_wp2
    refine ⟨by simp, .inl ⟨_, _, rfl, run_takeDeferred hK, ?_⟩⟩
    exact ⟨_, results_none rfl _ _ _, ⟨_, rfl⟩, ht.putObj _ _ fun h => absurd h (by omega), Ψ, (Swells.refl Φ W.heap.size).trans hs (by omega), .inr ⟨ys, h1, HFx.out.keep _ _ _ _ h2 ((Touch.refl _ W3).putObj _ _ fun _ => ⟨by omega, hnD⟩)⟩⟩
end Go.Proofs.Ytnbphdmpbjahhaa
