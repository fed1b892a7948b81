/- What a number's reading gives. -/
import Derived.Test.YtaihofkmcpcjeaaDoorRead
namespace Go.Proofs.YtaihofkmcpcjeaaDoor
open Go.RowKit
set_option linter.unusedVariables false

/-- A number of at most most: the error, the number, what is left. -/
def rdU (bs : List UInt8) (most : Nat) : Int × Nat × List UInt8 :=
  if (numGo bs 0 0).1 ≠ 0 then ((numGo bs 0 0).1, 0, bs) else if most < (numGo bs 0 0).2.1 then (12, 0, bs) else (0, (numGo bs 0 0).2.1, (numGo bs 0 0).2.2)

theorem numGo_err : ∀ (bs : List UInt8) (k n : Nat), (numGo bs k n).1 = 0 ∨ (numGo bs k n).1 = 10 ∨ (numGo bs k n).1 = 11
  | [], _, _ => by simp [numGo]
  | b :: r, k, n => by
    rw [numGo]
    split
    · simp
    · split
      · simp
      · exact numGo_err r _ _

/-- What number leaves, by rdU. -/
theorem NumPost.ways {p g : Nat} {bs : List UInt8} {er : Int} {most : Nat} {w w' : World} {e : Ending} (h : NumPost p g bs er most w e w') :
    Touch (· = p) w w' ∧ (((rdU bs most).1 = 0 ∧ e = .returned (.int .u64 (rdU bs most).2.1) ∧ Rd w' p g (rdU bs most).2.2 er) ∨ ((rdU bs most).1 ≠ 0 ∧ e = .panicked [thrown (rdU bs most).1] ∧ (rdU bs most).2 = (0, bs) ∧ ∃ cs, Rd w' p g cs er)) := by
  obtain ⟨hT, cs, hR, h⟩ := h
  refine ⟨hT, ?_⟩
  rcases h with ⟨h0, h1, he, hc⟩ | ⟨h0, h1, he⟩ | ⟨h0, he⟩
  · left
    have e1 : rdU bs most = (0, (numGo bs 0 0).2.1, (numGo bs 0 0).2.2) := by rw [rdU, if_neg (by simpa using h0), if_neg (by omega)]
    rw [e1]; exact ⟨rfl, he, hc ▸ hR⟩
  · right
    have e1 : rdU bs most = (12, 0, bs) := by rw [rdU, if_neg (by simpa using h0), if_pos h1]
    rw [e1]; exact ⟨by simp, he, rfl, cs, hR⟩
  · right
    have e1 : rdU bs most = ((numGo bs 0 0).1, 0, bs) := by rw [rdU, if_pos h0]
    rw [e1]; exact ⟨h0, he, rfl, cs, hR⟩
theorem Rd.alloc {w : World} {p g : Nat} {bs : List UInt8} {er : Int} (h : Rd w p g bs er) (o : Obj) : Rd (w.alloc o) p g bs er :=
  h.keep (S := fun _ => False) ((Touch.refl _ _).alloc o) id (fun _ => id)
end Go.Proofs.YtaihofkmcpcjeaaDoor

/- What all reads of wire's Reader have in common: a closure that lays its result in a box, run by read. -/
namespace Go.Proofs.YtaihofkmcpcjeaaDoor
open Go.RowKit
set_option linter.unusedVariables false

/-- A read's outcome: its error, its value, what is left. er: the error that stood ahead of it; x: its own (0: none). -/
def outcome (er x : Int) (bs cs : List UInt8) (v0 v : Value) : Int × Value × List UInt8 := if er ≠ 0 then (er, v0, bs) else if x ≠ 0 then (x, v0, bs) else (0, v, cs)

/-- What the closure does: it lays v, or fails with x. -/
def InPost (p g b2 : Nat) (T : TypeId) (x : Int) (v0 v : Value) (cs : List UInt8) (w : World) (e : Ending) (w' : World) : Prop :=
  (x = 0 ∧ e = .returned (.tuple #[]) ∧ Rd w' p g cs 0 ∧ Touch (fun k => k = p ∨ k = b2) w w' ∧ w'.heap[b2]? = some (.cells #[v] T (0, 0))) ∨
  (x ≠ 0 ∧ e = .panicked [thrown x] ∧ (∃ ds, Rd w' p g ds 0) ∧ Touch (fun k => k = p ∨ k = b2) w w' ∧ w'.heap[b2]? = some (.cells #[v0] T (0, 0)))

def MidPost (p g b2 : Nat) (T : TypeId) (o : Int × Value × List UInt8) (w : World) (e : Ending) (w' : World) : Prop :=
  e = .returned (.tuple #[]) ∧ Rd w' p g o.2.2 o.1 ∧ Touch (fun k => k = p ∨ k = b2) w w' ∧ w'.heap[b2]? = some (.cells #[o.2.1] T (0, 0))

def OutPost (p g : Nat) (o : Int × Value × List UInt8) (w : World) (e : Ending) (w' : World) : Prop :=
  e = .returned o.2.1 ∧ Rd w' p g o.2.2 o.1 ∧ Touch (· = p) w w'

theorem mid_any (p g b2 : Nat) (T : TypeId) (er x : Int) (bs cs : List UInt8) (v0 v : Value) (K : FuncId) (cap : Array Value) (w : World) (h : Rd w p g bs er) (hK : ∀ w, (callFunc K cap).run Tryd.prog w = .ok (.enter K cap) w)
    (hb : w.heap[b2]? = some (.cells #[v0] T (0, 0))) (h2 : b2 ≠ p) (hg : b2 ≠ g)
    (hin : er = 0 → Calls Tryd.prog K cap (w.alloc (.cells #[.int .i64 0] 28)) (InPost p g b2 T x v0 v cs (w.alloc (.cells #[.int .i64 0] 28)))) :
    Calls Tryd.prog 92 #[.pointer (some ⟨p, 0, none⟩), .func (.func K) #[] cap] w (MidPost p g b2 T (outcome er x bs cs v0 v) w) := by
  have hb2 := lt_of_heap hb
  by_cases he : er = 0
  · subst he
    have hin := hin rfl
    by_cases h0 : x = 0
    · have eo : outcome 0 x bs cs v0 v = (0, v, cs) := by simp [outcome, h0]
      refine (read_ok p g bs cs _ _ w (· = b2) (fun w' => w'.heap[b2]? = some (.cells #[v] T (0, 0))) h hK (fun k e => by omega) ?_ ?_).mono ?_
      · intro w2 w3 hs ht hG
        exact (ht.block b2 (by omega) (by omega)).trans hG
      · refine hin.mono ?_
        intro e w2 hP
        rcases hP with ⟨_, he, hR, hT, hb⟩ | ⟨hx, _⟩
        · exact ⟨he, hR, hT, hb⟩
        · exact absurd h0 hx
      · rintro e w' ⟨he, hR, hT, hb⟩
        rw [eo]; exact ⟨he, hR, hT, hb⟩
    · have eo : outcome 0 x bs cs v0 v = (x, v0, bs) := by simp [outcome, h0]
      refine (read_fail p g bs x (by simpa using h0) _ _ w (· = b2) (fun w' => w'.heap[b2]? = some (.cells #[v0] T (0, 0))) h hK (fun k e => by omega) (fun _ => Ne.symm hg) ?_ ?_).mono ?_
      · intro w2 w3 hs ht hG
        exact (ht.block b2 (by omega) (by omega)).trans hG
      · refine hin.mono ?_
        intro e w2 hP
        rcases hP with ⟨hx, _⟩ | ⟨_, he, hR, hT, hb⟩
        · exact absurd hx h0
        · exact ⟨he, hR, hT, hb⟩
      · rintro e w' ⟨he, hR, hT, hb⟩
        rw [eo]; exact ⟨he, hR, hT, hb⟩
  · have eo : outcome er x bs cs v0 v = (er, v0, bs) := by simp [outcome, he]
    refine (read_ended p g bs er _ w h (by simpa using he)).mono ?_
    rintro e w' ⟨rfl, rfl⟩
    rw [eo]; exact ⟨rfl, h, Touch.refl _ _, hb⟩

/-- The value is one of the two. -/
theorem outcome_val {er x : Int} {bs cs : List UInt8} {v0 v : Value} (P : Value → Prop) (h0 : P v0) (h : P v) : P (outcome er x bs cs v0 v).2.1 := by
  unfold outcome; split
  · exact h0
  · split
    · exact h0
    · exact h

/-- From the closure's box to the answer: the box is stored anew, and is new. -/
theorem MidPost.out {p g b2 : Nat} {T : TypeId} {o : Int × Value × List UInt8} {w wa w1 : World} {e : Ending} (h : MidPost p g b2 T o wa e w1) (hw : Touch (· = p) w wa) (hp : p < w.heap.size) (hg : g < w.heap.size) (hb : w.heap.size ≤ b2) :
    OutPost p g o w (.returned o.2.1) (w1.setCell ⟨b2, 0, none⟩ o.2.1) := by
  obtain ⟨_, hR, hT, _⟩ := h
  refine ⟨rfl, hR.keep (S := (· = b2)) ((Touch.refl _ _).setCell _ _ fun _ => rfl) (by omega) (fun _ => by omega), ?_⟩
  refine (hw.then hT ?_).setCell _ _ (fun h => absurd h (by simp; omega))
  intro k hk h
  rcases h with e | e
  · exact e
  · omega

theorem MidPost.box {p g b2 : Nat} {T : TypeId} {o : Int × Value × List UInt8} {wa w1 : World} {e : Ending} (h : MidPost p g b2 T o wa e w1) : w1.cell? ⟨b2, 0, none⟩ = some o.2.1 ∧ w1.frozen? ⟨b2, 0, none⟩ = false ∧ b2 < w1.heap.size := by
  obtain ⟨_, _, _, hb⟩ := h
  exact ⟨by rw [cell_of_block hb]; rfl, free_of_block hb, lt_of_heap hb⟩

/-- The closure's new result box, laid in the world as the walk leaves it. -/
theorem heap_alloc1 (w : World) (a b : Obj) : ((w.alloc a).alloc b).heap[w.heap.size]? = some a ∧ ((w.alloc a).alloc b).heap[w.heap.size + 1]? = some b := by
  refine ⟨?_, ?_⟩
  · rw [Below.heap_alloc _ _ _ (by simp)]; exact heap_alloc_new _ _
  · have := heap_alloc_new (w.alloc a) b
    simpa using this
theorem heap_alloc2 (w : World) (a b c : Obj) : (((w.alloc a).alloc b).alloc c).heap[w.heap.size]? = some a ∧ (((w.alloc a).alloc b).alloc c).heap[w.heap.size + 1]? = some b ∧ (((w.alloc a).alloc b).alloc c).heap[w.heap.size + 1 + 1]? = some c := by
  refine ⟨?_, ?_, ?_⟩
  · rw [Below.heap_alloc _ _ _ (by simp; omega)]; exact (heap_alloc1 w a b).1
  · rw [Below.heap_alloc _ _ _ (by simp)]; exact (heap_alloc1 w a b).2
  · have := heap_alloc_new ((w.alloc a).alloc b) c
    simpa using this
theorem heap_alloc_old {w : World} {k : Nat} {x : Obj} (h : w.heap[k]? = some x) (o : Obj) : (w.alloc o).heap[k]? = some x :=
  (Below.heap_alloc _ _ _ (lt_of_heap h)).trans h
end Go.Proofs.YtaihofkmcpcjeaaDoor
