/- A world that holds the listed tables as their initialisers lay them: for the witnesses. -/
import Derived.Test.YtaihofkmcpcjeaaDoorCards
import Derived.Test.YtaihofkmcpcjeaaDoorTie
import Derived.Deep.DeepHandedRow
import Derived.Lib.LaidTab
import Derived.WalkKit
import Derived.ProofKit
import Derived.OpenShut
import Derived.WalkSpells
import Derived.Test.YtaihofkmcpcjeaaDoorProg
import Derived.WalkLawsBesides
import Derived.Maps.AppendAt
namespace Go.Proofs.YtaihofkmcpcjeaaDoor
open Go.ChangeShapes Go.WideShapes Go.ChangeAt Go.RowKit
set_option linter.unusedVariables false

theorem own : ownKnob Tryd.prog.godebug = none := by kernel_rfl
theorem laidOut : laidOutB Tryd.prog = true := by kernel_rfl
def putTab (g : Nat) (k : IntKind) (zs : List Nat) (w : World) : World :=
  { w with heap := w.heap.modify g fun
      | .cells _ t frozen => .cells (zs.map fun z : Nat => Value.int k (z : Int)).toArray t frozen
      | o => o }
/-- A world with the tables laid. -/
def laidOn (w : World) : World :=
  putTab 4 .u8 [0, 1, 28, 2, 29, 14, 24, 3, 30, 22, 20, 15, 25, 17, 4, 8, 31, 27, 13, 23, 21, 19, 16, 7, 26, 12, 18, 6, 11, 5, 10, 9]
    (putTab 5 .u8 [0, 1, 56, 2, 57, 49, 28, 3, 61, 58, 42, 50, 38, 29, 17, 4, 62, 47, 59, 36, 45, 43, 51, 22, 53, 39, 33, 30, 24, 18, 12, 5, 63, 55, 48, 27, 60, 41, 37, 16, 46, 35, 44, 21, 52, 32, 23, 11, 54, 26, 40, 15, 34, 20, 31, 10, 25, 14, 19, 9, 13, 8, 7, 6]
      (putTab 3 .u64 [1, 10, 100, 1000, 10000, 100000, 1000000, 10000000, 100000000, 1000000000, 10000000000, 100000000000, 1000000000000, 10000000000000, 100000000000000, 1000000000000000, 10000000000000000, 100000000000000000, 1000000000000000000, 10000000000000000000]
        (putTab 2 .u8 [128, 191, 160, 191, 128, 159, 144, 191, 128, 143, 0, 0, 0, 0, 0, 0, 0, 0, 0, 0, 0, 0, 0, 0, 0, 0, 0, 0, 0, 0, 0, 0]
          (putTab 1 .u8 Go.Pinned.utf8FirstZ w))))
end Go.Proofs.YtaihofkmcpcjeaaDoor

/- Small laws of worlds: what a call may touch; blocks behind a store, behind a new block. They speak of no program. -/
namespace Go.Proofs.YtaihofkmcpcjeaaDoor
open Go.RowKit
set_option linter.unusedVariables false

/-- w' is w but for the blocks of S, and for new ones. -/
structure Touch (S : Nat → Prop) (w w' : World) : Prop where
  os : w'.os = w.os
  tape : w'.tape = w.tape
  output : w'.output = w.output
  size : w.heap.size ≤ w'.heap.size
  block : ∀ k, k < w.heap.size → ¬ S k → w'.heap[k]? = w.heap[k]?

theorem Touch.refl (S : Nat → Prop) (w : World) : Touch S w w := ⟨rfl, rfl, rfl, Nat.le_refl _, fun _ _ _ => rfl⟩
theorem Touch.trans {S : Nat → Prop} {a b c : World} (h : Touch S a b) (k : Touch S b c) : Touch S a c :=
  ⟨k.os.trans h.os, k.tape.trans h.tape, k.output.trans h.output, Nat.le_trans h.size k.size, fun i hi hs => (k.block i (Nat.lt_of_lt_of_le hi h.size) hs).trans (h.block i hi hs)⟩
theorem Touch.mono {S T : Nat → Prop} {a b : World} (h : Touch S a b) (hs : ∀ k, k < a.heap.size → S k → T k) : Touch T a b :=
  ⟨h.os, h.tape, h.output, h.size, fun k hk ht => h.block k hk fun x => ht (hs k hk x)⟩
/-- Two calls behind one another: what the second touches was touched, or may be, or is new. -/
theorem Touch.then {S T : Nat → Prop} {a b c : World} (h : Touch S a b) (k : Touch T b c) (hs : ∀ k, k < a.heap.size → T k → S k) : Touch S a c :=
  ⟨k.os.trans h.os, k.tape.trans h.tape, k.output.trans h.output, Nat.le_trans h.size k.size, fun i hi hn => (k.block i (Nat.lt_of_lt_of_le hi h.size) fun x => hn (hs i hi x)).trans (h.block i hi hn)⟩
theorem Touch.alloc {S : Nat → Prop} {a b : World} (h : Touch S a b) (o : Obj) : Touch S a (b.alloc o) :=
  ⟨h.os, h.tape, h.output, Nat.le_trans h.size (by simp), fun i hi hn => (Below.heap_alloc b o i (Nat.lt_of_lt_of_le hi h.size)).trans (h.block i hi hn)⟩
theorem heap_setCell_other (w : World) (a : Addr) (v : Value) (k : Nat) (h : a.block ≠ k) : (w.setCell a v).heap[k]? = w.heap[k]? := by
  simp [World.setCell, Array.getElem?_modify, h]
theorem heap_setCell_same (w : World) (p i : Nat) (v : Value) {c : Array Value} {t : TypeId} {fr : Nat × Nat} (h : w.heap[p]? = some (.cells c t fr)) :
    (w.setCell ⟨p, i, none⟩ v).heap[p]? = some (.cells (c.setIfInBounds i v) t fr) := by
  simp [World.setCell, Array.getElem?_modify, h]
theorem size_setCell (w : World) (a : Addr) (v : Value) : (w.setCell a v).heap.size = w.heap.size := by simp [World.setCell]
theorem Touch.setCell {S : Nat → Prop} {a b : World} (h : Touch S a b) (x : Addr) (v : Value) (hx : x.block < a.heap.size → S x.block) : Touch S a (b.setCell x v) :=
  ⟨h.os, h.tape, h.output, by rw [size_setCell]; exact h.size, fun i hi hn => (heap_setCell_other b x v i fun e => hn (e ▸ hx (e ▸ hi))).trans (h.block i hi hn)⟩
theorem Touch.drew {S : Nat → Prop} {a b : World} (h : Touch S a b) : Touch S a b.drew := ⟨h.os, h.tape, h.output, h.size, h.block⟩
theorem Touch.cell {S : Nat → Prop} {w w' : World} (h : Touch S w w') {b : Nat} (hb : b < w.heap.size) (hs : ¬ S b) (o : Nat) : w'.cell? ⟨b, o, none⟩ = w.cell? ⟨b, o, none⟩ :=
  World.cell?_of_block (a := ⟨b, o, none⟩) (h.block b hb hs)
theorem Touch.below {S : Nat → Prop} {B : Nat} {w w' : World} (h : Touch S w w') (hB : B ≤ w.heap.size) (hs : ∀ k, k < B → ¬ S k) : Below B w w' :=
  ⟨h.os, h.tape, h.output, h.size, fun k hk => h.block k (Nat.lt_of_lt_of_le hk hB) (hs k hk)⟩
theorem Touch.grown {S : Nat → Prop} {a b c : World} {r : Option Nat} (h : Touch S a b) (k : b.grownBy c r) (hr : ∀ i, r = some i → i < a.heap.size → S i) : Touch S a c :=
  ⟨k.os.trans h.os, k.tape.trans h.tape, k.output.trans h.output, Nat.le_trans h.size k.size, fun i hi hn => (k.block i (Nat.lt_of_lt_of_le hi h.size) fun e => hn (hr i e.symm hi)).trans (h.block i hi hn)⟩

theorem cell_of_block {w : World} {p i : Nat} {c : Array Value} {t : TypeId} {fr : Nat × Nat} (h : w.heap[p]? = some (.cells c t fr)) : w.cell? ⟨p, i, none⟩ = c[i]? := by
  simp [World.cell?, h]
theorem free_of_block {w : World} {p i : Nat} {c : Array Value} {t : TypeId} (h : w.heap[p]? = some (.cells c t (0, 0))) : w.frozen? ⟨p, i, none⟩ = false := by
  simp [World.frozen?, h]
theorem lt_of_heap {w : World} {p : Nat} {o : Obj} (h : w.heap[p]? = some o) : p < w.heap.size := by
  exact (Array.getElem?_eq_some_iff.1 h).1

end Go.Proofs.YtaihofkmcpcjeaaDoor

/- Bytes as cells; a slice of bytes that the call owns, and that grows. -/
namespace Go.Proofs.YtaihofkmcpcjeaaDoor
open Go.RowKit
set_option linter.unusedVariables false

/-- Bytes as cells. -/
def cellsOf (bs : List UInt8) : List Value := bs.map fun b => Value.int .u8 (b.toNat : Int)

theorem cellsOf_append (a b : List UInt8) : cellsOf (a ++ b) = cellsOf a ++ cellsOf b := by simp [cellsOf]
theorem cellsOf_length (a : List UInt8) : (cellsOf a).length = a.length := by simp [cellsOf]
theorem cellsOf_one (a : List UInt8) : ∀ u ∈ cellsOf a, u.oneCell' = true := by
  intro u hu
  obtain ⟨b, _, rfl⟩ := List.mem_map.1 hu
  rfl

theorem Tryd.infoByte : (Tryd.prog.info? 5).map (fun i => (i.zero, i.size, i.bytes)) = some (some (.int .u8 0), 1, 1) := by kernel_rfl

/-- The value v, which the call owned, has become v', which holds bs; nothing but v's row was touched; the new row is v's, or new. -/
structure Grow (v v' : Value) (bs : List UInt8) (w w' : World) : Prop where
  is : w'.ownsRow 0 5 1 v' bs.length (cellsOf bs)
  touch : Touch (fun k => v.ownBlock = some k) w w'
  new : ∀ k, k < w.heap.size → v'.ownBlock = some k → v.ownBlock = some k
theorem Grow.refl {v : Value} {bs : List UInt8} {w : World} (h : w.ownsRow 0 5 1 v bs.length (cellsOf bs)) : Grow v v bs w w := ⟨h, Touch.refl _ _, fun _ _ h => h⟩
theorem Grow.trans {a b c : Value} {bs cs : List UInt8} {w w1 w2 : World} (h : Grow a b bs w w1) (k : Grow b c cs w1 w2) : Grow a c cs w w2 :=
  ⟨k.is, h.touch.then k.touch (fun i hi e => h.new i hi e), fun i hi e => h.new i hi (k.new i (Nat.lt_of_lt_of_le hi h.touch.size) e)⟩
theorem Grow.slice {v v' : Value} {bs : List UInt8} {w w' : World} (h : Grow v v' bs w w') : ∃ ao n cap, v' = .slice ao n cap := by
  rcases h.is.2 with ⟨e, _⟩ | ⟨g, cap, cur, e, _⟩
  · exact ⟨_, _, _, e⟩
  · exact ⟨_, _, _, e⟩
/-- Behind an append of one byte. -/
theorem Grow.pushed {v v' : Value} {bs : List UInt8} {b : UInt8} {w w1 w2 : World} (hw1 : Touch (fun _ => False) w w1) (hown' : w2.ownsRow 0 5 1 v' (bs.length + 1) (cellsOf bs ++ [.int .u8 (b.toNat : Int)])) (hg : w1.grownBy w2 v.ownBlock) {m : Nat} (hat : v'.ownBlock = v.ownBlock ∨ v'.ownBlock = some m) (hm : w.heap.size ≤ m) : Grow v v' (bs ++ [b]) w w2 := by
  refine ⟨?_, ?_, ?_⟩
  · rw [cellsOf_append, List.length_append]; exact hown'
  · exact (hw1.mono fun _ _ h => h.elim).grown hg (fun i e _ => e)
  · intro k hk hv
    rcases hat with e | e
    · rw [← e]; exact hv
    · rw [hv] at e
      simp at e; omega
end Go.Proofs.YtaihofkmcpcjeaaDoor
