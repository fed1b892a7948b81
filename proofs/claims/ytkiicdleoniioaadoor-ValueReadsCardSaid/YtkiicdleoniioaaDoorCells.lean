/- Bytes as cells; a slice of bytes that the call owns, and that grows. -/
import Derived.Test.YtkiicdleoniioaaDoorLib
import Derived.Test.YtkiicdleoniioaaDoorProg
import Derived.WalkLawsBesides
import Derived.Maps.AppendAt
namespace Go.Proofs.YtkiicdleoniioaaDoor
open Go.RowKit
set_option linter.unusedVariables false

/-- Bytes as cells. -/
def cellsOf (bs : List UInt8) : List Value := bs.map fun b => Value.int .u8 (b.toNat : Int)

theorem cellsOf_append (a b : List UInt8) : cellsOf (a ++ b) = cellsOf a ++ cellsOf b := by simp [cellsOf]
theorem cellsOf_length (a : List UInt8) : (cellsOf a).length = a.length := by simp [cellsOf]
theorem cellsOf_one (a : List UInt8) : ∀ u ∈ cellsOf a, u.oneCell' = true := by
  intro u hu
  obtain ⟨b, _, rfl⟩ := List.mem_map.1 hu
  rfl

theorem Tryd.infoByte : (Tryd.prog.info? 5).map (fun i => (i.zero, i.size, i.bytes)) = some (some (.int .u8 0), 1, 1) := by kernel_rfl

/-- The value v, which the call owned, has become v', which holds bs; nothing but v's row was touched; the new row is v's, or new. -/
structure Grow (v v' : Value) (bs : List UInt8) (w w' : World) : Prop where
  is : w'.ownsRow 0 5 1 v' bs.length (cellsOf bs)
  touch : Touch (fun k => v.ownBlock = some k) w w'
  new : ∀ k, k < w.heap.size → v'.ownBlock = some k → v.ownBlock = some k
theorem Grow.refl {v : Value} {bs : List UInt8} {w : World} (h : w.ownsRow 0 5 1 v bs.length (cellsOf bs)) : Grow v v bs w w := ⟨h, Touch.refl _ _, fun _ _ h => h⟩
theorem Grow.trans {a b c : Value} {bs cs : List UInt8} {w w1 w2 : World} (h : Grow a b bs w w1) (k : Grow b c cs w1 w2) : Grow a c cs w w2 :=
  ⟨k.is, h.touch.then k.touch (fun i hi e => h.new i hi e), fun i hi e => h.new i hi (k.new i (Nat.lt_of_lt_of_le hi h.touch.size) e)⟩
theorem Grow.slice {v v' : Value} {bs : List UInt8} {w w' : World} (h : Grow v v' bs w w') : ∃ ao n cap, v' = .slice ao n cap := by
  rcases h.is.2 with ⟨e, _⟩ | ⟨g, cap, cur, e, _⟩
  · exact ⟨_, _, _, e⟩
  · exact ⟨_, _, _, e⟩
/-- Behind an append of one byte. -/
theorem Grow.pushed {v v' : Value} {bs : List UInt8} {b : UInt8} {w w1 w2 : World} (hw1 : Touch (fun _ => False) w w1) (hown' : w2.ownsRow 0 5 1 v' (bs.length + 1) (cellsOf bs ++ [.int .u8 (b.toNat : Int)])) (hg : w1.grownBy w2 v.ownBlock) {m : Nat} (hat : v'.ownBlock = v.ownBlock ∨ v'.ownBlock = some m) (hm : w.heap.size ≤ m) : Grow v v' (bs ++ [b]) w w2 := by
  refine ⟨?_, ?_, ?_⟩
  · rw [cellsOf_append, List.length_append]; exact hown'
  · exact (hw1.mono fun _ _ h => h.elim).grown hg (fun i e _ => e)
  · intro k hk hv
    rcases hat with e | e
    · rw [← e]; exact hv
    · rw [hv] at e
      simp at e; omega
end Go.Proofs.YtkiicdleoniioaaDoor
