/- Package seq's rows of things in memory: what lies where, and what one store leaves. -/
import Derived.Test.YtcolbgbmnmkogabLib
import Derived.Deep.MidRow
namespace Go.Proofs.Ytcolbgbmnmkogab
open Go.RowKit
set_option linter.unusedVariables false
set_option linter.unusedSimpArgs false
set_option maxRecDepth 100000

/-- A thing: what it hangs on, what hangs on its sides, how long it is, and with all below it. -/
structure Th where
  up : Nat
  d0 : Nat
  d1 : Nat
  long : Int
  whole : Int
abbrev iV (n : Int) : Value := .int .i64 n
def cellH (t : Th) : List Value := [iV t.up, iV t.d0, iV t.d1, iV t.long, iV t.whole]
def cellsH (l : List Th) : List Value := l.flatMap cellH
theorem cellsH_cons (t : Th) (l : List Th) : cellsH (t :: l) = iV t.up :: iV t.d0 :: iV t.d1 :: iV t.long :: iV t.whole :: cellsH l := rfl
theorem cellsH_append (a b : List Th) : cellsH (a ++ b) = cellsH a ++ cellsH b := by simp [cellsH]
theorem cellsH_len (l : List Th) : (cellsH l).length = l.length * 5 := by
  induction l with
  | nil => rfl
  | cons f r ih => rw [cellsH_cons]; simp only [List.length_cons, ih]; omega
theorem cellsH_get : ∀ (l : List Th) (j : Nat) (h : j < l.length), (cellsH l)[j * 5]? = some (iV l[j].up) ∧ (cellsH l)[j * 5 + 1]? = some (iV l[j].d0) ∧ (cellsH l)[j * 5 + 2]? = some (iV l[j].d1) ∧ (cellsH l)[j * 5 + 3]? = some (iV l[j].long) ∧ (cellsH l)[j * 5 + 4]? = some (iV l[j].whole)
  | f :: r, 0, _ => ⟨rfl, rfl, rfl, rfl, rfl⟩
  | f :: r, j + 1, h => by
    have ih := cellsH_get r j (by simpa using h)
    rw [cellsH_cons, show (j + 1) * 5 = j * 5 + 5 from by omega]
    exact ih
/-- One cell of a thing laid anew. -/
def Th.put (t : Th) : Nat → Int → Th
  | 0, y => { t with up := y.toNat }
  | 1, y => { t with d0 := y.toNat }
  | 2, y => { t with d1 := y.toNat }
  | 3, y => { t with long := y }
  | _, y => { t with whole := y }
theorem cellH_put (t : Th) (f : Nat) (hf : f < 5) (y : Int) (hy : 0 ≤ y ∨ 3 ≤ f) : (cellH t).set f (iV y) = cellH (t.put f y) := by
  match f, hf with
  | 0, _ => have e : ((y.toNat : Nat) : Int) = y := by omega
            simp [cellH, Th.put, e]
  | 1, _ => have e : ((y.toNat : Nat) : Int) = y := by omega
            simp [cellH, Th.put, e]
  | 2, _ => have e : ((y.toNat : Nat) : Int) = y := by omega
            simp [cellH, Th.put, e]
  | 3, _ => rfl
  | 4, _ => rfl
theorem cellsH_put (f : Nat) (hf : f < 5) (y : Int) (hy : 0 ≤ y ∨ 3 ≤ f) : ∀ (l : List Th) (j : Nat) (h : j < l.length), (cellsH l).set (j * 5 + f) (iV y) = cellsH (l.set j (l[j].put f y))
  | t :: l, 0, _ => by
    show (cellH t ++ cellsH l).set (0 * 5 + f) (iV y) = cellH (t.put f y) ++ cellsH l
    rw [Nat.zero_mul, Nat.zero_add, List.set_append_left _ _ (by show f < 5; omega), cellH_put t f hf y hy]
  | t :: l, j + 1, h => by
    have hj : j < l.length := by simpa using h
    have ih := cellsH_put f hf y hy l j hj
    show (cellH t ++ cellsH l).set ((j + 1) * 5 + f) (iV y) = cellH t ++ cellsH (l.set j (l[j].put f y))
    rw [List.set_append_right _ _ (by show 5 ≤ _; omega), show (j + 1) * 5 + f - (cellH t).length = j * 5 + f from by show (j + 1) * 5 + f - 5 = _; omega, ih]
/-- A row of things: its slice lies in the cell k of the block b, its things in the block g. -/
structure Things (w : World) (b k g cap : Nat) (L : List Th) : Prop where
  cell : w.cell? ⟨b, k, none⟩ = some (.slice (some ⟨g, 0, none⟩) L.length cap)
  ne : b ≠ g
  row : ∃ cur, w.heap[g]? = some (.cells cur 82 (0, 0)) ∧ cur.size = cap * 5 ∧ L.length ≤ cap ∧ cap ≤ 9223372036854775807 ∧ cur.toList.take (L.length * 5) = cellsH L
theorem Things.at {w : World} {b k g cap : Nat} {L : List Th} (h : Things w b k g cap L) (i : Nat) (hi : i < L.length) (f : Nat) (v : Value) (hv : (cellsH L)[i * 5 + f]? = some v) (hf : f < 5) : w.cell? ⟨g, i * 5 + f, none⟩ = some v := by
  obtain ⟨cur, hg, h1, h2, _, h3⟩ := h.row
  rw [cell_of_block hg]
  have e : (cur.toList.take (L.length * 5))[i * 5 + f]? = some v := by rw [h3]; exact hv
  rw [List.getElem?_take_of_lt (by omega)] at e
  rw [← Array.getElem?_toList]
  exact e
theorem Things.free {w : World} {b k g cap : Nat} {L : List Th} (h : Things w b k g cap L) (j : Nat) : w.frozen? ⟨g, j, none⟩ = false := by
  obtain ⟨cur, hg, _⟩ := h.row
  exact free_of_block hg
theorem Things.lt {w : World} {b k g cap : Nat} {L : List Th} (h : Things w b k g cap L) : g < w.heap.size := by
  obtain ⟨cur, hg, _⟩ := h.row
  exact lt_of_heap hg
/-- What an index of a thing tells. -/
structure ThAt (w : World) (g i : Nat) (t : Th) : Prop where
  c0 : w.cell? ⟨g, i * 5, none⟩ = some (iV t.up)
  c1 : w.cell? ⟨g, i * 5 + 1, none⟩ = some (iV t.d0)
  c2 : w.cell? ⟨g, i * 5 + 2, none⟩ = some (iV t.d1)
  c3 : w.cell? ⟨g, i * 5 + 3, none⟩ = some (iV t.long)
  c4 : w.cell? ⟨g, i * 5 + 4, none⟩ = some (iV t.whole)
theorem Things.th {w : World} {b k g cap : Nat} {L : List Th} (h : Things w b k g cap L) (i : Nat) (hi : i < L.length) : ThAt w g i L[i] := by
  obtain ⟨g0, g1, g2, g3, g4⟩ := cellsH_get L i hi
  exact ⟨h.at i hi 0 _ g0 (by omega), h.at i hi 1 _ g1 (by omega), h.at i hi 2 _ g2 (by omega), h.at i hi 3 _ g3 (by omega), h.at i hi 4 _ g4 (by omega)⟩
/-- A store into one cell of a thing. -/
theorem Things.put {w : World} {b k g cap : Nat} {L : List Th} (h : Things w b k g cap L) (i : Nat) (hi : i < L.length) (f : Nat) (hf : f < 5) (y : Int) (hy : 0 ≤ y ∨ 3 ≤ f) :
    Things (w.setCell ⟨g, i * 5 + f, none⟩ (iV y)) b k g cap (L.set i (L[i].put f y)) := by
  obtain ⟨cur, hg, h1, h2, h3, h4⟩ := h.row
  refine ⟨?_, h.ne, cur.setIfInBounds (i * 5 + f) (iV y), heap_setCell_same _ _ _ _ hg, by simpa using h1, by rw [List.length_set]; exact h2, h3, ?_⟩
  · rw [List.length_set, World.cell?_of_block (Below.heap_setCell _ _ _ _ h.ne)]
    exact h.cell
  · rw [Array.toList_setIfInBounds, List.length_set, ← cellsH_put f hf y hy L i hi, ← h4, List.take_set]
theorem Things.keep {S : Nat → Prop} {w w' : World} {b k g cap : Nat} {L : List Th} (h : Things w b k g cap L) (t : Touch S w w') (hb : ¬ S b) (hg : ¬ S g) : Things w' b k g cap L := by
  obtain ⟨cur, h0, h1⟩ := h.row
  refine ⟨?_, h.ne, cur, (t.block g (lt_of_heap h0) hg).trans h0, h1⟩
  rw [World.cell?_of_block (t.block b (World.block_lt_of_cell? _ _ h.cell) hb)]
  exact h.cell
end Go.Proofs.Ytcolbgbmnmkogab
