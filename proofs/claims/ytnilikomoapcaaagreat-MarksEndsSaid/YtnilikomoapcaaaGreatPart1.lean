/- Small laws of worlds: what a call may touch; blocks behind a store, behind a new block. They speak of no program. -/
import Derived.WalkKit
import Derived.WalkSpells
import Derived.Deep.MidRow
import Derived.Test.YtnilikomoapcaaaGreatChecked
import Derived.BigRegion
import Derived.Sort.Grow
import Derived.Deep.Draws
import Derived.Deep.LoopGhost
import Derived.Deep.RegionHeld3
import Derived.Deep.QuietTactic
import Derived.BigQuiet
import Derived.Deep.DeepCutAuto
namespace Go.Proofs.YtnilikomoapcaaaGreat
open Go.RowKit
set_option linter.unusedVariables false

/-- w' is w but for the blocks of S, and for new ones. -/
structure Touch (S : Nat → Prop) (w w' : World) : Prop where
  os : w'.os = w.os
  tape : w'.tape = w.tape
  output : w'.output = w.output
  size : w.heap.size ≤ w'.heap.size
  block : ∀ k, k < w.heap.size → ¬ S k → w'.heap[k]? = w.heap[k]?

theorem Touch.refl (S : Nat → Prop) (w : World) : Touch S w w := ⟨rfl, rfl, rfl, Nat.le_refl _, fun _ _ _ => rfl⟩
theorem Touch.trans {S : Nat → Prop} {a b c : World} (h : Touch S a b) (k : Touch S b c) : Touch S a c :=
  ⟨k.os.trans h.os, k.tape.trans h.tape, k.output.trans h.output, Nat.le_trans h.size k.size, fun i hi hs => (k.block i (Nat.lt_of_lt_of_le hi h.size) hs).trans (h.block i hi hs)⟩
theorem Touch.mono {S T : Nat → Prop} {a b : World} (h : Touch S a b) (hs : ∀ k, k < a.heap.size → S k → T k) : Touch T a b :=
  ⟨h.os, h.tape, h.output, h.size, fun k hk ht => h.block k hk fun x => ht (hs k hk x)⟩
/-- Two calls behind one another: what the second touches was touched, or may be, or is new. -/
theorem Touch.then {S T : Nat → Prop} {a b c : World} (h : Touch S a b) (k : Touch T b c) (hs : ∀ k, k < a.heap.size → T k → S k) : Touch S a c :=
  ⟨k.os.trans h.os, k.tape.trans h.tape, k.output.trans h.output, Nat.le_trans h.size k.size, fun i hi hn => (k.block i (Nat.lt_of_lt_of_le hi h.size) fun x => hn (hs i hi x)).trans (h.block i hi hn)⟩
theorem Touch.alloc {S : Nat → Prop} {a b : World} (h : Touch S a b) (o : Obj) : Touch S a (b.alloc o) :=
  ⟨h.os, h.tape, h.output, Nat.le_trans h.size (by simp), fun i hi hn => (Below.heap_alloc b o i (Nat.lt_of_lt_of_le hi h.size)).trans (h.block i hi hn)⟩
theorem heap_setCell_other (w : World) (a : Addr) (v : Value) (k : Nat) (h : a.block ≠ k) : (w.setCell a v).heap[k]? = w.heap[k]? := by
  simp [World.setCell, Array.getElem?_modify, h]
theorem heap_setCell_same (w : World) (p i : Nat) (v : Value) {c : Array Value} {t : TypeId} {fr : Nat × Nat} (h : w.heap[p]? = some (.cells c t fr)) :
    (w.setCell ⟨p, i, none⟩ v).heap[p]? = some (.cells (c.setIfInBounds i v) t fr) := by
  simp [World.setCell, Array.getElem?_modify, h]
theorem size_setCell (w : World) (a : Addr) (v : Value) : (w.setCell a v).heap.size = w.heap.size := by simp [World.setCell]
theorem Touch.setCell {S : Nat → Prop} {a b : World} (h : Touch S a b) (x : Addr) (v : Value) (hx : x.block < a.heap.size → S x.block) : Touch S a (b.setCell x v) :=
  ⟨h.os, h.tape, h.output, by rw [size_setCell]; exact h.size, fun i hi hn => (heap_setCell_other b x v i fun e => hn (e ▸ hx (e ▸ hi))).trans (h.block i hi hn)⟩
theorem Touch.drew {S : Nat → Prop} {a b : World} (h : Touch S a b) : Touch S a b.drew := ⟨h.os, h.tape, h.output, h.size, h.block⟩
theorem Touch.cell {S : Nat → Prop} {w w' : World} (h : Touch S w w') {b : Nat} (hb : b < w.heap.size) (hs : ¬ S b) (o : Nat) : w'.cell? ⟨b, o, none⟩ = w.cell? ⟨b, o, none⟩ :=
  World.cell?_of_block (a := ⟨b, o, none⟩) (h.block b hb hs)
theorem Touch.below {S : Nat → Prop} {B : Nat} {w w' : World} (h : Touch S w w') (hB : B ≤ w.heap.size) (hs : ∀ k, k < B → ¬ S k) : Below B w w' :=
  ⟨h.os, h.tape, h.output, h.size, fun k hk => h.block k (Nat.lt_of_lt_of_le hk hB) (hs k hk)⟩
theorem Touch.grown {S : Nat → Prop} {a b c : World} {r : Option Nat} (h : Touch S a b) (k : b.grownBy c r) (hr : ∀ i, r = some i → i < a.heap.size → S i) : Touch S a c :=
  ⟨k.os.trans h.os, k.tape.trans h.tape, k.output.trans h.output, Nat.le_trans h.size k.size, fun i hi hn => (k.block i (Nat.lt_of_lt_of_le hi h.size) fun e => hn (hr i e.symm hi)).trans (h.block i hi hn)⟩

theorem cell_of_block {w : World} {p i : Nat} {c : Array Value} {t : TypeId} {fr : Nat × Nat} (h : w.heap[p]? = some (.cells c t fr)) : w.cell? ⟨p, i, none⟩ = c[i]? := by
  simp [World.cell?, h]
theorem free_of_block {w : World} {p i : Nat} {c : Array Value} {t : TypeId} (h : w.heap[p]? = some (.cells c t (0, 0))) : w.frozen? ⟨p, i, none⟩ = false := by
  simp [World.frozen?, h]
theorem lt_of_heap {w : World} {p : Nat} {o : Obj} (h : w.heap[p]? = some o) : p < w.heap.size := by
  exact (Array.getElem?_eq_some_iff.1 h).1

end Go.Proofs.YtnilikomoapcaaaGreat

/- Package seq's rows of things in memory: what lies where, and what one store leaves. -/
namespace Go.Proofs.YtnilikomoapcaaaGreat
open Go.RowKit
set_option linter.unusedVariables false
set_option linter.unusedSimpArgs false
set_option maxRecDepth 100000

/-- A thing: what it hangs on, what hangs on its sides, how long it is, and with all below it. -/
structure Th where
  up : Nat
  d0 : Nat
  d1 : Nat
  long : Int
  whole : Int
abbrev iV (n : Int) : Value := .int .i64 n
def cellH (t : Th) : List Value := [iV t.up, iV t.d0, iV t.d1, iV t.long, iV t.whole]
def cellsH (l : List Th) : List Value := l.flatMap cellH
theorem cellsH_cons (t : Th) (l : List Th) : cellsH (t :: l) = iV t.up :: iV t.d0 :: iV t.d1 :: iV t.long :: iV t.whole :: cellsH l := rfl
theorem cellsH_append (a b : List Th) : cellsH (a ++ b) = cellsH a ++ cellsH b := by simp [cellsH]
theorem cellsH_len (l : List Th) : (cellsH l).length = l.length * 5 := by
  induction l with
  | nil => rfl
  | cons f r ih => rw [cellsH_cons]; simp only [List.length_cons, ih]; omega
theorem cellsH_get : ∀ (l : List Th) (j : Nat) (h : j < l.length), (cellsH l)[j * 5]? = some (iV l[j].up) ∧ (cellsH l)[j * 5 + 1]? = some (iV l[j].d0) ∧ (cellsH l)[j * 5 + 2]? = some (iV l[j].d1) ∧ (cellsH l)[j * 5 + 3]? = some (iV l[j].long) ∧ (cellsH l)[j * 5 + 4]? = some (iV l[j].whole)
  | f :: r, 0, _ => ⟨rfl, rfl, rfl, rfl, rfl⟩
  | f :: r, j + 1, h => by
    have ih := cellsH_get r j (by simpa using h)
    rw [cellsH_cons, show (j + 1) * 5 = j * 5 + 5 from by omega]
    exact ih
/-- One cell of a thing laid anew. -/
def Th.put (t : Th) : Nat → Int → Th
  | 0, y => { t with up := y.toNat }
  | 1, y => { t with d0 := y.toNat }
  | 2, y => { t with d1 := y.toNat }
  | 3, y => { t with long := y }
  | _, y => { t with whole := y }
theorem cellH_put (t : Th) (f : Nat) (hf : f < 5) (y : Int) (hy : 0 ≤ y ∨ 3 ≤ f) : (cellH t).set f (iV y) = cellH (t.put f y) := by
  match f, hf with
  | 0, _ => have e : ((y.toNat : Nat) : Int) = y := by omega
            simp [cellH, Th.put, e]
  | 1, _ => have e : ((y.toNat : Nat) : Int) = y := by omega
            simp [cellH, Th.put, e]
  | 2, _ => have e : ((y.toNat : Nat) : Int) = y := by omega
            simp [cellH, Th.put, e]
  | 3, _ => rfl
  | 4, _ => rfl
theorem cellsH_put (f : Nat) (hf : f < 5) (y : Int) (hy : 0 ≤ y ∨ 3 ≤ f) : ∀ (l : List Th) (j : Nat) (h : j < l.length), (cellsH l).set (j * 5 + f) (iV y) = cellsH (l.set j (l[j].put f y))
  | t :: l, 0, _ => by
    show (cellH t ++ cellsH l).set (0 * 5 + f) (iV y) = cellH (t.put f y) ++ cellsH l
    rw [Nat.zero_mul, Nat.zero_add, List.set_append_left _ _ (by show f < 5; omega), cellH_put t f hf y hy]
  | t :: l, j + 1, h => by
    have hj : j < l.length := by simpa using h
    have ih := cellsH_put f hf y hy l j hj
    show (cellH t ++ cellsH l).set ((j + 1) * 5 + f) (iV y) = cellH t ++ cellsH (l.set j (l[j].put f y))
    rw [List.set_append_right _ _ (by show 5 ≤ _; omega), show (j + 1) * 5 + f - (cellH t).length = j * 5 + f from by show (j + 1) * 5 + f - 5 = _; omega, ih]
/-- A row of things: its slice lies in the cell k of the block b, its things in the block g. -/
structure Things (w : World) (b k g cap : Nat) (L : List Th) : Prop where
  cell : w.cell? ⟨b, k, none⟩ = some (.slice (some ⟨g, 0, none⟩) L.length cap)
  ne : b ≠ g
  row : ∃ cur, w.heap[g]? = some (.cells cur 111 (0, 0)) ∧ cur.size = cap * 5 ∧ L.length ≤ cap ∧ cap ≤ 9223372036854775807 ∧ cur.toList.take (L.length * 5) = cellsH L
theorem Things.at {w : World} {b k g cap : Nat} {L : List Th} (h : Things w b k g cap L) (i : Nat) (hi : i < L.length) (f : Nat) (v : Value) (hv : (cellsH L)[i * 5 + f]? = some v) (hf : f < 5) : w.cell? ⟨g, i * 5 + f, none⟩ = some v := by
  obtain ⟨cur, hg, h1, h2, _, h3⟩ := h.row
  rw [cell_of_block hg]
  have e : (cur.toList.take (L.length * 5))[i * 5 + f]? = some v := by rw [h3]; exact hv
  rw [List.getElem?_take_of_lt (by omega)] at e
  rw [← Array.getElem?_toList]
  exact e
theorem Things.free {w : World} {b k g cap : Nat} {L : List Th} (h : Things w b k g cap L) (j : Nat) : w.frozen? ⟨g, j, none⟩ = false := by
  obtain ⟨cur, hg, _⟩ := h.row
  exact free_of_block hg
theorem Things.lt {w : World} {b k g cap : Nat} {L : List Th} (h : Things w b k g cap L) : g < w.heap.size := by
  obtain ⟨cur, hg, _⟩ := h.row
  exact lt_of_heap hg
/-- What an index of a thing tells. -/
structure ThAt (w : World) (g i : Nat) (t : Th) : Prop where
  c0 : w.cell? ⟨g, i * 5, none⟩ = some (iV t.up)
  c1 : w.cell? ⟨g, i * 5 + 1, none⟩ = some (iV t.d0)
  c2 : w.cell? ⟨g, i * 5 + 2, none⟩ = some (iV t.d1)
  c3 : w.cell? ⟨g, i * 5 + 3, none⟩ = some (iV t.long)
  c4 : w.cell? ⟨g, i * 5 + 4, none⟩ = some (iV t.whole)
theorem Things.th {w : World} {b k g cap : Nat} {L : List Th} (h : Things w b k g cap L) (i : Nat) (hi : i < L.length) : ThAt w g i L[i] := by
  obtain ⟨g0, g1, g2, g3, g4⟩ := cellsH_get L i hi
  exact ⟨h.at i hi 0 _ g0 (by omega), h.at i hi 1 _ g1 (by omega), h.at i hi 2 _ g2 (by omega), h.at i hi 3 _ g3 (by omega), h.at i hi 4 _ g4 (by omega)⟩
/-- A store into one cell of a thing. -/
theorem Things.put {w : World} {b k g cap : Nat} {L : List Th} (h : Things w b k g cap L) (i : Nat) (hi : i < L.length) (f : Nat) (hf : f < 5) (y : Int) (hy : 0 ≤ y ∨ 3 ≤ f) :
    Things (w.setCell ⟨g, i * 5 + f, none⟩ (iV y)) b k g cap (L.set i (L[i].put f y)) := by
  obtain ⟨cur, hg, h1, h2, h3, h4⟩ := h.row
  refine ⟨?_, h.ne, cur.setIfInBounds (i * 5 + f) (iV y), heap_setCell_same _ _ _ _ hg, by simpa using h1, by rw [List.length_set]; exact h2, h3, ?_⟩
  · rw [List.length_set, World.cell?_of_block (Below.heap_setCell _ _ _ _ h.ne)]
    exact h.cell
  · rw [Array.toList_setIfInBounds, List.length_set, ← cellsH_put f hf y hy L i hi, ← h4, List.take_set]
theorem Things.keep {S : Nat → Prop} {w w' : World} {b k g cap : Nat} {L : List Th} (h : Things w b k g cap L) (t : Touch S w w') (hb : ¬ S b) (hg : ¬ S g) : Things w' b k g cap L := by
  obtain ⟨cur, h0, h1⟩ := h.row
  refine ⟨?_, h.ne, cur, (t.block g (lt_of_heap h0) hg).trans h0, h1⟩
  rw [World.cell?_of_block (t.block b (World.block_lt_of_cell? _ _ h.cell) hb)]
  exact h.cell
end Go.Proofs.YtnilikomoapcaaaGreat

/- Package seq's row: the small functions. -/
namespace Go.Proofs.YtnilikomoapcaaaGreat
open Go.RowKit
set_option linter.unusedVariables false
set_option linter.unusedSimpArgs false
set_option maxRecDepth 100000

abbrev rP (b k : Nat) : Value := .pointer (some ⟨b, k, none⟩)
set_option maxHeartbeats 2000000 in
theorem top_any {w : World} {b k g cap : Nat} {L : List Th} (h : Things w b k g cap L) (h0 : 0 < L.length) : Calls Tryz.prog 69 #[rP b k] w fun e w' => e = .returned (iV L[0].d1) ∧ w' = w := by
  have hc := h.cell
  have t0 := h.th 0 h0
  have c2 : w.cell? ⟨g, 2, none⟩ = some (iV L[0].d1) := by have := t0.c2; simpa using this
  have l0 : (0 : Int) < (L.length : Int) := by omega
  generalize L[0] = t at *
  clear t0 h
  go_enter Tryz.func69, Tryz.ntmps69
  go_wp2_with fail
  go_ret
  exact ⟨rfl, rfl⟩
set_option maxHeartbeats 2000000 in
theorem lengthOf_any {w : World} {b k g cap : Nat} {L : List Th} (h : Things w b k g cap L) (i : Nat) (hi : i < L.length) : Calls Tryz.prog 39 #[rP b k, iV (i : Int)] w fun e w' => e = .returned (iV L[i].long) ∧ w' = w := by
  have hc := h.cell
  have c3 := (h.th i hi).c3
  have l0 : (i : Int) < (L.length : Int) := by omega
  have l1 : (0 : Int) ≤ (i : Int) := by omega
  generalize L[i] = t at *
  clear h
  go_enter Tryz.func39, Tryz.ntmps39
  go_wp2_with fail
  go_ret
  exact ⟨rfl, rfl⟩
set_option maxHeartbeats 4000000 in
theorem length_any {w : World} {b k g cap : Nat} {L : List Th} (h : Things w b k g cap L) (h0 : 0 < L.length) (hr : L[0].d1 < L.length) : Calls Tryz.prog 35 #[rP b k] w fun e w' => e = .returned (iV L[L[0].d1].whole) ∧ Touch (fun _ => False) w w' := by
  have HT : Hid (∀ W, Things W b k g cap L → Calls Tryz.prog 69 #[rP b k] W fun e w' => e = .returned (iV L[0].d1) ∧ w' = W) := fun W hW => top_any hW h0
  have hc := h.cell
  have c4 := (h.th _ hr).c4
  have l0 : (L[0].d1 : Int) < (L.length : Int) := by omega
  have l1 : (0 : Int) ≤ (L[0].d1 : Int) := by omega
  have HH : Hid (Things w.drew b k g cap L) := h.keep (S := fun _ => False) (Touch.refl _ _).drew id id
  generalize L[L[0].d1] = t at *
  generalize L[0].d1 = i at *
  clear h
  go_enter Tryz.func35, Tryz.ntmps35
  go_upto_region 1 with fail
  go_region_with (go_at_call 69; (with_reducible refine (HT.out _ HH.out).mono ?_); rintro e w' ⟨rfl, rfl⟩)
  all_goals (go_wp2_with fail; go_ret; exact ⟨rfl, (Touch.refl _ _).drew⟩)
set_option maxHeartbeats 4000000 in
theorem side_any {w : World} {b k g cap : Nat} {L : List Th} (h : Things w b k g cap L) (i : Nat) (hi : i < L.length) (hu : L[i].up < L.length) : Calls Tryz.prog 73 #[rP b k, iV (i : Int)] w fun e w' => e = .returned (iV (if L[L[i].up].d1 = i then 1 else 0)) ∧ Touch (fun _ => False) w w' := by
  have hc := h.cell
  have c0 := (h.th i hi).c0
  have c2 := (h.th _ hu).c2
  have l0 : (i : Int) < (L.length : Int) := by omega
  have l1 : (0 : Int) ≤ (i : Int) := by omega
  have l2 : (L[i].up : Int) < (L.length : Int) := by omega
  have l3 : (0 : Int) ≤ (L[i].up : Int) := by omega
  generalize L[L[i].up] = t at *
  generalize L[i].up = u at *
  clear h
  go_enter Tryz.func73, Tryz.ntmps73
  by_cases hd : t.d1 = i
  · have e1 : ((t.d1 : Int) == (i : Int)) = true := by rw [hd]; simp
    rw [if_pos hd]
    clear hd
    go_upto_region 1 with fail
    go_quiet (fail)
    go_wp2_with fail
    go_ret
    exact ⟨rfl, ⟨rfl, rfl, rfl, Nat.le_refl _, fun _ _ _ => rfl⟩⟩
  · have e1 : ((t.d1 : Int) == (i : Int)) = false := by simp; omega
    rw [if_neg hd]
    clear hd
    go_upto_region 1 with fail
    go_quiet (fail)
    go_wp2_with fail
    go_ret
    exact ⟨rfl, ⟨rfl, rfl, rfl, Nat.le_refl _, fun _ _ _ => rfl⟩⟩
end Go.Proofs.YtnilikomoapcaaaGreat

/- Package seq's row: what hangs where, counted anew. -/
namespace Go.Proofs.YtnilikomoapcaaaGreat
open Go.RowKit
set_option linter.unusedVariables false
set_option linter.unusedSimpArgs false
set_option maxRecDepth 100000

def gt (L : List Th) (i : Nat) : Th := (L[i]?).getD ⟨0, 0, 0, 0, 0⟩
theorem gt_of {L : List Th} {i : Nat} (h : i < L.length) : gt L i = L[i] := by unfold gt; rw [List.getElem?_eq_getElem h]; rfl
/-- One cell laid anew. -/
def st (L : List Th) (i f : Nat) (y : Int) : List Th := L.set i ((gt L i).put f y)
theorem st_len (L : List Th) (i f : Nat) (y : Int) : (st L i f y).length = L.length := List.length_set
theorem gt_st {L : List Th} {i j f : Nat} {y : Int} (h : i < L.length) : gt (st L i f y) j = if j = i then (gt L i).put f y else gt L j := by
  unfold st
  by_cases e : j = i
  · subst e
    rw [if_pos rfl]
    unfold gt
    rw [List.getElem?_set_self h]
    rfl
  · rw [if_neg e]
    show ((L.set i _)[j]?).getD _ = _
    rw [List.getElem?_set_ne (by omega)]
    rfl
theorem Things.st {w : World} {b k g cap : Nat} {L : List Th} (h : Things w b k g cap L) (i : Nat) (hi : i < L.length) (f : Nat) (hf : f < 5) (y : Int) (hy : 0 ≤ y ∨ 3 ≤ f) : Things (w.setCell ⟨g, i * 5 + f, none⟩ (iV y)) b k g cap (Go.Proofs.YtnilikomoapcaaaGreat.st L i f y) := by
  unfold Go.Proofs.YtnilikomoapcaaaGreat.st
  rw [gt_of hi]
  exact h.put i hi f hf y hy
theorem Things.cellAt {w : World} {b k g cap : Nat} {L : List Th} (h : Things w b k g cap L) (i : Nat) (hi : i < L.length) (f : Nat) (hf : f < 5) : ∃ v, w.cell? ⟨g, i * 5 + f, none⟩ = some v := by
  have hl := cellsH_len L
  have : i * 5 + f < (cellsH L).length := by omega
  exact ⟨_, h.at i hi f _ (List.getElem?_eq_getElem this) hf⟩
theorem Touch.cellG {w w' : World} {g : Nat} (t : Touch (· = g) w w') (j : Nat) (y : Value) : Touch (· = g) w (w'.setCell ⟨g, j, none⟩ y) := t.setCell _ _ (fun _ => rfl)
/-- i hung on a side of u. -/
def hangL (L : List Th) (u s i : Nat) : List Th := if i = 0 then st L u (1 + s) (i : Int) else st (st L u (1 + s) (i : Int)) i 0 (u : Int)
theorem hangL_len (L : List Th) (u s i : Nat) : (hangL L u s i).length = L.length := by
  unfold hangL
  split <;> simp only [st_len]
set_option maxHeartbeats 4000000 in
theorem hang_any {w : World} {b k g cap : Nat} {L : List Th} (h : Things w b k g cap L) (u s i : Nat) (hu : u < L.length) (hs : s < 2) (hi : i < L.length) : Calls Tryz.prog 95 #[rP b k, iV (u : Int), iV (s : Int), iV (i : Int)] w fun e w' => e = .returned (.tuple #[]) ∧ Things w' b k g cap (hangL L u s i) ∧ Touch (· = g) w w' := by
  have hc := h.cell
  obtain ⟨v0, c0⟩ := h.cellAt u hu (1 + s) (by omega)
  have c0' : w.cell? ⟨g, u * 5 + 1 + s, none⟩ = some v0 := by rw [Nat.add_assoc]; exact c0
  have z0 : w.frozen? ⟨g, u * 5 + 1 + s, none⟩ = false := h.free _
  have l0 : (u : Int) < (L.length : Int) := by omega
  have l1 : (0 : Int) ≤ (u : Int) := by omega
  have l2 : (s : Int) < 2 := by omega
  have l3 : (0 : Int) ≤ (s : Int) := by omega
  have l4 : (i : Int) < (L.length : Int) := by omega
  have l5 : (0 : Int) ≤ (i : Int) := by omega
  obtain ⟨W1, hW1⟩ : ∃ W, Hid (W = w.setCell ⟨g, u * 5 + 1 + s, none⟩ (iV (i : Int))) := ⟨_, Eq.refl _⟩
  have H1 : Hid (Things W1 b k g cap (st L u (1 + s) (i : Int)) ∧ Touch (· = g) w W1) := by
    rw [hW1.out, Nat.add_assoc]
    exact ⟨h.st u hu (1 + s) (by omega) _ (.inl l5), (Touch.refl _ _).cellG _ _⟩
  clear c0 h
  go_enter Tryz.func95, Tryz.ntmps95
  go_upto_region 1 with fail
  rw [← hW1.out]
  clear hW1 c0' z0 hc
  by_cases hi0 : i = 0
  · have e0 : ((i : Int) != 0) = false := by simp [hi0]
    have HF : Hid (Things W1 b k g cap (hangL L u s i) ∧ Touch (· = g) w W1) := by
      unfold hangL
      rw [if_pos hi0]
      exact H1.out
    clear hi0
    go_wp2_with fail
    go_end0
    exact ⟨rfl, HF.out⟩
  · have e0 : ((i : Int) != 0) = true := by simp [hi0]
    have hl1 : (st L u (1 + s) (i : Int)).length = L.length := st_len _ _ _ _
    have hc := H1.out.1.cell
    rw [hl1] at hc
    obtain ⟨v1, c1⟩ := H1.out.1.cellAt i (by omega) 0 (by omega)
    have z1 : W1.frozen? ⟨g, i * 5, none⟩ = false := H1.out.1.free _
    have c1' : W1.cell? ⟨g, i * 5, none⟩ = some v1 := c1
    have HF : Hid (Things (W1.setCell ⟨g, i * 5, none⟩ (iV (u : Int))) b k g cap (hangL L u s i) ∧ Touch (· = g) w (W1.setCell ⟨g, i * 5, none⟩ (iV (u : Int)))) := by
      unfold hangL
      rw [if_neg hi0]
      exact ⟨H1.out.1.st i (by omega) 0 (by omega) _ (.inl l1), H1.out.2.cellG _ _⟩
    clear hi0 hl1 c1 H1
    go_wp2_with fail
    go_end0
    exact ⟨rfl, HF.out⟩
/-- Its whole counted anew. -/
def countL (L : List Th) (i : Nat) : List Th := st L i 4 ((gt L (gt L i).d0).whole + (gt L i).long + (gt L (gt L i).d1).whole)
end Go.Proofs.YtnilikomoapcaaaGreat
