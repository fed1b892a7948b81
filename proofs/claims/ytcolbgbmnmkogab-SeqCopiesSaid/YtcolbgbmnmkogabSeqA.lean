/- Package seq's runs and pieces in memory: slices of structs that lie in the sequence's own block. -/
import Derived.Test.YtcolbgbmnmkogabSqM
namespace Go.Proofs.Ytcolbgbmnmkogab
open Go.RowKit
set_option linter.unusedVariables false
set_option linter.unusedSimpArgs false
set_option maxRecDepth 100000

theorem flat_len {α : Type} (cf : α → List Value) (m : Nat) (hm : ∀ x, (cf x).length = m) : ∀ L : List α, (L.flatMap cf).length = L.length * m
  | [] => by simp
  | x :: L => by rw [List.flatMap_cons, List.length_append, hm, flat_len cf m hm L, List.length_cons, Nat.succ_mul]; omega
theorem flat_get {α : Type} (cf : α → List Value) (m : Nat) (hm : ∀ x, (cf x).length = m) : ∀ (L : List α) (j : Nat) (h : j < L.length) (f : Nat), f < m → (L.flatMap cf)[j * m + f]? = (cf L[j])[f]?
  | x :: L, 0, _, f, hf => by rw [List.flatMap_cons, Nat.zero_mul, Nat.zero_add, List.getElem?_append_left (by rw [hm]; exact hf)]; rfl
  | x :: L, j + 1, h, f, hf => by
    rw [List.flatMap_cons, List.getElem?_append_right (by rw [hm, Nat.succ_mul]; omega), hm, show (j + 1) * m + f - m = j * m + f from by rw [Nat.succ_mul]; omega]
    exact flat_get cf m hm L j (by simpa using h) f hf
/-- A slice of structs whose cells cf tells (m of them, of type ty); it lies in the cell k of the block b, its structs in the block g. -/
structure ArrAt {α : Type} (cf : α → List Value) (m ty : Nat) (w : World) (b k g cap : Nat) (L : List α) : Prop where
  cell : w.cell? ⟨b, k, none⟩ = some (.slice (some ⟨g, 0, none⟩) L.length cap)
  ne : b ≠ g
  row : ∃ cur, w.heap[g]? = some (.cells cur ty (0, 0)) ∧ cur.size = cap * m ∧ L.length ≤ cap ∧ cap ≤ 9223372036854775807 ∧ cur.toList.take (L.length * m) = L.flatMap cf
theorem ArrAt.at {α : Type} {cf : α → List Value} {m ty : Nat} (hm : ∀ x, (cf x).length = m) {w : World} {b k g cap : Nat} {L : List α} (h : ArrAt cf m ty w b k g cap L) (i : Nat) (hi : i < L.length) (f : Nat) (v : Value) (hf : f < m) (hv : (cf L[i])[f]? = some v) : w.cell? ⟨g, i * m + f, none⟩ = some v := by
  obtain ⟨cur, hg, h1, h2, _, h3⟩ := h.row
  rw [cell_of_block hg, ← Array.getElem?_toList, ← hv, ← flat_get cf m hm L i hi f hf, ← h3]
  refine (List.getElem?_take_of_lt ?_).symm
  have : (i + 1) * m ≤ L.length * m := Nat.mul_le_mul_right m hi
  rw [Nat.succ_mul] at this
  omega
theorem ArrAt.lt {α : Type} {cf : α → List Value} {m ty : Nat} {w : World} {b k g cap : Nat} {L : List α} (h : ArrAt cf m ty w b k g cap L) : g < w.heap.size := by
  obtain ⟨cur, hg, _⟩ := h.row
  exact lt_of_heap hg
theorem ArrAt.keep {α : Type} {cf : α → List Value} {m ty : Nat} {S : Nat → Prop} {w w' : World} {b k g cap : Nat} {L : List α} (h : ArrAt cf m ty w b k g cap L) (t : Touch S w w') (hb : ¬ S b) (hg : ¬ S g) : ArrAt cf m ty w' b k g cap L := by
  obtain ⟨cur, h0, h1⟩ := h.row
  refine ⟨?_, h.ne, cur, (t.block g (lt_of_heap h0) hg).trans h0, h1⟩
  rw [World.cell?_of_block (t.block b (World.block_lt_of_cell? _ _ h.cell) hb)]
  exact h.cell
/-- Where its cell and its block stand as they were. -/
theorem ArrAt.keep2 {α : Type} {cf : α → List Value} {m ty : Nat} {w w' : World} {b k g cap : Nat} {L : List α} (h : ArrAt cf m ty w b k g cap L) (hc : w'.cell? ⟨b, k, none⟩ = w.cell? ⟨b, k, none⟩) (hg : w'.heap[g]? = w.heap[g]?) : ArrAt cf m ty w' b k g cap L := by
  obtain ⟨cur, h0, h1⟩ := h.row
  exact ⟨hc.trans h.cell, h.ne, cur, hg.trans h0, h1⟩
theorem RowAt.keep2 {w w' : World} {b k g cap n : Nat} {F : List Nat} {len : Nat → Int} (h : RowAt w b k g cap n F len) (hc : w'.cell? ⟨b, k, none⟩ = w.cell? ⟨b, k, none⟩) (hg : w'.heap[g]? = w.heap[g]?) : RowAt w' b k g cap n F len := by
  obtain ⟨L, tr, h1, h2⟩ := h
  obtain ⟨cur, c0, c1⟩ := h1.row
  exact ⟨L, tr, ⟨hc.trans h1.cell, h1.ne, cur, hg.trans c0, c1⟩, h2⟩
def cellU (u : Un) : List Value := [u64 u.c, u64 u.k, u64 u.lc, u64 u.lk, u64 u.rc, u64 u.rk]
def cellSp (x : Sp) : List Value := [iV (x.run : Int), u64 x.pos]
def cellRn (r : Rn) : List Value := [u64 r.first.c, u64 r.first.k, u64 r.first.lc, u64 r.first.lk, u64 r.first.rc, u64 r.first.rk, iV (r.par.run : Int), u64 r.par.pos, iV (r.far.run : Int), u64 r.far.pos, iV r.depth]
theorem cellSp_len (x : Sp) : (cellSp x).length = 2 := rfl
theorem cellRn_len (x : Rn) : (cellRn x).length = 11 := rfl
abbrev unV (u : Un) : Value := .agg #[u64 u.c, u64 u.k, u64 u.lc, u64 u.lk, u64 u.rc, u64 u.rk]
abbrev spV (x : Sp) : Value := .agg #[iV (x.run : Int), u64 x.pos]
abbrev RunsAt (w : World) (b k g cap : Nat) (R : List Rn) : Prop := ArrAt cellRn 11 49 w b k g cap R
abbrev PcsAt (w : World) (b k g cap : Nat) (P : List Sp) : Prop := ArrAt cellSp 2 47 w b k g cap P
/-- The cells of a run. -/
structure RnAt (w : World) (g i : Nat) (r : Rn) : Prop where
  c0 : w.cell? ⟨g, i * 11, none⟩ = some (u64 r.first.c)
  c1 : w.cell? ⟨g, i * 11 + 1, none⟩ = some (u64 r.first.k)
  c2 : w.cell? ⟨g, i * 11 + 2, none⟩ = some (u64 r.first.lc)
  c3 : w.cell? ⟨g, i * 11 + 3, none⟩ = some (u64 r.first.lk)
  c4 : w.cell? ⟨g, i * 11 + 4, none⟩ = some (u64 r.first.rc)
  c5 : w.cell? ⟨g, i * 11 + 5, none⟩ = some (u64 r.first.rk)
  c6 : w.cell? ⟨g, i * 11 + 6, none⟩ = some (iV (r.par.run : Int))
  c7 : w.cell? ⟨g, i * 11 + 7, none⟩ = some (u64 r.par.pos)
  c8 : w.cell? ⟨g, i * 11 + 8, none⟩ = some (iV (r.far.run : Int))
  c9 : w.cell? ⟨g, i * 11 + 9, none⟩ = some (u64 r.far.pos)
  c10 : w.cell? ⟨g, i * 11 + 10, none⟩ = some (iV r.depth)
theorem ArrAt.rn {w : World} {b k g cap : Nat} {R : List Rn} (h : RunsAt w b k g cap R) (i : Nat) (hi : i < R.length) : RnAt w g i (Go.Proofs.Ytcolbgbmnmkogab.rn R i) := by
  rw [rn_of hi]
  exact ⟨h.at cellRn_len i hi 0 _ (by omega) rfl, h.at cellRn_len i hi 1 _ (by omega) rfl, h.at cellRn_len i hi 2 _ (by omega) rfl, h.at cellRn_len i hi 3 _ (by omega) rfl, h.at cellRn_len i hi 4 _ (by omega) rfl, h.at cellRn_len i hi 5 _ (by omega) rfl, h.at cellRn_len i hi 6 _ (by omega) rfl, h.at cellRn_len i hi 7 _ (by omega) rfl, h.at cellRn_len i hi 8 _ (by omega) rfl, h.at cellRn_len i hi 9 _ (by omega) rfl, h.at cellRn_len i hi 10 _ (by omega) rfl⟩
theorem ArrAt.sp {w : World} {b k g cap : Nat} {P : List Sp} (h : PcsAt w b k g cap P) (i : Nat) (hi : i < P.length) : w.cell? ⟨g, i * 2, none⟩ = some (iV (P[i].run : Int)) ∧ w.cell? ⟨g, i * 2 + 1, none⟩ = some (u64 P[i].pos) :=
  ⟨h.at cellSp_len i hi 0 _ (by omega) rfl, h.at cellSp_len i hi 1 _ (by omega) rfl⟩
/-- Where a sequence's parts lie: its own block, its runs, its pieces, its two rows. -/
structure Bk where
  b : Nat
  gr : Nat
  kr : Nat
  gp : Nat
  kp : Nat
  go : Nat
  ko : Nat
  gi : Nat
  ki : Nat
/-- A sequence in memory. -/
structure SeqM (w : World) (B : Bk) (S : SS) : Prop where
  blk : ∃ c, w.heap[B.b]? = some (.cells c 57 (0, 0))
  runs : RunsAt w B.b 0 B.gr B.kr S.runs
  pcs : PcsAt w B.b 1 B.gp B.kp S.pcs
  ord : RowAt w B.b 2 B.go B.ko S.pcs.length S.ord S.len
  idx : RowAt w B.b 3 B.gi B.ki S.pcs.length S.idx (fun _ => 0)
  apart : [B.gr, B.gp, B.go, B.gi].Nodup
def Bk.has (B : Bk) (x : Nat) : Prop := x = B.b ∨ x = B.gr ∨ x = B.gp ∨ x = B.go ∨ x = B.gi
theorem SeqM.keep {P : Nat → Prop} {w w' : World} {B : Bk} {S : SS} (h : SeqM w B S) (t : Touch P w w') (hP : ∀ x, B.has x → ¬ P x) : SeqM w' B S := by
  have hb := hP B.b (.inl rfl)
  obtain ⟨c, hc⟩ := h.blk
  exact ⟨⟨c, (t.block _ (lt_of_heap hc) hb).trans hc⟩, h.runs.keep t hb (hP _ (.inr (.inl rfl))), h.pcs.keep t hb (hP _ (.inr (.inr (.inl rfl)))), h.ord.keep t hb (hP _ (.inr (.inr (.inr (.inl rfl))))), h.idx.keep t hb (hP _ (.inr (.inr (.inr (.inr rfl))))), h.apart⟩
theorem SeqM.keep0 {w w' : World} {B : Bk} {S : SS} (h : SeqM w B S) (t : Touch (fun _ => False) w w') : SeqM w' B S := h.keep t fun _ _ => id
theorem SeqM.lt {w : World} {B : Bk} {S : SS} (h : SeqM w B S) {x : Nat} (hx : B.has x) : x < w.heap.size := by
  rcases hx with rfl | rfl | rfl | rfl | rfl
  · obtain ⟨c, hc⟩ := h.blk
    exact lt_of_heap hc
  · exact h.runs.lt
  · exact h.pcs.lt
  · exact h.ord.lt
  · exact h.idx.lt
abbrev sP (B : Bk) : Value := .pointer (some ⟨B.b, 0, none⟩)
/-- What is so of a sequence: enough that no call panics, and that pieces are found by ids. -/
structure Inv (S : SS) : Prop where
  root : rn S.runs 0 = .zero
  rlen : 0 < S.runs.length
  rmax : S.runs.length ≤ 1073741824
  pmax : S.pcs.length ≤ 1073741824
  smax : S.total ≤ 281474976710656
  runs : ∀ r, 0 < r → r < S.runs.length → (rn S.runs r).par.run < r ∧ (rn S.runs r).far.run < r ∧ 0 ≤ (rn S.runs r).par.pos ∧ (rn S.runs r).par.pos ≤ 9007199254740992 ∧ 0 ≤ (rn S.runs r).far.pos ∧ (rn S.runs r).far.pos ≤ 9007199254740992 ∧ 0 < (rn S.runs r).depth ∧ (rn S.runs r).depth ≤ r ∧ 1 ≤ (rn S.runs r).first.c ∧ (rn S.runs r).first.c ≤ 9007199254740991 ∧ 1 ≤ (rn S.runs r).first.k ∧ (rn S.runs r).first.k ≤ 9007199254740991
  fst : ∀ r, (rn S.runs r).first.ok
  p0 : S.pc 0 = .zero
  ordF : RowF S.pcs.length S.ord S.len
  idxF : RowF S.pcs.length S.idx (fun _ => 0)
  pcs : ∀ i, 0 < i → i < S.pcs.length → 0 < (S.pc i).run ∧ (S.pc i).run < S.runs.length ∧ 0 ≤ (S.pc i).pos ∧ 1 ≤ S.len i ∧ (rn S.runs (S.pc i).run).first.k + (S.pc i).pos + S.len i ≤ 9007199254740992
  sorted : S.idx.Pairwise fun i j => (S.first i).c < (S.first j).c ∨ ((S.first i).c = (S.first j).c ∧ (S.first i).k + S.len i ≤ (S.first j).k)
end Go.Proofs.Ytcolbgbmnmkogab
