/- Contracts of the small functions of ids: right numbers and ranges, the order of ids, picks. -/
import Derived.Test.YtnilikomoapcaaaGreatChecked
import Derived.Test.YtnilikomoapcaaaGreatPart1
import Derived.Test.YtnilikomoapcaaaGreatIdM
import Derived.BigRegion
import Derived.Sort.Grow
import Derived.Deep.Draws
import Derived.Test.YtnilikomoapcaaaGreatPart7
namespace Go.Proofs.YtnilikomoapcaaaGreat
open Go.RowKit
set_option linter.unusedVariables false
set_option linter.unusedSimpArgs false
set_option maxRecDepth 100000

/-- w' is w, new blocks and draws aside. -/
def Grows (w w' : World) : Prop := ∃ q os, w' = Sort.grow (w.drewN q) os
theorem Grows.refl (w : World) : Grows w w := ⟨0, #[], by unfold Sort.grow; rw [Array.append_empty]; rfl⟩
theorem Grows.trans {a b c : World} (h : Grows a b) (k : Grows b c) : Grows a c := by
  obtain ⟨q, os, rfl⟩ := h
  obtain ⟨p, ot, rfl⟩ := k
  exact ⟨q + p, os ++ ot, by simp only [Sort.grow, World.drewN, Nat.add_assoc, Array.append_assoc]⟩
theorem Grows.alloc {a b : World} (h : Grows a b) (o : Obj) : Grows a (b.alloc o) :=
  h.trans ⟨0, #[o], by rw [show b.drewN 0 = b from rfl]; exact Sort.alloc_eq_grow b o⟩
theorem Grows.drew {a b : World} (h : Grows a b) : Grows a b.drew := h.trans ⟨1, #[], by unfold Sort.grow; rw [Array.append_empty]; rfl⟩
theorem Grows.touch {a b : World} (h : Grows a b) : Touch (fun _ => False) a b := by
  obtain ⟨q, os, rfl⟩ := h
  refine ⟨rfl, rfl, rfl, by simp [Sort.grow, World.drewN], fun k hk _ => ?_⟩
  simp only [Sort.grow, World.drewN]
  exact Array.getElem?_append_left hk

abbrev u64 (x : Int) : Value := .int .u64 x
abbrev rgV (r : Rg) : Value := .agg #[.int .u64 r.c, .int .u64 r.f, .int .u64 r.t]
abbrev tnV (r : Tn) : Value := .agg #[.int .u64 r.c, .int .u64 r.f, .int .u64 r.t, .int .u64 r.n]
abbrev idV (c k : Int) : Value := .agg #[.int .u64 c, .int .u64 k]
abbrev idO (c k : Int) : Obj := .cells #[.int .u64 c, .int .u64 k] 28

set_option maxHeartbeats 400000 in
theorem rightNumber_any (x : Int) (w : World) : Calls Tryz.prog 47 #[u64 x] w fun e w' => e = .returned (.bool (numOk x)) ∧ w' = w := by
  unfold numOk
  by_cases h1 : 1 ≤ x
  · by_cases h2 : x ≤ 9007199254740991
    · go_enter Tryz.func47, Tryz.ntmps47
      go_wp2_with fail
      go_ret
      exact ⟨by simp [h1, h2], rfl⟩
    · go_enter Tryz.func47, Tryz.ntmps47
      go_wp2_with fail
      go_ret
      exact ⟨by simp [h1, h2], rfl⟩
  · go_enter Tryz.func47, Tryz.ntmps47
    go_wp2_with fail
    go_ret
    exact ⟨by simp; omega, rfl⟩

def lessI (a b c d : Int) : Bool := if a = c then decide (b < d) else decide (a < c)
set_option maxHeartbeats 800000 in
theorem less_any (a b c d : Int) (w : World) : Calls Tryz.prog 43 #[idV a b, idV c d] w fun e w' => e = .returned (.bool (lessI a b c d)) ∧ w' = (w.alloc (idO a b)).alloc (idO c d) := by
  unfold lessI
  by_cases h1 : a = c
  · subst h1
    rw [if_pos rfl]
    go_enter Tryz.func43, Tryz.ntmps43
    go_wp2_with fail
    go_ret
    exact ⟨rfl, rfl⟩
  · rw [if_neg h1]
    go_enter Tryz.func43, Tryz.ntmps43
    go_wp2_with fail
    go_ret
    exact ⟨rfl, rfl⟩

set_option maxHeartbeats 800000 in
theorem right_any (c k : Int) (w : World) : Calls Tryz.prog 23 #[idV c k] w fun e w' => e = .returned (.bool (numOk c && numOk k)) ∧ w' = w.alloc (idO c k) := by
  have hc := fun W => rightNumber_any c W
  have hk := fun W => rightNumber_any k W
  generalize numOk c = b at hc ⊢
  generalize numOk k = d at hk ⊢
  cases b with
  | false =>
    go_enter Tryz.func23, Tryz.ntmps23
    go_wp2_with (go_at_call 47; refine (hc _).mono ?_; rintro e w' ⟨rfl, rfl⟩)
    go_ret
    exact ⟨by simp, rfl⟩
  | true =>
    go_enter Tryz.func23, Tryz.ntmps23
    go_wp2_with (go_at_call 47; first | (refine (hc _).mono ?_; rintro e w' ⟨rfl, rfl⟩) | (refine (hk _).mono ?_; rintro e w' ⟨rfl, rfl⟩))
    go_ret
    exact ⟨by simp, rfl⟩

def ifAb (x y : Int) : Int := if y < x then x else 0
end Go.Proofs.YtnilikomoapcaaaGreat

/- Package seq's sequence as a function (no Go in it): what each call answers, and leaves. -/
namespace Go.Proofs.YtnilikomoapcaaaGreat
set_option linter.unusedVariables false
set_option linter.unusedSimpArgs false

/-- A unit: its id, its Left, its Right. -/
structure Un where
  c : Int
  k : Int
  lc : Int
  lk : Int
  rc : Int
  rk : Int
  deriving DecidableEq
/-- A unit's numbers as they come in. -/
structure Un.ok (u : Un) : Prop where
  c : 0 ≤ u.c
  k : 0 ≤ u.k ∧ u.k < 18446744073709551616
  lc : 0 ≤ u.lc
  lk : 0 ≤ u.lk ∧ u.lk < 18446744073709551616
  rc : 0 ≤ u.rc
  rk : 0 ≤ u.rk ∧ u.rk < 18446744073709551616
/-- Of a run the unit that so many are ahead of. -/
structure Sp where
  run : Nat
  pos : Int
  deriving DecidableEq
structure Rn where
  first : Un
  par : Sp
  far : Sp
  depth : Int
  deriving DecidableEq
abbrev Un.zero : Un := ⟨0, 0, 0, 0, 0, 0⟩
abbrev Sp.zero : Sp := ⟨0, 0⟩
abbrev Rn.zero : Rn := ⟨.zero, .zero, .zero, 0⟩
def rn (R : List Rn) (i : Nat) : Rn := (R[i]?).getD .zero
theorem rn_of {R : List Rn} {i : Nat} (h : i < R.length) : rn R i = R[i] := by unfold rn; rw [List.getElem?_eq_getElem h]; rfl
def unitR (R : List Rn) (x : Sp) : Un :=
  if x.pos = 0 then (rn R x.run).first else { (rn R x.run).first with k := (rn R x.run).first.k + x.pos, lc := (rn R x.run).first.c, lk := (rn R x.run).first.k + x.pos - 1 }
/-- What childOver says at its end. -/
def fin (p x : Sp) : Sp × Bool := if x.run ≠ p.run ∨ x.pos ≤ p.pos then (.zero, false) else (⟨p.run, p.pos + 1⟩, true)
def climb (R : List Rn) (p : Sp) : Nat → Sp → Sp × Bool
  | 0, x => fin p x
  | f + 1, x => if x.run = p.run then fin p x else if (rn R p.run).depth < (rn R (rn R x.run).far.run).depth then climb R p f (rn R x.run).far else if (rn R p.run).depth < (rn R (rn R x.run).par.run).depth then climb R p f (rn R x.run).par else if (rn R x.run).par = p then (⟨x.run, 0⟩, true) else fin p (rn R x.run).par
def childR (R : List Rn) (p x : Sp) : Sp × Bool := climb R p (x.run + 1) x
/-- A search by halves. -/
def bis (p : Nat → Bool) : Nat → Nat → Nat → Nat
  | 0, i, _ => i
  | f + 1, i, j => if i < j then (if p ((i + j) / 2) then bis p f i ((i + j) / 2) else bis p f ((i + j) / 2 + 1) j) else i
/-- A sequence: runs; pieces, each with its first unit's spot and its length; how they stand; how they are by ids. -/
structure SS where
  runs : List Rn
  pcs : List Sp
  ord : List Nat
  idx : List Nat
  len : Nat → Int
def SS.new : SS := ⟨[.zero], [.zero], [], [], fun _ => 0⟩
def SS.unit (S : SS) (x : Sp) : Un := unitR S.runs x
def SS.pc (S : SS) (i : Nat) : Sp := (S.pcs[i]?).getD .zero
theorem SS.pc_of {S : SS} {i : Nat} (h : i < S.pcs.length) : S.pc i = S.pcs[i] := by unfold SS.pc; rw [List.getElem?_eq_getElem h]; rfl
def SS.first (S : SS) (i : Nat) : Un := S.unit (S.pc i)
def SS.total (S : SS) : Int := sumF S.len S.ord
def SS.holds (S : SS) (c k : Int) (i : Nat) : Bool := !lessI c k (S.first i).c (S.first i).k
def SS.piece (S : SS) (c k : Int) : Nat := lastF (S.holds c k) S.idx
def SS.find (S : SS) (c k : Int) : Int :=
  if (S.first (S.piece c k)).c ≠ c ∨ S.len (S.piece c k) ≤ k - (S.first (S.piece c k)).k then -1 else aheadF S.len S.ord (S.piece c k) + (k - (S.first (S.piece c k)).k)
def SS.hasAny (S : SS) (c k n : Int) : Bool := decide ((S.first (S.piece c (k + (n - 1)))).c = c ∧ k < (S.first (S.piece c (k + (n - 1)))).k + S.len (S.piece c (k + (n - 1))))
def SS.spotOf (S : SS) (c k : Int) : Sp := ⟨(S.pc (S.piece c k)).run, (S.pc (S.piece c k)).pos + (k - (S.first (S.piece c k)).k)⟩
def SS.spotAt (S : SS) (p : Int) : Sp := ⟨(S.pc (atF S.len S.ord p).1).run, (S.pc (atF S.len S.ord p).1).pos + (atF S.len S.ord p).2⟩
def SS.endOf (S : SS) (i : Nat) : Sp := ⟨(S.pc i).run, (S.pc i).pos + S.len i⟩
def SS.rightOf (S : SS) (u : Un) : Int := if u.rc = 0 ∧ u.rk = 0 then S.total else S.find u.rc u.rk
def SS.between (S : SS) (u : Un) : Int × Int × Bool :=
  if (S.find u.lc u.lk + 1 = 0 ∧ ¬ (u.lc = 0 ∧ u.lk = 0)) ∨ S.rightOf u < S.find u.lc u.lk + 1 then (0, 0, false) else (S.find u.lc u.lk + 1, S.rightOf u, true)
def SS.parentOf (S : SS) (u : Un) : Sp × Bool :=
  if u.rc = 0 ∧ u.rk = 0 then (S.spotOf u.lc u.lk, false) else if (childR S.runs (S.spotOf u.lc u.lk) (S.spotOf u.rc u.rk)).2 then (S.spotOf u.rc u.rk, true) else (S.spotOf u.lc u.lk, false)
def SS.isAhead (S : SS) (u o : Un) : Bool := if u.rc = o.rc ∧ u.rk = o.rk then lessI u.c u.k o.c o.k else decide (S.rightOf o < S.rightOf u)
def SS.placeP (S : SS) (u : Un) (parent : Sp) (left : Bool) (x : Int) : Bool :=
  if (childR S.runs parent (S.spotAt x)).2 then S.isAhead u (S.unit (childR S.runs parent (S.spotAt x)).1) else !left
def SS.placeOf (S : SS) (u : Un) (parent : Sp) (left : Bool) (lo hi : Int) : Int := lo + (bis (fun i => S.placeP u parent left (lo + (i : Int))) (hi - lo).toNat 0 (hi - lo).toNat : Nat)
def SS.addPiece (S : SS) (st by' : Nat) (first : Sp) (n : Int) : SS := { S with pcs := S.pcs ++ [first], ord := insB st S.pcs.length S.ord, idx := insB by' S.pcs.length S.idx, len := fun x => S.len x + (if x = S.pcs.length then n else 0) }
def SS.grow (S : SS) (i : Nat) (n : Int) : SS := { S with len := fun x => S.len x + (if x = i then n else 0) }
def SS.cutAt (S : SS) (place : Int) : Nat := (atF S.len S.ord (place - 1)).1
def SS.restAt (S : SS) (place : Int) : Int := S.len (S.cutAt place) - (atF S.len S.ord (place - 1)).2 - 1
def SS.cut (S : SS) (place : Int) : SS :=
  if 0 < S.restAt place then (S.grow (S.cutAt place) (-S.restAt place)).addPiece (S.cutAt place) (S.cutAt place) ((S.grow (S.cutAt place) (-S.restAt place)).endOf (S.cutAt place)) (S.restAt place) else S
def farOf (R : List Rn) (parent : Sp) : Sp :=
  if (rn R parent.run).depth - (rn R (rn R parent.run).far.run).depth = (rn R (rn R parent.run).far.run).depth - (rn R (rn R (rn R parent.run).far.run).far.run).depth then (rn R (rn R parent.run).far.run).far else parent
def SS.addRun (S : SS) (u : Un) (parent : Sp) : SS := { S with runs := S.runs ++ [⟨u, parent, farOf S.runs parent, (rn S.runs parent.run).depth + 1⟩] }
def SS.lay (S : SS) (place : Int) (u : Un) (parent : Sp) (n : Int) : SS :=
  if (S.cut place).unit ((S.cut place).endOf (S.cutAt place)) = u then (S.cut place).grow (S.cutAt place) n else ((S.cut place).addRun u parent).addPiece (S.cutAt place) ((S.cut place).piece u.c u.k) ⟨S.runs.length, 0⟩ n
/-- May it be laid? -/
def SS.may (S : SS) (u : Un) (n : Int) : Bool := numOk u.c && numOk u.k && decide (1 ≤ n) && decide (n - 1 ≤ 9007199254740991 - u.k) && !S.hasAny u.c u.k n && (S.between u).2.2
def SS.laid (S : SS) (u : Un) (n : Int) : SS := S.lay (S.placeOf u (S.parentOf u).1 (S.parentOf u).2 (S.between u).1 (S.between u).2.1) u (S.parentOf u).1 n
def SS.run (S : SS) (u : Un) (n : Int) : SS := if S.may u n then S.laid u n else S
def SS.at_ (S : SS) (i : Int) : Un × Bool := if i < 0 ∨ S.total ≤ i then (.zero, false) else (S.unit (S.spotAt i), true)
end Go.Proofs.YtnilikomoapcaaaGreat

/- Package seq's runs and pieces in memory: slices of structs that lie in the sequence's own block. -/
namespace Go.Proofs.YtnilikomoapcaaaGreat
open Go.RowKit
set_option linter.unusedVariables false
set_option linter.unusedSimpArgs false
set_option maxRecDepth 100000

theorem flat_len {α : Type} (cf : α → List Value) (m : Nat) (hm : ∀ x, (cf x).length = m) : ∀ L : List α, (L.flatMap cf).length = L.length * m
  | [] => by simp
  | x :: L => by rw [List.flatMap_cons, List.length_append, hm, flat_len cf m hm L, List.length_cons, Nat.succ_mul]; omega
theorem flat_get {α : Type} (cf : α → List Value) (m : Nat) (hm : ∀ x, (cf x).length = m) : ∀ (L : List α) (j : Nat) (h : j < L.length) (f : Nat), f < m → (L.flatMap cf)[j * m + f]? = (cf L[j])[f]?
  | x :: L, 0, _, f, hf => by rw [List.flatMap_cons, Nat.zero_mul, Nat.zero_add, List.getElem?_append_left (by rw [hm]; exact hf)]; rfl
  | x :: L, j + 1, h, f, hf => by
    rw [List.flatMap_cons, List.getElem?_append_right (by rw [hm, Nat.succ_mul]; omega), hm, show (j + 1) * m + f - m = j * m + f from by rw [Nat.succ_mul]; omega]
    exact flat_get cf m hm L j (by simpa using h) f hf
/-- A slice of structs whose cells cf tells (m of them, of type ty); it lies in the cell k of the block b, its structs in the block g. -/
structure ArrAt {α : Type} (cf : α → List Value) (m ty : Nat) (w : World) (b k g cap : Nat) (L : List α) : Prop where
  cell : w.cell? ⟨b, k, none⟩ = some (.slice (some ⟨g, 0, none⟩) L.length cap)
  ne : b ≠ g
  row : ∃ cur, w.heap[g]? = some (.cells cur ty (0, 0)) ∧ cur.size = cap * m ∧ L.length ≤ cap ∧ cap ≤ 9223372036854775807 ∧ cur.toList.take (L.length * m) = L.flatMap cf
theorem ArrAt.at {α : Type} {cf : α → List Value} {m ty : Nat} (hm : ∀ x, (cf x).length = m) {w : World} {b k g cap : Nat} {L : List α} (h : ArrAt cf m ty w b k g cap L) (i : Nat) (hi : i < L.length) (f : Nat) (v : Value) (hf : f < m) (hv : (cf L[i])[f]? = some v) : w.cell? ⟨g, i * m + f, none⟩ = some v := by
  obtain ⟨cur, hg, h1, h2, _, h3⟩ := h.row
  rw [cell_of_block hg, ← Array.getElem?_toList, ← hv, ← flat_get cf m hm L i hi f hf, ← h3]
  refine (List.getElem?_take_of_lt ?_).symm
  have : (i + 1) * m ≤ L.length * m := Nat.mul_le_mul_right m hi
  rw [Nat.succ_mul] at this
  omega
theorem ArrAt.lt {α : Type} {cf : α → List Value} {m ty : Nat} {w : World} {b k g cap : Nat} {L : List α} (h : ArrAt cf m ty w b k g cap L) : g < w.heap.size := by
  obtain ⟨cur, hg, _⟩ := h.row
  exact lt_of_heap hg
theorem ArrAt.keep {α : Type} {cf : α → List Value} {m ty : Nat} {S : Nat → Prop} {w w' : World} {b k g cap : Nat} {L : List α} (h : ArrAt cf m ty w b k g cap L) (t : Touch S w w') (hb : ¬ S b) (hg : ¬ S g) : ArrAt cf m ty w' b k g cap L := by
  obtain ⟨cur, h0, h1⟩ := h.row
  refine ⟨?_, h.ne, cur, (t.block g (lt_of_heap h0) hg).trans h0, h1⟩
  rw [World.cell?_of_block (t.block b (World.block_lt_of_cell? _ _ h.cell) hb)]
  exact h.cell
/-- Where its cell and its block stand as they were. -/
theorem ArrAt.keep2 {α : Type} {cf : α → List Value} {m ty : Nat} {w w' : World} {b k g cap : Nat} {L : List α} (h : ArrAt cf m ty w b k g cap L) (hc : w'.cell? ⟨b, k, none⟩ = w.cell? ⟨b, k, none⟩) (hg : w'.heap[g]? = w.heap[g]?) : ArrAt cf m ty w' b k g cap L := by
  obtain ⟨cur, h0, h1⟩ := h.row
  exact ⟨hc.trans h.cell, h.ne, cur, hg.trans h0, h1⟩
theorem RowAt.keep2 {w w' : World} {b k g cap n : Nat} {F : List Nat} {len : Nat → Int} (h : RowAt w b k g cap n F len) (hc : w'.cell? ⟨b, k, none⟩ = w.cell? ⟨b, k, none⟩) (hg : w'.heap[g]? = w.heap[g]?) : RowAt w' b k g cap n F len := by
  obtain ⟨L, tr, h1, h2⟩ := h
  obtain ⟨cur, c0, c1⟩ := h1.row
  exact ⟨L, tr, ⟨hc.trans h1.cell, h1.ne, cur, hg.trans c0, c1⟩, h2⟩
def cellU (u : Un) : List Value := [u64 u.c, u64 u.k, u64 u.lc, u64 u.lk, u64 u.rc, u64 u.rk]
def cellSp (x : Sp) : List Value := [iV (x.run : Int), u64 x.pos]
def cellRn (r : Rn) : List Value := [u64 r.first.c, u64 r.first.k, u64 r.first.lc, u64 r.first.lk, u64 r.first.rc, u64 r.first.rk, iV (r.par.run : Int), u64 r.par.pos, iV (r.far.run : Int), u64 r.far.pos, iV r.depth]
theorem cellSp_len (x : Sp) : (cellSp x).length = 2 := rfl
theorem cellRn_len (x : Rn) : (cellRn x).length = 11 := rfl
abbrev unV (u : Un) : Value := .agg #[u64 u.c, u64 u.k, u64 u.lc, u64 u.lk, u64 u.rc, u64 u.rk]
abbrev spV (x : Sp) : Value := .agg #[iV (x.run : Int), u64 x.pos]
abbrev RunsAt (w : World) (b k g cap : Nat) (R : List Rn) : Prop := ArrAt cellRn 11 66 w b k g cap R
abbrev PcsAt (w : World) (b k g cap : Nat) (P : List Sp) : Prop := ArrAt cellSp 2 64 w b k g cap P
/-- The cells of a run. -/
structure RnAt (w : World) (g i : Nat) (r : Rn) : Prop where
  c0 : w.cell? ⟨g, i * 11, none⟩ = some (u64 r.first.c)
  c1 : w.cell? ⟨g, i * 11 + 1, none⟩ = some (u64 r.first.k)
  c2 : w.cell? ⟨g, i * 11 + 2, none⟩ = some (u64 r.first.lc)
  c3 : w.cell? ⟨g, i * 11 + 3, none⟩ = some (u64 r.first.lk)
  c4 : w.cell? ⟨g, i * 11 + 4, none⟩ = some (u64 r.first.rc)
  c5 : w.cell? ⟨g, i * 11 + 5, none⟩ = some (u64 r.first.rk)
  c6 : w.cell? ⟨g, i * 11 + 6, none⟩ = some (iV (r.par.run : Int))
  c7 : w.cell? ⟨g, i * 11 + 7, none⟩ = some (u64 r.par.pos)
  c8 : w.cell? ⟨g, i * 11 + 8, none⟩ = some (iV (r.far.run : Int))
  c9 : w.cell? ⟨g, i * 11 + 9, none⟩ = some (u64 r.far.pos)
  c10 : w.cell? ⟨g, i * 11 + 10, none⟩ = some (iV r.depth)
theorem ArrAt.rn {w : World} {b k g cap : Nat} {R : List Rn} (h : RunsAt w b k g cap R) (i : Nat) (hi : i < R.length) : RnAt w g i (Go.Proofs.YtnilikomoapcaaaGreat.rn R i) := by
  rw [rn_of hi]
  exact ⟨h.at cellRn_len i hi 0 _ (by omega) rfl, h.at cellRn_len i hi 1 _ (by omega) rfl, h.at cellRn_len i hi 2 _ (by omega) rfl, h.at cellRn_len i hi 3 _ (by omega) rfl, h.at cellRn_len i hi 4 _ (by omega) rfl, h.at cellRn_len i hi 5 _ (by omega) rfl, h.at cellRn_len i hi 6 _ (by omega) rfl, h.at cellRn_len i hi 7 _ (by omega) rfl, h.at cellRn_len i hi 8 _ (by omega) rfl, h.at cellRn_len i hi 9 _ (by omega) rfl, h.at cellRn_len i hi 10 _ (by omega) rfl⟩
theorem ArrAt.sp {w : World} {b k g cap : Nat} {P : List Sp} (h : PcsAt w b k g cap P) (i : Nat) (hi : i < P.length) : w.cell? ⟨g, i * 2, none⟩ = some (iV (P[i].run : Int)) ∧ w.cell? ⟨g, i * 2 + 1, none⟩ = some (u64 P[i].pos) :=
  ⟨h.at cellSp_len i hi 0 _ (by omega) rfl, h.at cellSp_len i hi 1 _ (by omega) rfl⟩
/-- Where a sequence's parts lie: its own block, its runs, its pieces, its two rows. -/
structure Bk where
  b : Nat
  gr : Nat
  kr : Nat
  gp : Nat
  kp : Nat
  go : Nat
  ko : Nat
  gi : Nat
  ki : Nat
/-- A sequence in memory. -/
structure SeqM (w : World) (B : Bk) (S : SS) : Prop where
  blk : ∃ c, w.heap[B.b]? = some (.cells c 74 (0, 0))
  runs : RunsAt w B.b 0 B.gr B.kr S.runs
  pcs : PcsAt w B.b 1 B.gp B.kp S.pcs
  ord : RowAt w B.b 2 B.go B.ko S.pcs.length S.ord S.len
  idx : RowAt w B.b 3 B.gi B.ki S.pcs.length S.idx (fun _ => 0)
  apart : [B.gr, B.gp, B.go, B.gi].Nodup
def Bk.has (B : Bk) (x : Nat) : Prop := x = B.b ∨ x = B.gr ∨ x = B.gp ∨ x = B.go ∨ x = B.gi
theorem SeqM.keep {P : Nat → Prop} {w w' : World} {B : Bk} {S : SS} (h : SeqM w B S) (t : Touch P w w') (hP : ∀ x, B.has x → ¬ P x) : SeqM w' B S := by
  have hb := hP B.b (.inl rfl)
  obtain ⟨c, hc⟩ := h.blk
  exact ⟨⟨c, (t.block _ (lt_of_heap hc) hb).trans hc⟩, h.runs.keep t hb (hP _ (.inr (.inl rfl))), h.pcs.keep t hb (hP _ (.inr (.inr (.inl rfl)))), h.ord.keep t hb (hP _ (.inr (.inr (.inr (.inl rfl))))), h.idx.keep t hb (hP _ (.inr (.inr (.inr (.inr rfl))))), h.apart⟩
theorem SeqM.keep0 {w w' : World} {B : Bk} {S : SS} (h : SeqM w B S) (t : Touch (fun _ => False) w w') : SeqM w' B S := h.keep t fun _ _ => id
theorem SeqM.lt {w : World} {B : Bk} {S : SS} (h : SeqM w B S) {x : Nat} (hx : B.has x) : x < w.heap.size := by
  rcases hx with rfl | rfl | rfl | rfl | rfl
  · obtain ⟨c, hc⟩ := h.blk
    exact lt_of_heap hc
  · exact h.runs.lt
  · exact h.pcs.lt
  · exact h.ord.lt
  · exact h.idx.lt
abbrev sP (B : Bk) : Value := .pointer (some ⟨B.b, 0, none⟩)
/-- What is so of a sequence: enough that no call panics, and that pieces are found by ids. -/
structure Inv (S : SS) : Prop where
  root : rn S.runs 0 = .zero
  rlen : 0 < S.runs.length
  rmax : S.runs.length ≤ 1073741824
  pmax : S.pcs.length ≤ 1073741824
  smax : S.total ≤ 281474976710656
  runs : ∀ r, 0 < r → r < S.runs.length → (rn S.runs r).par.run < r ∧ (rn S.runs r).far.run < r ∧ 0 ≤ (rn S.runs r).par.pos ∧ (rn S.runs r).par.pos ≤ 9007199254740992 ∧ 0 ≤ (rn S.runs r).far.pos ∧ (rn S.runs r).far.pos ≤ 9007199254740992 ∧ 0 < (rn S.runs r).depth ∧ (rn S.runs r).depth ≤ r ∧ 1 ≤ (rn S.runs r).first.c ∧ (rn S.runs r).first.c ≤ 9007199254740991 ∧ 1 ≤ (rn S.runs r).first.k ∧ (rn S.runs r).first.k ≤ 9007199254740991
  fst : ∀ r, (rn S.runs r).first.ok
  p0 : S.pc 0 = .zero
  ordF : RowF S.pcs.length S.ord S.len
  idxF : RowF S.pcs.length S.idx (fun _ => 0)
  pcs : ∀ i, 0 < i → i < S.pcs.length → 0 < (S.pc i).run ∧ (S.pc i).run < S.runs.length ∧ 0 ≤ (S.pc i).pos ∧ 1 ≤ S.len i ∧ (rn S.runs (S.pc i).run).first.k + (S.pc i).pos + S.len i ≤ 9007199254740992
  sorted : S.idx.Pairwise fun i j => (S.first i).c < (S.first j).c ∨ ((S.first i).c = (S.first j).c ∧ (S.first i).k + S.len i ≤ (S.first j).k)
end Go.Proofs.YtnilikomoapcaaaGreat

/- Package seq: unit. -/
namespace Go.Proofs.YtnilikomoapcaaaGreat
open Go.RowKit
set_option linter.unusedVariables false
set_option linter.unusedSimpArgs false
set_option maxRecDepth 100000

theorem cell_keep {w W : World} (t : Touch (fun _ => False) w W) {b o : Nat} {v : Value} (h : w.cell? ⟨b, o, none⟩ = some v) : W.cell? ⟨b, o, none⟩ = some v := by
  rw [World.cell?_of_block (t.block _ (World.block_lt_of_cell? _ _ h) id)]; exact h
theorem heap_keep {w W : World} (t : Touch (fun _ => False) w W) {b : Nat} {o : Obj} (h : w.heap[b]? = some o) : W.heap[b]? = some o := (t.block _ (lt_of_heap h) id).trans h
abbrev zeroUO : Obj := .cells #[u64 0, u64 0, u64 0, u64 0, u64 0, u64 0] 32
abbrev unO (u : Un) : Obj := .cells #[u64 u.c, u64 u.k, u64 u.lc, u64 u.lk, u64 u.rc, u64 u.rk] 32
abbrev spO (x : Sp) : Obj := .cells #[iV (x.run : Int), u64 x.pos] 64
set_option maxHeartbeats 4000000 in
theorem unit_any {w : World} {b g cap : Nat} {R : List Rn} (h : RunsAt w b 0 g cap R) (x : Sp) (hx : x.run < R.length) (h0 : 0 ≤ x.pos) (hk : 0 ≤ (rn R x.run).first.k) (hb : (rn R x.run).first.k + x.pos ≤ 18014398509481984) :
    Calls Tryz.prog 36 #[.pointer (some ⟨b, 0, none⟩), spV x] w fun e w' => e = .returned (unV (unitR R x)) ∧ Touch (fun _ => False) w w' := by
  have HC : Hid (∀ W, Touch (fun _ => False) w W → W.cell? ⟨b, 0, none⟩ = some (.slice (some ⟨g, 0, none⟩) R.length cap) ∧ RnAt W g x.run (rn R x.run)) := fun W t => ⟨(h.keep t id id).cell, (h.keep t id id).rn x.run hx⟩
  obtain ⟨xr, xp⟩ := x
  have l0 : (xr : Int) < (R.length : Int) := by simp only at hx; omega
  have l1 : (0 : Int) ≤ (xr : Int) := by omega
  simp only at h0 hk hb HC hx
  unfold unitR
  simp only
  generalize rn R xr = r at *
  obtain ⟨⟨uc, uk, ulc, ulk, urc, urk⟩, rp, rf, rd⟩ := r
  simp only at hk hb HC ⊢
  have HT1 : Hid (Touch (fun _ => False) w ((w.alloc (.cells #[iV (xr : Int), u64 xp] 64)).alloc zeroUO)) := ((Touch.refl _ _).alloc _).alloc _
  obtain ⟨hc, c0, c1, c2, c3, c4, c5, -, -, -, -, -⟩ := HC.out _ HT1.out
  obtain ⟨hd, d0, d1, d2, d3, d4, d5, -, -, -, -, -⟩ := HC.out _ (HT1.out.alloc zeroUO)
  clear h hx HC
  by_cases hp : xp = 0
  · subst hp
    rw [if_pos rfl]
    clear h0 hk hb
    go_enter Tryz.func36, Tryz.ntmps36
    go_upto_region 1 with fail
    go_region
    go_wp2_with fail
    refine bodyPost_ret (v := .agg #[u64 uc, u64 uk, u64 ulc, u64 ulk, u64 urc, u64 urk]) (by simp [results, Tryz.results36, go_sem]) rfl ?_
    exact ⟨rfl, ((((Touch.refl _ _).alloc _).alloc _).alloc _).drew⟩
  · rw [if_neg hp]
    have e1 : (xp == 0) = false := by simp [hp]
    have e2 : IntKind.u64.wrap (uk + xp) = uk + xp := by rw [IntKind.wrap_u64]; omega
    have e3 : IntKind.u64.wrap (uk + xp - 1) = uk + xp - 1 := by rw [IntKind.wrap_u64]; omega
    clear h0 hk hb hp
    go_enter Tryz.func36, Tryz.ntmps36
    go_upto_region 1 with fail
    go_region
    go_wp2_with fail
    refine bodyPost_ret (v := .agg #[u64 uc, u64 (uk + xp), u64 uc, u64 (uk + xp - 1), u64 urc, u64 urk]) (by simp [results, Tryz.results36, go_sem]) rfl ?_
    exact ⟨rfl, ((((Touch.refl _ _).alloc _).alloc _).alloc _).drew⟩
end Go.Proofs.YtnilikomoapcaaaGreat

/- What is so of a sequence (no Go in it): pieces are found by ids; numbers are in their bounds. -/
namespace Go.Proofs.YtnilikomoapcaaaGreat
set_option linter.unusedVariables false
set_option linter.unusedSimpArgs false

theorem unitR_c (R : List Rn) (x : Sp) : (unitR R x).c = (rn R x.run).first.c := by unfold unitR; split <;> rfl
theorem unitR_k (R : List Rn) (x : Sp) : (unitR R x).k = (rn R x.run).first.k + x.pos := by
  unfold unitR
  split
  · next h => rw [h]; omega
  · rfl
theorem unitR_r (R : List Rn) (x : Sp) : (unitR R x).rc = (rn R x.run).first.rc ∧ (unitR R x).rk = (rn R x.run).first.rk := by unfold unitR; split <;> exact ⟨rfl, rfl⟩
/-- What unit asks of a spot. -/
def SpOk (S : SS) (x : Sp) : Prop := x.run < S.runs.length ∧ 0 ≤ x.pos ∧ 0 ≤ (rn S.runs x.run).first.k ∧ (rn S.runs x.run).first.k + x.pos ≤ 18014398509481984
theorem Inv.pcOk {S : SS} (h : Inv S) {i : Nat} (hi : i < S.pcs.length) : (S.pc i).run < S.runs.length ∧ 0 ≤ (S.pc i).pos ∧ 0 ≤ (rn S.runs (S.pc i).run).first.k ∧ (rn S.runs (S.pc i).run).first.k + (S.pc i).pos + S.len i ≤ 9007199254740992 ∧ 0 ≤ S.len i := by
  by_cases h0 : i = 0
  · rw [h0, h.p0]
    have hr : rn S.runs 0 = .zero := h.root
    show 0 < _ ∧ (0 : Int) ≤ 0 ∧ 0 ≤ (rn S.runs 0).first.k ∧ (rn S.runs 0).first.k + 0 + S.len 0 ≤ _ ∧ _
    rw [hr, h.ordF.zero]
    exact ⟨h.rlen, by decide, by decide, by decide, by decide⟩
  · obtain ⟨a, b, c, d, e⟩ := h.pcs i (by omega) hi
    have := (h.runs _ a b).2.2.2.2.2.2.2.2.2.2.1
    exact ⟨b, c, by omega, e, by omega⟩
theorem Inv.spOk {S : SS} (h : Inv S) {i : Nat} (hi : i < S.pcs.length) : SpOk S (S.pc i) := by
  obtain ⟨a, b, c, d, e⟩ := h.pcOk hi
  exact ⟨a, b, c, by omega⟩
theorem Inv.pos {S : SS} (h : Inv S) : 0 < S.pcs.length := h.ordF.n0
theorem dropWhile_all {p : Nat → Bool} {R : Nat → Nat → Prop} (hR : ∀ i j, R i j → p j = true → p i = true) : ∀ {l : List Nat}, l.Pairwise R → ∀ x ∈ l.dropWhile p, p x = false
  | [], _, x, hx => by cases hx
  | y :: l, h, x, hx => by
    have hc := List.pairwise_cons.1 h
    rw [List.dropWhile_cons] at hx
    cases hp : p y with
    | true => rw [hp] at hx; exact dropWhile_all hR hc.2 x hx
    | false =>
      rw [hp] at hx
      rcases List.mem_cons.1 hx with rfl | hx
      · exact hp
      · cases hq : p x with
        | false => rfl
        | true => exact absurd (hR y x (hc.1 x hx) hq) (by rw [hp]; simp)
theorem holds_iff {S : SS} {c k : Int} {i : Nat} : S.holds c k i = true ↔ (S.first i).c < c ∨ ((S.first i).c = c ∧ (S.first i).k ≤ k) := by
  unfold SS.holds lessI
  by_cases h : c = (S.first i).c
  · rw [if_pos h]
    simp
    omega
  · rw [if_neg h]
    simp
    omega
theorem Inv.mono {S : SS} (h : Inv S) (c k : Int) : ∀ x ∈ S.idx.dropWhile (S.holds c k), S.holds c k x = false := by
  have hl : ∀ i, 0 ≤ S.len i := h.ordF.long
  refine dropWhile_all (fun i j hR hj => ?_) h.sorted
  rw [holds_iff] at hj ⊢
  have := hl i
  omega
theorem getLastD_mem : ∀ {l : List Nat} {d : Nat}, l.getLastD d = d ∨ l.getLastD d ∈ l
  | [], d => .inl rfl
  | x :: l, d => by
    rw [List.getLastD_cons]
    rcases getLastD_mem (l := l) (d := x) with h | h
    · exact .inr (by rw [h]; simp)
    · exact .inr (List.mem_cons_of_mem _ h)
theorem lastF_mem {p : Nat → Bool} {l : List Nat} : lastF p l = 0 ∨ (lastF p l ∈ l ∧ p (lastF p l) = true) := by
  unfold lastF
  rcases getLastD_mem (l := l.takeWhile p) (d := 0) with h | h
  · exact .inl h
  · exact .inr ⟨(List.takeWhile_sublist p).mem h, List.all_eq_true.1 (List.all_takeWhile (p := p) (l := l)) _ h⟩
theorem Inv.piece_lt {S : SS} (h : Inv S) (c k : Int) : S.piece c k < S.pcs.length := by
  unfold SS.piece
  rcases lastF_mem (p := S.holds c k) (l := S.idx) with e | ⟨e, _⟩
  · rw [e]; exact h.pos
  · exact ((h.idxF.lab _).1 e).2
theorem Inv.first0 {S : SS} (h : Inv S) : S.first 0 = .zero := by
  unfold SS.first SS.unit unitR
  rw [h.p0, if_pos rfl]
  show (rn S.runs 0).first = _
  rw [h.root]
/-- The piece that is found is no later than what is sought. -/
theorem Inv.piece_le {S : SS} (h : Inv S) (c k : Int) (hc : 0 ≤ c) (hk : 0 ≤ k) : (S.first (S.piece c k)).c < c ∨ ((S.first (S.piece c k)).c = c ∧ (S.first (S.piece c k)).k ≤ k) := by
  unfold SS.piece
  rcases lastF_mem (p := S.holds c k) (l := S.idx) with e | ⟨_, e⟩
  · rw [e, h.first0]
    show (0 : Int) < c ∨ ((0 : Int) = c ∧ (0 : Int) ≤ k)
    omega
  · exact holds_iff.1 e
theorem Inv.firstOk {S : SS} (h : Inv S) {i : Nat} (hi : i < S.pcs.length) : 0 ≤ (S.first i).k ∧ (S.first i).k + S.len i ≤ 9007199254740992 ∧ 0 ≤ S.len i := by
  obtain ⟨a, b, c, d, e⟩ := h.pcOk hi
  unfold SS.first SS.unit
  rw [unitR_k]
  omega
theorem sumF_mem {len : Nat → Int} (hl : ∀ x, 0 ≤ len x) : ∀ {l : List Nat} {i : Nat}, i ∈ l → len i ≤ sumF len l
  | x :: l, i, h => by
    have := sumF_nn hl l
    have := hl x
    rw [sumF_cons]
    rcases List.mem_cons.1 h with rfl | h
    · omega
    · have := sumF_mem hl h
      omega
theorem Inv.len_le {S : SS} (h : Inv S) (i : Nat) : S.len i ≤ 281474976710656 := by
  have h1 := h.smax
  by_cases hi : i ∈ S.ord
  · have := sumF_mem h.ordF.long hi
    unfold SS.total at h1
    omega
  · have : S.len i = 0 := by
      by_cases h0 : i = 0
      · rw [h0]; exact h.ordF.zero
      · refine h.ordF.out i ?_
        rcases Nat.lt_or_ge i S.pcs.length with h' | h'
        · exact absurd ((h.ordF.lab i).2 ⟨by omega, h'⟩) hi
        · exact h'
    omega
theorem takeWhile_sum {len : Nat → Int} (hl : ∀ x, 0 ≤ len x) (p : Nat → Bool) (l : List Nat) : sumF len (l.takeWhile p) ≤ sumF len l := by
  have h := List.takeWhile_append_dropWhile (p := p) (l := l)
  have h2 := sumF_nn hl (l.dropWhile p)
  have h3 := sumF_append len (l.takeWhile p) (l.dropWhile p)
  rw [h] at h3
  omega
theorem Inv.ahead_le {S : SS} (h : Inv S) (i : Nat) : 0 ≤ aheadF S.len S.ord i ∧ aheadF S.len S.ord i ≤ 281474976710656 := by
  have h1 := h.smax
  have := takeWhile_sum h.ordF.long (fun x => decide (x ≠ i)) S.ord
  unfold SS.total at h1
  exact ⟨sumF_nn h.ordF.long _, by unfold aheadF; omega⟩
theorem Inv.total_nn {S : SS} (h : Inv S) : 0 ≤ S.total := sumF_nn h.ordF.long _
/-- What at tells: a thing of the row, and a place within it; or none. -/
theorem atF_in {len : Nat → Int} (hl : ∀ x, 0 ≤ len x) : ∀ (l : List Nat) (p : Int), atF len l p = (0, 0) ∨ ((atF len l p).1 ∈ l ∧ 0 ≤ (atF len l p).2 ∧ (atF len l p).2 < len (atF len l p).1)
  | [], p => .inl rfl
  | i :: l, p => by
    unfold atF
    by_cases h0 : p < 0
    · rw [if_pos h0]; exact .inl rfl
    · rw [if_neg h0]
      by_cases h1 : p < len i
      · rw [if_pos h1]
        exact .inr ⟨by simp, by show 0 ≤ p; omega, h1⟩
      · rw [if_neg h1]
        rcases atF_in hl l (p - len i) with h | ⟨a, b⟩
        · exact .inl h
        · exact .inr ⟨by simp [a], b⟩
theorem Inv.atOk {S : SS} (h : Inv S) (p : Int) : (atF S.len S.ord p).1 < S.pcs.length ∧ 0 ≤ (atF S.len S.ord p).2 ∧ (atF S.len S.ord p).2 ≤ S.len (atF S.len S.ord p).1 := by
  rcases atF_in h.ordF.long S.ord p with e | ⟨a, b, c⟩
  · rw [e]
    exact ⟨h.pos, Int.le_refl _, h.ordF.long 0⟩
  · exact ⟨((h.ordF.lab _).1 a).2, b, by omega⟩
end Go.Proofs.YtnilikomoapcaaaGreat
