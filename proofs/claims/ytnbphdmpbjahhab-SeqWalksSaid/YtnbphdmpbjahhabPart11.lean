/- Contracts of the small functions of ids: right numbers and ranges, the order of ids, picks. -/
import Derived.Test.YtnbphdmpbjahhabChecked
import Derived.Test.YtnbphdmpbjahhabPart1
import Derived.Test.YtnbphdmpbjahhabIdM
import Derived.BigRegion
import Derived.Sort.Grow
import Derived.Deep.Draws
import Derived.Test.YtnbphdmpbjahhabPart10
namespace Go.Proofs.Ytnbphdmpbjahhab
open Go.RowKit
set_option linter.unusedVariables false
set_option linter.unusedSimpArgs false
set_option maxRecDepth 100000

/-- w' is w, new blocks and draws aside. -/
def Grows (w w' : World) : Prop := ∃ q os, w' = Sort.grow (w.drewN q) os
theorem Grows.refl (w : World) : Grows w w := ⟨0, #[], by unfold Sort.grow; rw [Array.append_empty]; rfl⟩
theorem Grows.trans {a b c : World} (h : Grows a b) (k : Grows b c) : Grows a c := by
  obtain ⟨q, os, rfl⟩ := h
  obtain ⟨p, ot, rfl⟩ := k
  exact ⟨q + p, os ++ ot, by simp only [Sort.grow, World.drewN, Nat.add_assoc, Array.append_assoc]⟩
theorem Grows.alloc {a b : World} (h : Grows a b) (o : Obj) : Grows a (b.alloc o) :=
  h.trans ⟨0, #[o], by rw [show b.drewN 0 = b from rfl]; exact Sort.alloc_eq_grow b o⟩
theorem Grows.drew {a b : World} (h : Grows a b) : Grows a b.drew := h.trans ⟨1, #[], by unfold Sort.grow; rw [Array.append_empty]; rfl⟩
theorem Grows.touch {a b : World} (h : Grows a b) : Touch (fun _ => False) a b := by
  obtain ⟨q, os, rfl⟩ := h
  refine ⟨rfl, rfl, rfl, by simp [Sort.grow, World.drewN], fun k hk _ => ?_⟩
  simp only [Sort.grow, World.drewN]
  exact Array.getElem?_append_left hk

abbrev u64 (x : Int) : Value := .int .u64 x
abbrev rgV (r : Rg) : Value := .agg #[.int .u64 r.c, .int .u64 r.f, .int .u64 r.t]
abbrev tnV (r : Tn) : Value := .agg #[.int .u64 r.c, .int .u64 r.f, .int .u64 r.t, .int .u64 r.n]
abbrev idV (c k : Int) : Value := .agg #[.int .u64 c, .int .u64 k]
abbrev idO (c k : Int) : Obj := .cells #[.int .u64 c, .int .u64 k] 31

set_option maxHeartbeats 400000 in
theorem rightNumber_any (x : Int) (w : World) : Calls Try.prog 54 #[u64 x] w fun e w' => e = .returned (.bool (numOk x)) ∧ w' = w := by
  unfold numOk
  by_cases h1 : 1 ≤ x
  · by_cases h2 : x ≤ 9007199254740991
    · go_enter Try.func54, Try.ntmps54
      go_wp2_with fail
      go_ret
      exact ⟨by simp [h1, h2], rfl⟩
    · go_enter Try.func54, Try.ntmps54
      go_wp2_with fail
      go_ret
      exact ⟨by simp [h1, h2], rfl⟩
  · go_enter Try.func54, Try.ntmps54
    go_wp2_with fail
    go_ret
    exact ⟨by simp; omega, rfl⟩

def lessI (a b c d : Int) : Bool := if a = c then decide (b < d) else decide (a < c)
set_option maxHeartbeats 800000 in
theorem less_any (a b c d : Int) (w : World) : Calls Try.prog 50 #[idV a b, idV c d] w fun e w' => e = .returned (.bool (lessI a b c d)) ∧ w' = (w.alloc (idO a b)).alloc (idO c d) := by
  unfold lessI
  by_cases h1 : a = c
  · subst h1
    rw [if_pos rfl]
    go_enter Try.func50, Try.ntmps50
    go_wp2_with fail
    go_ret
    exact ⟨rfl, rfl⟩
  · rw [if_neg h1]
    go_enter Try.func50, Try.ntmps50
    go_wp2_with fail
    go_ret
    exact ⟨rfl, rfl⟩

set_option maxHeartbeats 800000 in
theorem right_any (c k : Int) (w : World) : Calls Try.prog 32 #[idV c k] w fun e w' => e = .returned (.bool (numOk c && numOk k)) ∧ w' = w.alloc (idO c k) := by
  have hc := fun W => rightNumber_any c W
  have hk := fun W => rightNumber_any k W
  generalize numOk c = b at hc ⊢
  generalize numOk k = d at hk ⊢
  cases b with
  | false =>
    go_enter Try.func32, Try.ntmps32
    go_wp2_with (go_at_call 54; refine (hc _).mono ?_; rintro e w' ⟨rfl, rfl⟩)
    go_ret
    exact ⟨by simp, rfl⟩
  | true =>
    go_enter Try.func32, Try.ntmps32
    go_wp2_with (go_at_call 54; first | (refine (hc _).mono ?_; rintro e w' ⟨rfl, rfl⟩) | (refine (hk _).mono ?_; rintro e w' ⟨rfl, rfl⟩))
    go_ret
    exact ⟨by simp, rfl⟩

def ifAb (x y : Int) : Int := if y < x then x else 0
end Go.Proofs.Ytnbphdmpbjahhab

/- Package seq's sequence as a function (no Go in it): what each call answers, and leaves. -/
namespace Go.Proofs.Ytnbphdmpbjahhab
set_option linter.unusedVariables false
set_option linter.unusedSimpArgs false

/-- A unit: its id, its Left, its Right. -/
structure Un where
  c : Int
  k : Int
  lc : Int
  lk : Int
  rc : Int
  rk : Int
  deriving DecidableEq
/-- A unit's numbers as they come in. -/
structure Un.ok (u : Un) : Prop where
  c : 0 ≤ u.c
  k : 0 ≤ u.k ∧ u.k < 18446744073709551616
  lc : 0 ≤ u.lc
  lk : 0 ≤ u.lk ∧ u.lk < 18446744073709551616
  rc : 0 ≤ u.rc
  rk : 0 ≤ u.rk ∧ u.rk < 18446744073709551616
/-- Of a run the unit that so many are ahead of. -/
structure Sp where
  run : Nat
  pos : Int
  deriving DecidableEq
structure Rn where
  first : Un
  par : Sp
  far : Sp
  depth : Int
  deriving DecidableEq
abbrev Un.zero : Un := ⟨0, 0, 0, 0, 0, 0⟩
abbrev Sp.zero : Sp := ⟨0, 0⟩
abbrev Rn.zero : Rn := ⟨.zero, .zero, .zero, 0⟩
def rn (R : List Rn) (i : Nat) : Rn := (R[i]?).getD .zero
theorem rn_of {R : List Rn} {i : Nat} (h : i < R.length) : rn R i = R[i] := by unfold rn; rw [List.getElem?_eq_getElem h]; rfl
def unitR (R : List Rn) (x : Sp) : Un :=
  if x.pos = 0 then (rn R x.run).first else { (rn R x.run).first with k := (rn R x.run).first.k + x.pos, lc := (rn R x.run).first.c, lk := (rn R x.run).first.k + x.pos - 1 }
/-- What childOver says at its end. -/
def fin (p x : Sp) : Sp × Bool := if x.run ≠ p.run ∨ x.pos ≤ p.pos then (.zero, false) else (⟨p.run, p.pos + 1⟩, true)
def climb (R : List Rn) (p : Sp) : Nat → Sp → Sp × Bool
  | 0, x => fin p x
  | f + 1, x => if x.run = p.run then fin p x else if (rn R p.run).depth < (rn R (rn R x.run).far.run).depth then climb R p f (rn R x.run).far else if (rn R p.run).depth < (rn R (rn R x.run).par.run).depth then climb R p f (rn R x.run).par else if (rn R x.run).par = p then (⟨x.run, 0⟩, true) else fin p (rn R x.run).par
def childR (R : List Rn) (p x : Sp) : Sp × Bool := climb R p (x.run + 1) x
/-- A search by halves. -/
def bis (p : Nat → Bool) : Nat → Nat → Nat → Nat
  | 0, i, _ => i
  | f + 1, i, j => if i < j then (if p ((i + j) / 2) then bis p f i ((i + j) / 2) else bis p f ((i + j) / 2 + 1) j) else i
/-- A sequence: runs; pieces, each with its first unit's spot and its length; how they stand; how they are by ids. -/
structure SS where
  runs : List Rn
  pcs : List Sp
  ord : List Nat
  idx : List Nat
  len : Nat → Int
def SS.new : SS := ⟨[.zero], [.zero], [], [], fun _ => 0⟩
def SS.unit (S : SS) (x : Sp) : Un := unitR S.runs x
def SS.pc (S : SS) (i : Nat) : Sp := (S.pcs[i]?).getD .zero
theorem SS.pc_of {S : SS} {i : Nat} (h : i < S.pcs.length) : S.pc i = S.pcs[i] := by unfold SS.pc; rw [List.getElem?_eq_getElem h]; rfl
def SS.first (S : SS) (i : Nat) : Un := S.unit (S.pc i)
def SS.total (S : SS) : Int := sumF S.len S.ord
def SS.holds (S : SS) (c k : Int) (i : Nat) : Bool := !lessI c k (S.first i).c (S.first i).k
def SS.piece (S : SS) (c k : Int) : Nat := lastF (S.holds c k) S.idx
def SS.find (S : SS) (c k : Int) : Int :=
  if (S.first (S.piece c k)).c ≠ c ∨ S.len (S.piece c k) ≤ k - (S.first (S.piece c k)).k then -1 else aheadF S.len S.ord (S.piece c k) + (k - (S.first (S.piece c k)).k)
def SS.hasAny (S : SS) (c k n : Int) : Bool := decide ((S.first (S.piece c (k + (n - 1)))).c = c ∧ k < (S.first (S.piece c (k + (n - 1)))).k + S.len (S.piece c (k + (n - 1))))
def SS.spotOf (S : SS) (c k : Int) : Sp := ⟨(S.pc (S.piece c k)).run, (S.pc (S.piece c k)).pos + (k - (S.first (S.piece c k)).k)⟩
def SS.spotAt (S : SS) (p : Int) : Sp := ⟨(S.pc (atF S.len S.ord p).1).run, (S.pc (atF S.len S.ord p).1).pos + (atF S.len S.ord p).2⟩
def SS.endOf (S : SS) (i : Nat) : Sp := ⟨(S.pc i).run, (S.pc i).pos + S.len i⟩
def SS.rightOf (S : SS) (u : Un) : Int := if u.rc = 0 ∧ u.rk = 0 then S.total else S.find u.rc u.rk
def SS.between (S : SS) (u : Un) : Int × Int × Bool :=
  if (S.find u.lc u.lk + 1 = 0 ∧ ¬ (u.lc = 0 ∧ u.lk = 0)) ∨ S.rightOf u < S.find u.lc u.lk + 1 then (0, 0, false) else (S.find u.lc u.lk + 1, S.rightOf u, true)
def SS.parentOf (S : SS) (u : Un) : Sp × Bool :=
  if u.rc = 0 ∧ u.rk = 0 then (S.spotOf u.lc u.lk, false) else if (childR S.runs (S.spotOf u.lc u.lk) (S.spotOf u.rc u.rk)).2 then (S.spotOf u.rc u.rk, true) else (S.spotOf u.lc u.lk, false)
def SS.isAhead (S : SS) (u o : Un) : Bool := if u.rc = o.rc ∧ u.rk = o.rk then lessI u.c u.k o.c o.k else decide (S.rightOf o < S.rightOf u)
def SS.placeP (S : SS) (u : Un) (parent : Sp) (left : Bool) (x : Int) : Bool :=
  if (childR S.runs parent (S.spotAt x)).2 then S.isAhead u (S.unit (childR S.runs parent (S.spotAt x)).1) else !left
def SS.placeOf (S : SS) (u : Un) (parent : Sp) (left : Bool) (lo hi : Int) : Int := lo + (bis (fun i => S.placeP u parent left (lo + (i : Int))) (hi - lo).toNat 0 (hi - lo).toNat : Nat)
def SS.addPiece (S : SS) (st by' : Nat) (first : Sp) (n : Int) : SS := { S with pcs := S.pcs ++ [first], ord := insB st S.pcs.length S.ord, idx := insB by' S.pcs.length S.idx, len := fun x => S.len x + (if x = S.pcs.length then n else 0) }
def SS.grow (S : SS) (i : Nat) (n : Int) : SS := { S with len := fun x => S.len x + (if x = i then n else 0) }
def SS.cutAt (S : SS) (place : Int) : Nat := (atF S.len S.ord (place - 1)).1
def SS.restAt (S : SS) (place : Int) : Int := S.len (S.cutAt place) - (atF S.len S.ord (place - 1)).2 - 1
def SS.cut (S : SS) (place : Int) : SS :=
  if 0 < S.restAt place then (S.grow (S.cutAt place) (-S.restAt place)).addPiece (S.cutAt place) (S.cutAt place) ((S.grow (S.cutAt place) (-S.restAt place)).endOf (S.cutAt place)) (S.restAt place) else S
def farOf (R : List Rn) (parent : Sp) : Sp :=
  if (rn R parent.run).depth - (rn R (rn R parent.run).far.run).depth = (rn R (rn R parent.run).far.run).depth - (rn R (rn R (rn R parent.run).far.run).far.run).depth then (rn R (rn R parent.run).far.run).far else parent
def SS.addRun (S : SS) (u : Un) (parent : Sp) : SS := { S with runs := S.runs ++ [⟨u, parent, farOf S.runs parent, (rn S.runs parent.run).depth + 1⟩] }
def SS.lay (S : SS) (place : Int) (u : Un) (parent : Sp) (n : Int) : SS :=
  if (S.cut place).unit ((S.cut place).endOf (S.cutAt place)) = u then (S.cut place).grow (S.cutAt place) n else ((S.cut place).addRun u parent).addPiece (S.cutAt place) ((S.cut place).piece u.c u.k) ⟨S.runs.length, 0⟩ n
/-- May it be laid? -/
def SS.may (S : SS) (u : Un) (n : Int) : Bool := numOk u.c && numOk u.k && decide (1 ≤ n) && decide (n - 1 ≤ 9007199254740991 - u.k) && !S.hasAny u.c u.k n && (S.between u).2.2
def SS.laid (S : SS) (u : Un) (n : Int) : SS := S.lay (S.placeOf u (S.parentOf u).1 (S.parentOf u).2 (S.between u).1 (S.between u).2.1) u (S.parentOf u).1 n
def SS.run (S : SS) (u : Un) (n : Int) : SS := if S.may u n then S.laid u n else S
def SS.at_ (S : SS) (i : Int) : Un × Bool := if i < 0 ∨ S.total ≤ i then (.zero, false) else (S.unit (S.spotAt i), true)
end Go.Proofs.Ytnbphdmpbjahhab
