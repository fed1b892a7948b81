/- The document's tree of units (quireref9) as a function (no Go in it): what each call answers, and leaves. -/
import Derived.Test.YtcolbgbmnmkogabSqM
namespace Go.Proofs.Ytcolbgbmnmkogab
set_option linter.unusedVariables false
set_option linter.unusedSimpArgs false

/-- A node: its unit, its parent (-1: the root), which child it is, its children. -/
structure Nd where
  u : Un
  par : Int
  left : Bool
  lefts : List Nat
  more : List Nat
  deriving DecidableEq
/-- The nodes as they came, the root's right children, the order. -/
structure RS where
  l : List Nd
  more : List Nat
  order : List Nat
  deriving DecidableEq
abbrev Nd.zero : Nd := ⟨.zero, 0, false, [], []⟩
def RS.nd (r : RS) (i : Nat) : Nd := (r.l[i]?).getD .zero
theorem RS.nd_of {r : RS} {i : Nat} (h : i < r.l.length) : r.nd i = r.l[i] := by unfold RS.nd; rw [List.getElem?_eq_getElem h]; rfl
/-- A place, or -1. -/
def idxI : Option Nat → Int
  | some i => (i : Int)
  | none => -1
def isId (c k : Int) (n : Nd) : Bool := n.u.c == c && n.u.k == k
def RS.find (r : RS) (c k : Int) : Int := idxI (r.l.findIdx? (isId c k))
def RS.place (r : RS) (n : Int) : Int := idxI (r.order.findIdx? fun x : Nat => (Int.ofNat x == n))
def RS.findP (r : RS) (c k : Int) : Int := if r.find c k < 0 then -1 else r.place (r.find c k)
/-- How far behind a node's right origin stands. -/
def RS.far (r : RS) (rc rk : Int) : Int := if rc = 0 ∧ rk = 0 then (r.order.length : Int) + 1 else r.findP rc rk
def RS.farther (r : RS) (a b : Nat) : Bool :=
  if r.far (r.nd a).u.rc (r.nd a).u.rk ≠ r.far (r.nd b).u.rc (r.nd b).u.rk then decide (r.far (r.nd b).u.rc (r.nd b).u.rk < r.far (r.nd a).u.rc (r.nd a).u.rk)
  else lessI (r.nd a).u.c (r.nd a).u.k (r.nd b).u.c (r.nd b).u.k
def withinL (l : List Nat) (i n : Nat) : List Nat := l.take i ++ n :: l.drop i
def RS.amongL (r : RS) (l : List Nat) (me : Nat) : List Nat := withinL l (l.takeWhile fun x => r.farther x me).length me
def RS.leftsL (r : RS) (l : List Nat) (c k : Int) : Nat := (l.takeWhile fun x => lessI (r.nd x).u.c (r.nd x).u.k c k).length
/-- Children, each with what is below it. -/
def RS.walk (r : RS) : Nat → List Nat → List Nat
  | 0, _ => []
  | f + 1, l => l.flatMap fun x => r.walk f (r.nd x).lefts ++ x :: r.walk f (r.nd x).more
/-- Does the way up meet left? -/
def RS.ups (r : RS) (left : Int) : Nat → Int → Bool
  | 0, _ => false
  | f + 1, up => if up < 0 then false else (up == left) || r.ups left f (r.nd up.toNat).par
def RS.may (r : RS) (u : Un) : Bool :=
  numOk u.c && numOk u.k && decide (r.find u.c u.k < 0) && decide ((u.lc = 0 ∧ u.lk = 0) ∨ 0 ≤ r.find u.lc u.lk) && decide ((u.rc = 0 ∧ u.rk = 0) ∨ 0 ≤ r.find u.rc u.rk) &&
    !(decide (0 ≤ r.find u.lc u.lk) && decide (0 ≤ r.find u.rc u.rk) && decide (r.place (r.find u.rc u.rk) ≤ r.place (r.find u.lc u.lk)))
def RS.isL (r : RS) (u : Un) : Bool := decide (0 ≤ r.find u.rc u.rk) && (decide (u.lc = 0 ∧ u.lk = 0) || r.ups (r.find u.lc u.lk) r.l.length (r.nd (r.find u.rc u.rk).toNat).par)
def RS.node (r : RS) (u : Un) : Nd := ⟨u, if r.isL u then r.find u.rc u.rk else r.find u.lc u.lk, r.isL u, [], []⟩
/-- With the node, at no place yet. -/
def RS.with1 (r : RS) (u : Un) : RS := ⟨r.l ++ [r.node u], r.more, r.order⟩
def RS.with2 (r : RS) (u : Un) : RS :=
  let s := r.with1 u
  let me := r.l.length
  if r.isL u then
    let i := (r.find u.rc u.rk).toNat
    ⟨s.l.modify i fun n => ⟨n.u, n.par, n.left, withinL n.lefts (s.leftsL n.lefts u.c u.k) me, n.more⟩, s.more, s.order⟩
  else if 0 ≤ r.find u.lc u.lk then
    let i := (r.find u.lc u.lk).toNat
    ⟨s.l.modify i fun n => ⟨n.u, n.par, n.left, n.lefts, s.amongL n.more me⟩, s.more, s.order⟩
  else ⟨s.l, s.amongL s.more me, s.order⟩
def RS.laid (r : RS) (u : Un) : RS := ⟨(r.with2 u).l, (r.with2 u).more, (r.with2 u).walk (r.with2 u).l.length (r.with2 u).more⟩
def RS.insert (r : RS) (u : Un) : RS := if r.may u then r.laid u else r
abbrev RS.zero : RS := ⟨[], [], []⟩
/-- The chapter's example. -/
def exampleR : RS := (((RS.zero.insert ⟨1, 1, 0, 0, 0, 0⟩).insert ⟨1, 2, 1, 1, 0, 0⟩).insert ⟨2, 1, 1, 1, 1, 2⟩).insert ⟨1, 3, 1, 1, 2, 1⟩
theorem example_order : exampleR.order = [0, 3, 2, 1] := by decide
theorem example_refuses : exampleR.may ⟨1, 1, 0, 0, 0, 0⟩ = false ∧ exampleR.may ⟨9, 1, 1, 2, 1, 1⟩ = false ∧ exampleR.may ⟨9, 1, 8, 8, 0, 0⟩ = false := by decide
end Go.Proofs.Ytcolbgbmnmkogab
