/- Package seq: sequences side by side, with units beside them. -/
import Derived.Test.YtcolbgbmnmkogaaSeqW6
import Derived.Test.YtcolbgbmnmkogaaPart20
import Derived.Test.YtcolbgbmnmkogaaRowV
import Derived.Test.YtcolbgbmnmkogaaPart21
import Derived.Test.YtcolbgbmnmkogaaPart13
import Derived.Test.YtcolbgbmnmkogaaPart10
namespace Go.Proofs.Ytcolbgbmnmkogaa
open Go.RowKit
set_option linter.unusedVariables false
set_option linter.unusedSimpArgs false

/-- A sequence at p, made since w0, in the blocks B. -/
structure Sq1 (w0 w : World) (p : Nat) (B : Bk) (S : SS) : Prop where
  mem : SeqM w B S
  at_ : B.b = p
  new : ∀ k, B.has k → w0.heap.size ≤ k
  inv : Inv S
def ApartB (B C : Bk) : Prop := ∀ k, B.has k → ¬ C.has k
theorem ApartB.symm {B C : Bk} (h : ApartB B C) : ApartB C B := fun k hk hb => h k hb hk
theorem Sq1.touch {w0 w w' : World} {p : Nat} {B : Bk} {S : SS} (h : Sq1 w0 w p B S) (t : Touch (fun _ => False) w w') : Sq1 w0 w' p B S := ⟨h.mem.keep0 t, h.at_, h.new, h.inv⟩
/-- Another one's blocks are touched alone. -/
theorem Sq1.other {w0 w w' : World} {p : Nat} {B C : Bk} {S : SS} (h : Sq1 w0 w p B S) (t : Touch C.has w w') (ha : ApartB B C) : Sq1 w0 w' p B S := ⟨h.mem.keep t ha, h.at_, h.new, h.inv⟩
/-- A block of a sequence has a type of its own. -/
theorem SeqM.typ {w : World} {B : Bk} {S : SS} (h : SeqM w B S) {k : Nat} (hk : B.has k) : ∃ c t fr, w.heap[k]? = some (.cells c t fr) ∧ t ≠ 35 := by
  rcases hk with rfl | rfl | rfl | rfl | rfl
  · obtain ⟨c, hc⟩ := h.blk
    exact ⟨c, _, _, hc, by decide⟩
  · obtain ⟨c, hc, _⟩ := h.runs.row
    exact ⟨c, _, _, hc, by decide⟩
  · obtain ⟨c, hc, _⟩ := h.pcs.row
    exact ⟨c, _, _, hc, by decide⟩
  · obtain ⟨L, tr, h1, _⟩ := h.ord
    obtain ⟨c, hc, _⟩ := h1.row
    exact ⟨c, _, _, hc, by decide⟩
  · obtain ⟨L, tr, h1, _⟩ := h.idx
    obtain ⟨c, hc, _⟩ := h1.row
    exact ⟨c, _, _, hc, by decide⟩
theorem SeqM.noBox {w : World} {B : Bk} {S : SS} (h : SeqM w B S) {m : Nat} {u : Un} (hm : w.heap[m]? = some (unO u)) : ¬ B.has m := fun hk => by
  obtain ⟨c, t, fr, e, ht⟩ := h.typ hk
  rw [hm] at e
  simp at e
  exact ht e.2.1.symm
theorem SeqM.noOwn {w0 w : World} {B : Bk} {S : SS} {v : Value} {n : Nat} {xs : List Value} (h : SeqM w B S) (hv : OwnV w0 w v n xs) : ∀ k, v.ownBlock = some k → ¬ B.has k := fun k e hk => by
  obtain ⟨c, t, fr, e2, ht⟩ := h.typ hk
  rcases hv.owns.2 with ⟨e', _⟩ | ⟨g, cap, cur, e', q, hg, _⟩
  · rw [e'] at e; simp [Value.ownBlock] at e
  · rw [e'] at e
    have hgk : g = k := by simpa [Value.ownBlock] using e
    rw [hgk, e2] at hg
    simp at hg
    exact ht hg.2.1
theorem Sq1.ins {w0 w : World} {p : Nat} {B : Bk} {S : SS} (h : Sq1 w0 w p B S) (u : Un) (hu : u.ok) {n : Nat} (hz : Size S n) (hn : n ≤ 1000000) :
    Calls Try.prog 14 #[.pointer (some ⟨p, 0, none⟩), .agg #[.int .u64 u.c, .int .u64 u.k, .int .u64 u.lc, .int .u64 u.lk, .int .u64 u.rc, .int .u64 u.rk]] w fun e w' => e = .returned (.bool (S.may u 1)) ∧ ∃ B', Sq1 w0 w' p B' (S.run u 1) ∧ (∀ x, B'.has x → B.has x ∨ w.heap.size ≤ x) ∧ Touch B.has w w' := by
  have hp := h.at_
  subst hp
  refine (insert_any h.mem h.inv u hu (hz.room hn 1 (by omega))).mono ?_
  rintro e w' ⟨rfl, B', a, b, c, d⟩
  refine ⟨rfl, B', ⟨a, b, fun k hk => ?_, (h.inv.run1 hu hz hn).1⟩, c, d⟩
  rcases c k hk with e | e
  · exact h.new k e
  · obtain ⟨c', hc⟩ := h.mem.blk
    have h1 := lt_of_heap hc
    have h2 := h.new B.b (.inl rfl)
    omega
theorem Sq1.len {w0 w : World} {p : Nat} {B : Bk} {S : SS} (h : Sq1 w0 w p B S) :
    Calls Try.prog 20 #[.pointer (some ⟨p, 0, none⟩)] w fun e w' => e = .returned (.int .i64 (S.units.length : Int)) ∧ Touch (fun _ => False) w w' := by
  have hp := h.at_
  subst hp
  have := len_any h.mem
  rw [← h.inv.units_len] at this
  exact this
theorem Sq1.at' {w0 w : World} {p : Nat} {B : Bk} {S : SS} (h : Sq1 w0 w p B S) (i : Int) (hi : -4611686018427387904 ≤ i ∧ i ≤ 4611686018427387904) :
    Calls Try.prog 21 #[.pointer (some ⟨p, 0, none⟩), .int .i64 i] w fun e w' => e = .returned (.tuple #[.agg #[.int .u64 ((S.at_ i).1).c, .int .u64 ((S.at_ i).1).k, .int .u64 ((S.at_ i).1).lc, .int .u64 ((S.at_ i).1).lk, .int .u64 ((S.at_ i).1).rc, .int .u64 ((S.at_ i).1).rk], .bool (S.at_ i).2]) ∧ Touch (fun _ => False) w w' := by
  have hp := h.at_
  subst hp
  exact at_any2 h.mem h.inv i hi
theorem Sq1.find {w0 w : World} {p : Nat} {B : Bk} {S : SS} (h : Sq1 w0 w p B S) (c k : Int) (hc : 0 ≤ c) (hk : 0 ≤ k) (hk2 : k < 18446744073709551616) :
    Calls Try.prog 19 #[.pointer (some ⟨p, 0, none⟩), .agg #[.int .u64 c, .int .u64 k]] w fun e w' => e = .returned (.int .i64 (S.find c k)) ∧ Touch (fun _ => False) w w' := by
  have hp := h.at_
  subst hp
  exact find_any h.mem h.inv c k hc hk hk2
theorem Sq1.fresh (w0 w : World) (t : Touch (fun _ => False) w0 w) :
    Calls Try.prog 10 #[] w fun e w' => ∃ p B, e = .returned (.pointer (some ⟨p, 0, none⟩)) ∧ Sq1 w0 w' p B .new ∧ (∀ k, B.has k → w.heap.size ≤ k) ∧ Touch (fun _ => False) w w' := by
  refine (new_any w).mono ?_
  rintro e w' ⟨B, rfl, a, b, c⟩
  exact ⟨B.b, B, rfl, ⟨a, rfl, fun k hk => Nat.le_trans t.size (b k hk), Inv.new⟩, b, c⟩
theorem Sq1.copy {w0 w : World} {p : Nat} {B : Bk} {S : SS} (h : Sq1 w0 w p B S) {n : Nat} (hz : Size S n) (hn : n ≤ 1000000) (t : Touch (fun _ => False) w0 w) :
    Calls Try.prog 13 #[.pointer (some ⟨p, 0, none⟩)] w fun e w' => ∃ q C, e = .returned (.pointer (some ⟨q, 0, none⟩)) ∧ Sq1 w0 w' q C S ∧ (∀ k, C.has k → w.heap.size ≤ k) ∧ Touch (fun _ => False) w w' := by
  have hp := h.at_
  subst hp
  have h1 := hz.pcs
  have h2 := hz.runs
  refine (copy_any h.mem (by omega) (by omega)).mono ?_
  rintro e w' ⟨C, rfl, a, b, c⟩
  exact ⟨C.b, C, rfl, ⟨a, rfl, fun k hk => Nat.le_trans t.size (b k hk), h.inv⟩, b, c⟩
/-- Blocks that are new are none of another's. -/
theorem Sq1.apart {w0 w : World} {p : Nat} {B C C' : Bk} {S : SS} (h : Sq1 w0 w p B S) (ha : ApartB B C) (hc : ∀ x, C'.has x → C.has x ∨ w.heap.size ≤ x) : ApartB B C' := fun k hk hk' => by
  rcases hc k hk' with e | e
  · exact ha k hk e
  · have := h.mem.lt hk
    omega
theorem Sq1.touch0 {w0 w w' : World} {p : Nat} {B : Bk} {S : SS} (h : Sq1 w0 w p B S) (t0 : Touch (fun _ => False) w0 w) (t : Touch B.has w w') : Touch (fun _ => False) w0 w' := t0.then t fun k hk e => by
  have := h.new k e
  omega
theorem OwnV.onB {w0 w w' : World} {p : Nat} {B : Bk} {S : SS} {v : Value} {n : Nat} {xs : List Value} (hv : OwnV w0 w v n xs) (h : Sq1 w0 w p B S) (t : Touch B.has w w') : OwnV w0 w' v n xs :=
  ⟨ownV_touch hv.owns t (h.mem.noOwn hv), h.touch0 hv.touch t, hv.fresh⟩
end Go.Proofs.Ytcolbgbmnmkogaa

/- Package seq: a sequence and the units that it is filled with; quirehelp.Place. -/
namespace Go.Proofs.Ytcolbgbmnmkogaa
open Go.RowKit
set_option linter.unusedVariables false
set_option linter.unusedSimpArgs false
set_option maxRecDepth 100000

/-- A sequence at p, and units. -/
def OneS (w W : World) (p : Nat) (S : SS) (v : Value) (us : List Un) : Prop := ∃ A, Sq1 w W p A S ∧ NewV w W v us
theorem OneS.touch {w W W' : World} {p : Nat} {S : SS} {v : Value} {us : List Un} (h : OneS w W p S v us) (t : Touch (fun _ => False) W W') : OneS w W' p S v us := by
  obtain ⟨A, a, d⟩ := h
  exact ⟨A, a.touch t, d.on t⟩
theorem OneS.touch0 {w W : World} {p : Nat} {S : SS} {v : Value} {us : List Un} (h : OneS w W p S v us) : Touch (fun _ => False) w W := by
  obtain ⟨A, a, d⟩ := h
  exact d.touch
theorem OneS.ins {w W : World} {p : Nat} {S : SS} {v : Value} {us : List Un} (h : OneS w W p S v us) (u : Un) (hu : u.ok) {n : Nat} (hz : Size S n) (hn : n ≤ 1000000) :
    Calls Try.prog 14 #[.pointer (some ⟨p, 0, none⟩), .agg #[.int .u64 u.c, .int .u64 u.k, .int .u64 u.lc, .int .u64 u.lk, .int .u64 u.rc, .int .u64 u.rk]] W fun e w' => e = .returned (.bool (S.may u 1)) ∧ OneS w w' p (S.run u 1) v us := by
  obtain ⟨A, a, d⟩ := h
  refine (a.ins u hu hz hn).mono ?_
  rintro e w' ⟨rfl, A', h1, h2, t⟩
  exact ⟨rfl, A', h1, d.onB a t⟩
theorem OneS.cells {w W : World} {p : Nat} {S : SS} {g vcap : Nat} {us : List Un} (h : OneS w W p S (.slice (some ⟨g, 0, none⟩) us.length vcap) us) (j : Nat) (hlt : j < us.length) : W.cell? ⟨g, j * 6, none⟩ = some (.int .u64 us[j].c) ∧ W.cell? ⟨g, j * 6 + 1, none⟩ = some (.int .u64 us[j].k) ∧ W.cell? ⟨g, j * 6 + 2, none⟩ = some (.int .u64 us[j].lc) ∧ W.cell? ⟨g, j * 6 + 3, none⟩ = some (.int .u64 us[j].lk) ∧ W.cell? ⟨g, j * 6 + 4, none⟩ = some (.int .u64 us[j].rc) ∧ W.cell? ⟨g, j * 6 + 5, none⟩ = some (.int .u64 us[j].rk) := by
  obtain ⟨_, _, hn⟩ := h
  obtain ⟨b, o, cap, e, _, _, _, hx⟩ := hn.sl.row (fun e => by rw [e] at hlt; exact absurd hlt (Nat.not_lt_zero _))
  simp only [Value.slice.injEq, Option.some.injEq, Addr.mk.injEq] at e
  obtain ⟨⟨rfl, rfl, -⟩, -, -⟩ := e
  have := hx j hlt
  simp only [Nat.zero_add] at this
  exact this
set_option maxHeartbeats 800000 in
theorem placeG_any (k : Int) (m : Nat) (hm : 1 ≤ m ∧ m ≤ 1000000) (w : World) (h0 : -9223372036854775808 ≤ k) (h1 : k ≤ 9223372036854775807) : Calls Try.prog 22 #[.int .i64 k, .int .i64 (m : Int)] w fun e w' => ∃ p : Nat, e = .returned (.int .i64 (p : Int)) ∧ p < m ∧ w' = w := by
  have ha := Int.tmod_lt_of_pos k (b := (m : Int)) (by omega)
  have hb : -(m : Int) < k.tmod (m : Int) := by
    have := Int.lt_tmod_of_pos k (b := (m : Int)) (by omega)
    omega
  generalize ht : k.tmod (m : Int) = t at *
  have e0 : ((m : Int) == 0) = false := by simp; omega
  have e1 : ¬ ((m : Int) = 0) := by omega
  have e2 : ¬ ((m : Int) = -1) := by omega
  by_cases hn : t < 0
  · obtain ⟨p, hp⟩ : ∃ p : Nat, (p : Int) = t + (m : Int) := ⟨(t + (m : Int)).toNat, by omega⟩
    have HP : Hid ((p : Int) = t + (m : Int)) := hp
    have ew : IntKind.i64.wrap (t + (m : Int)) = t + (m : Int) := by rw [IntKind.wrap_i64]; omega
    clear hp
    go_enter Try.func22, Try.ntmps22
    go_wp2_with fail
    go_ret
    exact ⟨p, by rw [HP.out]; rfl, by have := HP.out; omega, rfl⟩
  · obtain ⟨p, hp⟩ : ∃ p : Nat, (p : Int) = t := ⟨t.toNat, by omega⟩
    have HP : Hid ((p : Int) = t) := hp
    clear hp
    go_enter Try.func22, Try.ntmps22
    go_wp2_with fail
    go_ret
    exact ⟨p, by rw [HP.out]; rfl, by have := HP.out; omega, rfl⟩
end Go.Proofs.Ytcolbgbmnmkogaa

/- The document's tree of units (quireref9) as a function (no Go in it): what each call answers, and leaves. -/
namespace Go.Proofs.Ytcolbgbmnmkogaa
set_option linter.unusedVariables false
set_option linter.unusedSimpArgs false

/-- A node: its unit, its parent (-1: the root), which child it is, its children. -/
structure Nd where
  u : Un
  par : Int
  left : Bool
  lefts : List Nat
  more : List Nat
  deriving DecidableEq
/-- The nodes as they came, the root's right children, the order. -/
structure RS where
  l : List Nd
  more : List Nat
  order : List Nat
  deriving DecidableEq
abbrev Nd.zero : Nd := ⟨.zero, 0, false, [], []⟩
def RS.nd (r : RS) (i : Nat) : Nd := (r.l[i]?).getD .zero
theorem RS.nd_of {r : RS} {i : Nat} (h : i < r.l.length) : r.nd i = r.l[i] := by unfold RS.nd; rw [List.getElem?_eq_getElem h]; rfl
/-- A place, or -1. -/
def idxI : Option Nat → Int
  | some i => (i : Int)
  | none => -1
def isId (c k : Int) (n : Nd) : Bool := n.u.c == c && n.u.k == k
def RS.find (r : RS) (c k : Int) : Int := idxI (r.l.findIdx? (isId c k))
def RS.place (r : RS) (n : Int) : Int := idxI (r.order.findIdx? fun x : Nat => (Int.ofNat x == n))
def RS.findP (r : RS) (c k : Int) : Int := if r.find c k < 0 then -1 else r.place (r.find c k)
/-- How far behind a node's right origin stands. -/
def RS.far (r : RS) (rc rk : Int) : Int := if rc = 0 ∧ rk = 0 then (r.order.length : Int) + 1 else r.findP rc rk
def RS.farther (r : RS) (a b : Nat) : Bool :=
  if r.far (r.nd a).u.rc (r.nd a).u.rk ≠ r.far (r.nd b).u.rc (r.nd b).u.rk then decide (r.far (r.nd b).u.rc (r.nd b).u.rk < r.far (r.nd a).u.rc (r.nd a).u.rk)
  else lessI (r.nd a).u.c (r.nd a).u.k (r.nd b).u.c (r.nd b).u.k
def withinL (l : List Nat) (i n : Nat) : List Nat := l.take i ++ n :: l.drop i
def RS.amongL (r : RS) (l : List Nat) (me : Nat) : List Nat := withinL l (l.takeWhile fun x => r.farther x me).length me
def RS.leftsL (r : RS) (l : List Nat) (c k : Int) : Nat := (l.takeWhile fun x => lessI (r.nd x).u.c (r.nd x).u.k c k).length
/-- Children, each with what is below it. -/
def RS.walk (r : RS) : Nat → List Nat → List Nat
  | 0, _ => []
  | f + 1, l => l.flatMap fun x => r.walk f (r.nd x).lefts ++ x :: r.walk f (r.nd x).more
/-- Does the way up meet left? -/
def RS.ups (r : RS) (left : Int) : Nat → Int → Bool
  | 0, _ => false
  | f + 1, up => if up < 0 then false else (up == left) || r.ups left f (r.nd up.toNat).par
def RS.may (r : RS) (u : Un) : Bool :=
  numOk u.c && numOk u.k && decide (r.find u.c u.k < 0) && decide ((u.lc = 0 ∧ u.lk = 0) ∨ 0 ≤ r.find u.lc u.lk) && decide ((u.rc = 0 ∧ u.rk = 0) ∨ 0 ≤ r.find u.rc u.rk) &&
    !(decide (0 ≤ r.find u.lc u.lk) && decide (0 ≤ r.find u.rc u.rk) && decide (r.place (r.find u.rc u.rk) ≤ r.place (r.find u.lc u.lk)))
def RS.isL (r : RS) (u : Un) : Bool := decide (0 ≤ r.find u.rc u.rk) && (decide (u.lc = 0 ∧ u.lk = 0) || r.ups (r.find u.lc u.lk) r.l.length (r.nd (r.find u.rc u.rk).toNat).par)
def RS.node (r : RS) (u : Un) : Nd := ⟨u, if r.isL u then r.find u.rc u.rk else r.find u.lc u.lk, r.isL u, [], []⟩
/-- With the node, at no place yet. -/
def RS.with1 (r : RS) (u : Un) : RS := ⟨r.l ++ [r.node u], r.more, r.order⟩
def RS.with2 (r : RS) (u : Un) : RS :=
  let s := r.with1 u
  let me := r.l.length
  if r.isL u then
    let i := (r.find u.rc u.rk).toNat
    ⟨s.l.modify i fun n => ⟨n.u, n.par, n.left, withinL n.lefts (s.leftsL n.lefts u.c u.k) me, n.more⟩, s.more, s.order⟩
  else if 0 ≤ r.find u.lc u.lk then
    let i := (r.find u.lc u.lk).toNat
    ⟨s.l.modify i fun n => ⟨n.u, n.par, n.left, n.lefts, s.amongL n.more me⟩, s.more, s.order⟩
  else ⟨s.l, s.amongL s.more me, s.order⟩
def RS.laid (r : RS) (u : Un) : RS := ⟨(r.with2 u).l, (r.with2 u).more, (r.with2 u).walk (r.with2 u).l.length (r.with2 u).more⟩
def RS.insert (r : RS) (u : Un) : RS := if r.may u then r.laid u else r
abbrev RS.zero : RS := ⟨[], [], []⟩
/-- The chapter's example. -/
def exampleR : RS := (((RS.zero.insert ⟨1, 1, 0, 0, 0, 0⟩).insert ⟨1, 2, 1, 1, 0, 0⟩).insert ⟨2, 1, 1, 1, 1, 2⟩).insert ⟨1, 3, 1, 1, 2, 1⟩
theorem example_order : exampleR.order = [0, 3, 2, 1] := by decide
theorem example_refuses : exampleR.may ⟨1, 1, 0, 0, 0, 0⟩ = false ∧ exampleR.may ⟨9, 1, 1, 2, 1, 1⟩ = false ∧ exampleR.may ⟨9, 1, 8, 8, 0, 0⟩ = false := by decide
end Go.Proofs.Ytcolbgbmnmkogaa
