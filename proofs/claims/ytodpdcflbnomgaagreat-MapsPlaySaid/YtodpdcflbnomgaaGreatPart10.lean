/- Package maps: how a Maps lies in memory; what it is as a function's argument. -/
import Derived.Test.YtodpdcflbnomgaaGreatMpK
import Derived.Test.YtodpdcflbnomgaaGreatPart9
import Derived.Test.YtodpdcflbnomgaaGreatPart2
import Derived.Deep.MidRow
import Derived.Test.YtodpdcflbnomgaaGreatPart1
import Derived.Deep.RegionHeld3
namespace Go.Proofs.YtodpdcflbnomgaaGreat
open Go.RowKit Go.Maps
set_option linter.unusedVariables false
set_option linter.unusedSimpArgs false
set_option maxRecDepth 100000

/-- A key's sets as they lie: the slice, its operations. -/
structure Rk where
  v : Value
  l : List O
/-- A map's keys as they lie: the block, the ranks by keys. -/
structure Inn where
  b : Nat
  es : List (Key × Rk)
abbrev rkV (r : Rk) : Value := r.v
abbrev innV (i : Inn) : Value := .map (some i.b)
abbrev innL (i : Inn) : List (Key × List O) := amap Rk.l i.es
/-- What a Maps is: the ids told, each map's keys with their sets (as the heap has them), the hidden ranges. -/
structure MS where
  told : List (Key × Unit)
  keys : List (Key × List (Key × List O))
  hid : List Rg

abbrev OpT : TypeId := 41
abbrev RgT : TypeId := 47
def rowAt (w : World) (r : Rk) : Prop := w.ownsRow 0 41 22 r.v r.l.length (cellsP r.l)
structure InnAt (w : World) (i : Inn) : Prop where
  owns : RanksAt w i.b i.es.length (amap Rk.v i.es)
  rising : Rising i.es
  rows : ∀ p ∈ i.es, rowAt w p.2
  lens : ∀ p ∈ i.es, p.2.l.length ≤ 1000000

/-- Block g is a Maps: blocks mt (told), mk (keys), hv the slice of hidden ranges; os its maps. -/
structure MapsC (w : World) (g mt mk : Nat) (hv : Value) (os : List (Key × Inn)) (S : MS) : Prop where
  cells : w.heap[g]? = some (.cells #[.map (some mt), .map (some mk), hv] 66 (0, 0))
  told : ToldAt w mt S.told.length (amap (fun _ => .agg #[]) S.told)
  keys : ToldAt w mk os.length (amap innV os)
  rtold : Rising S.told
  rkeys : Rising os
  hidR : w.ownsRow 0 47 3 hv S.hid.length (cellsR S.hid)
  hidF : Rise S.hid
  hidL : S.hid.length ≤ 1073741824
  inn : ∀ p ∈ os, InnAt w p.2
  eq : S.keys = amap innL os
  tk : mt ≠ mk
  own : ∃ ob : Nat → Option Key, ob mt = none ∧ ob mk = none ∧ ∀ p ∈ os, ob p.2.b = some p.1
  rown : ∃ rb : Nat → Option (Key × Key), ∀ p ∈ os, ∀ q ∈ p.2.es, ∀ k, q.2.v.ownBlock = some k → rb k = some (p.1, q.1)

/-- Its blocks. -/
def footM (g mt mk : Nat) (hv : Value) (os : List (Key × Inn)) (k : Nat) : Prop :=
  k = g ∨ k = mt ∨ k = mk ∨ hv.ownBlock = some k ∨ ∃ p ∈ os, k = p.2.b ∨ ∃ q ∈ p.2.es, q.2.v.ownBlock = some k
/-- A block of ranges: these are never written to. -/
def RgB (w : World) (k : Nat) : Prop := ∃ c, w.heap[k]? = some (.cells c 47 (0, 0))
def MapsAt (w : World) (g : Nat) (F : Nat → Prop) (S : MS) : Prop :=
  ∃ mt mk hv os, MapsC w g mt mk hv os S ∧ (∀ k, footM g mt mk hv os k → F k) ∧ ∀ k, F k → k < w.heap.size

theorem row_touchM {S : Nat → Prop} {w w' : World} {ty : TypeId} {n m : Nat} {v : Value} {xs : List Value} (h : w.ownsRow 0 ty n v m xs) (t : Touch S w w') (hs : ∀ k, v.ownBlock = some k → ¬ S k) : w'.ownsRow 0 ty n v m xs := by
  refine ⟨h.1, ?_⟩
  rcases h.2 with h | ⟨g, cap, cur, rfl, hb, hg, r⟩
  · exact .inl h
  · exact .inr ⟨g, cap, cur, rfl, hb, (t.block g (lt_of_heap hg) (hs g rfl)).trans hg, r⟩
theorem row_ltM {w : World} {ty : TypeId} {n m : Nat} {v : Value} {xs : List Value} (h : w.ownsRow 0 ty n v m xs) {k : Nat} (hk : v.ownBlock = some k) : ∃ c, w.heap[k]? = some (.cells c ty (0, 0)) := by
  rcases h.2 with ⟨rfl, _⟩ | ⟨g, cap, cur, rfl, hb, hg, r⟩
  · simp [Value.ownBlock] at hk
  · simp only [Value.ownBlock, Option.some.injEq] at hk; subst hk; exact ⟨_, hg⟩
theorem ownsM_tight {w : World} {ty : TypeId} {b n : Nat} {es : List (Key × Value)} (h : w.ownsMap Tryz.prog ty heldO b n (toV es)) : w.ownsMap Tryz.prog ty heldO b es.length (toV es) := by
  obtain ⟨xs, c, hb, hf, _, hD⟩ := h
  refine ⟨xs, c, hb, hf, ?_, hD⟩
  have := congrArg Maps.size hD
  rw [toV_size] at this
  rw [this]
  simp [Maps.size, length_sorted]
theorem length_amap {α β : Type} (f : α → β) (l : List (Key × α)) : (amap f l).length = l.length := by simp [amap]
theorem amap_amap {α β γ : Type} (f : α → β) (h : β → γ) (l : List (Key × α)) : amap h (amap f l) = amap (fun x => h (f x)) l := by simp [amap]
theorem InnAt.touch {S : Nat → Prop} {w w' : World} {i : Inn} (h : InnAt w i) (t : Touch S w w') (hb : ¬ S i.b) (hs : ∀ q ∈ i.es, ∀ k, q.2.v.ownBlock = some k → ¬ S k) : InnAt w' i :=
  ⟨owns_touchM h.owns t hb, h.rising, fun p hp => row_touchM (h.rows p hp) t (hs p hp), h.lens⟩
theorem MapsC.touch {S : Nat → Prop} {w w' : World} {g mt mk : Nat} {hv : Value} {os : List (Key × Inn)} {s : MS} (h : MapsC w g mt mk hv os s) (t : Touch S w w') (hs : ∀ k, footM g mt mk hv os k → ¬ S k) : MapsC w' g mt mk hv os s :=
  ⟨(t.block g (lt_of_heap h.cells) (hs g (.inl rfl))).trans h.cells, owns_touchM h.told t (hs mt (.inr (.inl rfl))), owns_touchM h.keys t (hs mk (.inr (.inr (.inl rfl)))), h.rtold, h.rkeys,
   row_touchM h.hidR t (fun k hk => hs k (.inr (.inr (.inr (.inl hk))))), h.hidF, h.hidL,
   fun p hp => (h.inn p hp).touch t (hs _ (.inr (.inr (.inr (.inr ⟨p, hp, .inl rfl⟩))))) (fun q hq k hk => hs k (.inr (.inr (.inr (.inr ⟨p, hp, .inr ⟨q, hq, hk⟩⟩))))), h.eq, h.tk, h.own, h.rown⟩
theorem MapsC.foot_lt {w : World} {g mt mk : Nat} {hv : Value} {os : List (Key × Inn)} {s : MS} (h : MapsC w g mt mk hv os s) {k : Nat} (hk : footM g mt mk hv os k) : k < w.heap.size := by
  rcases hk with rfl | rfl | rfl | hk | ⟨p, hp, rfl | ⟨q, hq, hk⟩⟩
  · exact lt_of_heap h.cells
  · exact h.told.lt
  · exact h.keys.lt
  · obtain ⟨c, hc⟩ := row_ltM h.hidR hk; exact lt_of_heap hc
  · exact (h.inn p hp).owns.lt
  · obtain ⟨c, hc⟩ := row_ltM ((h.inn p hp).rows q hq) hk; exact lt_of_heap hc
theorem MapsAt.touch {S F : Nat → Prop} {w w' : World} {g : Nat} {s : MS} (h : MapsAt w g F s) (t : Touch S w w') (hs : ∀ k, F k → ¬ S k) : MapsAt w' g F s := by
  obtain ⟨mt, mk, hv, os, hC, hF, hl⟩ := h
  exact ⟨mt, mk, hv, os, hC.touch t fun k hk => hs k (hF k hk), hF, fun k hk => Nat.lt_of_lt_of_le (hl k hk) t.size⟩
theorem MapsAt.lt {F : Nat → Prop} {w : World} {g : Nat} {s : MS} (h : MapsAt w g F s) {k : Nat} (hk : F k) : k < w.heap.size := by
  obtain ⟨mt, mk, hv, os, _, _, hF⟩ := h
  exact hF k hk
/-- Behind a call on the Maps at g, whose blocks were F. -/
def MPost (g : Nat) (F : Nat → Prop) (s : MS) (w w' : World) : Prop :=
  ∃ F', MapsAt w' g F' s ∧ Touch (fun k => F k ∧ ¬ RgB w k) w w' ∧ ∀ k, k < w.heap.size → F' k → F k
theorem mpost_of {g mt' mk' : Nat} {hv' : Value} {os' : List (Key × Inn)} {F S : Nat → Prop} {w w' : World} {s : MS} (hl : ∀ k, F k → k < w.heap.size) (hC : MapsC w' g mt' mk' hv' os' s)
    (t : Touch S w w') (hS : ∀ k, S k → F k ∧ ¬ RgB w k) (hf : ∀ k, k < w.heap.size → footM g mt' mk' hv' os' k → F k) : MPost g F s w w' := by
  refine ⟨fun k => k < w'.heap.size ∧ (k < w.heap.size → F k), ⟨mt', mk', hv', os', hC, fun k hk => ⟨hC.foot_lt hk, fun hlt => hf k hlt hk⟩, fun k hk => hk.1⟩, t.mono fun k _ h => hS k h, fun k hk h => h.2 hk⟩
end Go.Proofs.YtodpdcflbnomgaaGreat

/- A row of operations in a block that is laid anew, place by place. -/
namespace Go.Proofs.YtodpdcflbnomgaaGreat
open Go.RowKit Go.Maps
set_option linter.unusedVariables false
set_option linter.unusedSimpArgs false

/-- A row of operations in a block of its own. -/
abbrev OwnO (w : World) (v : Value) (n : Nat) (xs : List Value) : Prop := w.ownsRow 0 41 22 v n xs
theorem OwnO.set {w : World} {v : Value} {n : Nat} {xs : List Value} (h : OwnO w v n xs) {g cap : Nat} (e : v = .slice (some ⟨g, 0, none⟩) n cap) (i : Nat) (hi : i < n * 22) (y : Value) (hy : y.oneCell' = true) : OwnO (w.setCell ⟨g, i, none⟩ y) v n (xs.set i y) := by
  have h1 := h.1
  rcases h.2 with ⟨e', h0⟩ | ⟨g', cap', cur, e', hb, hg, q1, q2, q3, q4⟩
  · rw [h0] at hi; omega
  · rw [e] at e'
    simp only [Value.slice.injEq, Option.some.injEq, Addr.mk.injEq] at e'
    obtain ⟨⟨rfl, _, _⟩, _, rfl⟩ := e'
    refine ⟨?_, .inr ⟨g, cap, cur.setIfInBounds i y, e, hb, by rw [heap_setCell_same _ _ _ _ hg], q1, q2, ?_, ?_⟩⟩
    · rw [List.length_set]; exact h1
    · simpa using q3
    · rw [Array.toList_setIfInBounds, ← q4, List.take_set]
theorem OwnO.sets {v : Value} {n : Nat} {g cap : Nat} (e : v = .slice (some ⟨g, 0, none⟩) n cap) : ∀ (vs : List Value) (i : Nat) {w : World} {xs : List Value}, OwnO w v n xs → i + vs.length ≤ n * 22 → (∀ y ∈ vs, y.oneCell' = true) → OwnO (w.setCells g i vs) v n ((vs.zipIdx i).foldl (fun c x => c.set x.2 x.1) xs)
  | [], _, _, _, h, _, _ => h
  | y :: vs, i, w, xs, h, hi, hy => by
    rw [List.length_cons] at hi
    exact OwnO.sets e vs (i + 1) (OwnO.set h e i (by omega) y (hy y (List.mem_cons_self ..))) (by omega) (fun z hz => hy z (List.mem_cons_of_mem _ hz))
theorem sets_append (a b : List Value) : ∀ (vs cs : List Value) (i : Nat), i = a.length → cs.length = vs.length → (vs.zipIdx i).foldl (fun c x => c.set x.2 x.1) (a ++ cs ++ b) = a ++ vs ++ b := by
  intro vs
  induction vs generalizing a with
  | nil =>
    intro cs i _ hc
    have : cs = [] := List.length_eq_zero_iff.1 hc
    subst this
    rfl
  | cons y vs ih =>
    intro cs i hi hc
    cases cs with
    | nil => cases hc
    | cons z cs =>
      have e : (a ++ z :: cs ++ b).set i y = (a ++ [y]) ++ cs ++ b := by
        subst hi
        simp
      have := ih (a ++ [y]) cs (i + 1) (by simp [hi]) (by simpa using hc)
      show (vs.zipIdx (i + 1)).foldl _ ((a ++ z :: cs ++ b).set i y) = _
      rw [e, this]
      simp
theorem cellsP_split (l : List O) (j : Nat) (hj : j < l.length) (x : O) : cellsP l = cellsP (l.take j) ++ cellP l[j] ++ cellsP (l.drop (j + 1)) ∧ cellsP (l.set j x) = cellsP (l.take j) ++ cellP x ++ cellsP (l.drop (j + 1)) := by
  constructor
  · have e : l = l.take j ++ l[j] :: l.drop (j + 1) := by rw [List.getElem_cons_drop, List.take_append_drop]
    have := congrArg cellsP e
    rw [cellsP_append, cellsP_cons, ← List.append_assoc] at this
    exact this
  · rw [List.set_eq_take_append_cons_drop, if_pos hj, cellsP_append, cellsP_cons, ← List.append_assoc]
abbrev RowOn (w : World) (v : Value) (l : List O) : Prop := OwnO w v l.length (cellsP l)
theorem RowOn.setRow {w : World} {v : Value} {l : List O} (h : RowOn w v l) {g cap : Nat} (e : v = .slice (some ⟨g, 0, none⟩) l.length cap) (j : Nat) (hj : j < l.length) (x : O) : RowOn (w.setCells g (j * 22) x.vals.toList) v (l.set j x) := by
  have h2 : OwnO (w.setCells g (j * 22) x.vals.toList) v l.length (((cellP x).zipIdx (j * 22)).foldl (fun c x => c.set x.2 x.1) (cellsP l)) := OwnO.sets e (cellP x) (j * 22) h (by rw [cellP_len]; omega) (fun y hy => cellsP_one [x] y (by simpa [cellsP] using hy))
  have hs := cellsP_split l j hj x
  rw [hs.1, sets_append _ _ _ _ _ (by rw [cellsP_len, List.length_take]; congr 1; omega) (by rw [cellP_len, cellP_len]), ← hs.2] at h2
  show OwnO _ v (l.set j x).length _
  rw [List.length_set]
  exact h2
theorem RowOn.shape {w : World} {v : Value} {l : List O} (h : RowOn w v l) (hne : 0 < l.length) : ∃ g cap, v = .slice (some ⟨g, 0, none⟩) l.length cap ∧ l.length ≤ cap ∧ cap ≤ 9223372036854775807 ∧ g < w.heap.size := by
  rcases h.2 with ⟨e, h0⟩ | ⟨g, cap, cur, e, hb, hg, q1, q2, q3, q4⟩
  · omega
  · exact ⟨g, cap, e, q1, q2, lt_of_heap hg⟩
theorem RowOn.range {w : World} {v : Value} {l : List O} (h : RowOn w v l) {g cap : Nat} (e : v = .slice (some ⟨g, 0, none⟩) l.length cap) (j : Nat) (hj : j < l.length) : w.rangeAt g (j * 22) l[j].vals.toList := by
  intro i u hu
  have hi : i < 22 := (List.getElem?_eq_some_iff.1 hu).1
  rcases h.2 with ⟨e', h0⟩ | ⟨g', cap', cur, e', hb, hg, q1, q2, q3, q4⟩
  · omega
  · rw [e] at e'
    simp only [Value.slice.injEq, Option.some.injEq, Addr.mk.injEq] at e'
    obtain ⟨⟨rfl, _, _⟩, _, rfl⟩ := e'
    have hc := cellsP_get l j hj i hi
    rw [← q4, List.getElem?_take, if_pos (by omega)] at hc
    rw [cell_of_block hg, ← Array.getElem?_toList, hc]
    exact hu
theorem RowOn.there {w : World} {v : Value} {l : List O} (h : RowOn w v l) {g cap : Nat} (e : v = .slice (some ⟨g, 0, none⟩) l.length cap) (j : Nat) (hj : j < l.length) : w.there g (j * 22) 22 := by
  intro i hi
  have hr := h.range e j hj i
  have hlen : i < (l[j].vals.toList).length := hi
  have := hr _ (List.getElem?_eq_getElem hlen)
  refine ⟨by rw [this]; rfl, ?_⟩
  rcases h.2 with ⟨e', h0⟩ | ⟨g', cap', cur, e', hb, hg, q1, q2, q3, q4⟩
  · omega
  · rw [e] at e'
    simp only [Value.slice.injEq, Option.some.injEq, Addr.mk.injEq] at e'
    obtain ⟨⟨rfl, _, _⟩, _, rfl⟩ := e'
    exact free_of_block hg
theorem RowOn.keep {S : Nat → Prop} {w w' : World} {v : Value} {l : List O} (h : RowOn w v l) (t : Touch S w w') (hs : ∀ k, v.ownBlock = some k → ¬ S k) : RowOn w' v l := ownP_touch h t hs
theorem RowOn.sl {w : World} {v : Value} {l : List O} (h : RowOn w v l) : SlP w v l := by
  rcases h.2 with ⟨e, h0⟩ | ⟨g, cap, cur, e, hb, hg, q1, q2, q3, q4⟩
  · have : l = [] := List.length_eq_zero_iff.1 (by omega)
    subst this
    rw [e]; exact SlP.nil w
  · refine ⟨_, cap, e, (fun h => by cases h), q1, q2, .inr ⟨g, 0, rfl, fun j u hu => ?_⟩⟩
    rw [← q4, List.getElem?_take] at hu
    split at hu
    · rw [cell_of_block hg, Nat.zero_add, ← Array.getElem?_toList]; exact hu
    · cases hu
/-- A run of stores into one block. -/
theorem Touch.cells (g : Nat) : ∀ (vs : List Value) (o : Nat) (W : World), Touch (fun k => k = g) W (W.setCells g o vs)
  | [], o, W => Touch.refl _ _
  | v :: r, o, W => ((Touch.refl (fun k => k = g) W).setCell ⟨g, o, none⟩ v fun _ => rfl).trans (Touch.cells g r (o + 1) _)
theorem RowOn.swap {w : World} {v : Value} {l : List O} (h : RowOn w v l) {g cap : Nat} (e : v = .slice (some ⟨g, 0, none⟩) l.length cap) (i j : Nat) (hi : i < l.length) (hj : j < l.length) :
    RowOn ((w.setCells g (i * 22) l[j].vals.toList).setCells g (j * 22) l[i].vals.toList) v ((l.set i l[j]).set j l[i]) := by
  have h1 := h.setRow e i hi l[j]
  exact RowOn.setRow h1 (by rw [List.length_set]; exact e) j (by rw [List.length_set]; exact hj) l[i]
end Go.Proofs.YtodpdcflbnomgaaGreat

/- A region that reads first and writes behind all its reads: what is read is asked of the world as long as none of the late operations has come up. It speaks of no program. -/
namespace Go.Proofs.YtodpdcflbnomgaaGreat
open Go.RowKit
set_option linter.unusedVariables false

section
variable {P : Program} {md : Region.Mode} {ops : Array Oper} {Q : Exit → Act → World → Prop} {S : World → Prop} {late : Nat → Bool}
/-- None of the late ones has come up. -/
def noneL (late : Nat → Bool) (listed : Array Bool) : Bool := (List.range listed.size).all fun j => !late j || !listed.getD j true
theorem noneL_spec {listed : Array Bool} : noneL late listed = true ↔ ∀ j, j < listed.size → late j = true → listed.getD j true = false := by
  unfold noneL
  rw [List.all_eq_true]
  constructor
  · intro h j hj hl
    have := h j (List.mem_range.2 hj)
    rw [hl] at this
    simpa using this
  · intro h j hj
    cases hl : late j with
    | false => rfl
    | true => simp [h j (List.mem_range.1 hj) hl]
theorem noneL_set {listed : Array Bool} {i : Nat} (hi : late i = false) : noneL late (listed.setIfInBounds i true) = noneL late listed := by
  have key : ∀ j, late j = true → (listed.setIfInBounds i true).getD j true = listed.getD j true := fun j hj => by
    have hne : i ≠ j := fun e => by subst e; rw [hi] at hj; cases hj
    exact getD_set_ne true hne
  rw [Bool.eq_iff_iff, noneL_spec, noneL_spec]
  simp only [Array.size_setIfInBounds]
  exact ⟨fun h j hj hl => by rw [← key j hl]; exact h j hj hl, fun h j hj hl => by rw [key j hl]; exact h j hj hl⟩
/-- Every order; as long as none of the late ones has come up the world meets S. -/
def wpAnyG (P : Program) (md : Region.Mode) (ops : Array Oper) (Q : Exit → Act → World → Prop) (S : World → Prop) (late : Nat → Bool) : Nat → Array Bool → Act → World → Prop
  | 0, listed, a, w => Region.ready md ops listed = [] ∧ Q .normal a w
  | fuel + 1, listed, a, w =>
    (Region.ready md ops listed = [] → Q .normal a w) ∧
    ∀ i ∈ Region.ready md ops listed, wpOp P ops Q i (fun a' w' => (noneL late (listed.setIfInBounds i true) = true → S w') ∧ wpAnyG P md ops Q S late fuel (listed.setIfInBounds i true) a' w') a w
theorem wpAny_of_G : ∀ (fuel : Nat) (listed : Array Bool) (a : Act) (w : World), wpAnyG P md ops Q S late fuel listed a w → wpAny P md ops Q fuel listed a w
  | 0, _, _, _, h => h
  | fuel + 1, _, _, _, h => ⟨h.1, fun i hi => wpOp_mono (fun a' w' h' => wpAny_of_G fuel _ a' w' h'.2) (h.2 i hi)⟩
/-- Every late operation waits for number i. -/
def allLate (md : Region.Mode) (ops : Array Oper) (late : Nat → Bool) (i : Nat) : Bool :=
  (List.range ops.size).all fun j => !late j || match ops[j]? with
    | some o => o.after.any fun e => Region.binds md e && e.on == i
    | none => true
theorem allLate_spec {i : Nat} (h : allLate md ops late i = true) {j : Nat} {oj : Oper} (hj : ops[j]? = some oj) (hno : ∀ e ∈ oj.after, Region.binds md e = true → e.on ≠ i) : late j = false := by
  have h1 := List.all_eq_true.1 h j (List.mem_range.2 (Array.getElem?_eq_some_iff.1 hj).1)
  rw [hj] at h1
  cases hl : late j with
  | false => rfl
  | true =>
    rw [hl] at h1
    simp only [Bool.not_true, Bool.false_or] at h1
    obtain ⟨e, he, hb⟩ := Array.any_eq_true'.1 h1
    simp only [Bool.and_eq_true, beq_iff_eq] at hb
    exact absurd hb.2 (hno e he hb.1)
theorem ready_not {i : Nat} {listed : Array Bool} {oj : Oper} (hr : i ∈ Region.ready md ops listed) (hall : ∀ e ∈ oj.after, Region.binds md e = true → listed.getD e.on false = true) : ∀ e ∈ oj.after, Region.binds md e = true → e.on ≠ i := fun e he hb heq => by
  have q1 := hall e he hb
  have q0 := (mem_ready.1 hr).1
  rw [heq] at q1
  rcases Nat.lt_or_ge i listed.size with h' | h'
  · simp [h'] at q0 q1
    rw [q0] at q1
    cases q1
  · simp [Array.getElem?_eq_none h'] at q1
theorem free_set {i j : Nat} {listed : Array Bool} {oi : Oper} (hun : listed.getD j true = false)
    (hfree : ∀ j oj, ops[j]? = some oj → j ≠ i → listed.getD j true = false → (∀ e ∈ oj.after, Region.binds md e = true → e.on ≠ i) → oi.apart ops oj = true) :
    ∀ k ok, ops[k]? = some ok → k ≠ i → (listed.setIfInBounds j true).getD k true = false → (∀ e ∈ ok.after, Region.binds md e = true → e.on ≠ i) → oi.apart ops ok = true := fun k ok hk hki hku hno => by
  refine hfree k ok hk hki ?_ hno
  by_cases hjk : j = k
  · subst hjk; exact hun
  · rw [getD_set_ne true hjk] at hku; exact hku
theorem wpAnyG_first {i : Nat} {oi : Oper} {v : Value} (hi : ops[i]? = some oi) (hil : late i = false) (hla : allLate md ops late i = true) (hsel : ∀ (j : Nat) (o : Oper) cs b, ops[j]? = some o → o.op ≠ .select cs b)
    (hQ : ∀ c a w, Q (.panic c) (a.put oi.dst v) w → Q (.panic c) a w) :
    ∀ (fuel : Nat) (listed : Array Bool) (a : Act) (w : World), noneL late listed = true → (∀ j oj, ops[j]? = some oj → j ≠ i → listed.getD j true = false → (∀ e ∈ oj.after, Region.binds md e = true → e.on ≠ i) → oi.apart ops oj = true) →
      i ∈ Region.ready md ops listed → YieldsIf P ops S oi v a → S w → 
      wpAnyG P md ops Q S late fuel (listed.setIfInBounds i true) (a.put oi.dst v) w → wpAnyG P md ops Q S late (fuel + 1) listed a w := by
  intro fuel
  induction fuel with
  | zero =>
    intro listed a w hN _ hr hy hS H
    refine ⟨fun h => absurd (h ▸ hr) (by simp), fun j hj => ?_⟩
    by_cases hji : j = i
    · subst hji
      exact hy.wpOp hi hS ⟨fun _ => hS, H⟩
    · have h1 := ready_mono hj hji
      rw [H.1] at h1
      cases h1
  | succ fuel ih =>
    intro listed a w hN hfree hr hy hS H
    refine ⟨fun h => absurd (h ▸ hr) (by simp), fun j hj => ?_⟩
    by_cases hji : j = i
    · subst hji
      exact hy.wpOp hi hS ⟨fun _ => hS, H⟩
    obtain ⟨hun, oj, hoj, hall⟩ := mem_ready.1 hj
    have hnot := ready_not (oj := oj) hr hall
    have h2 := wpOp_putIf hoj (hfree j oj hoj hji hun hnot) (fun cs b => hsel i oi cs b hi) (fun cs b => hsel j oj cs b hoj) hQ hy (H.2 j (ready_mono hj hji))
    have hc : ((listed.setIfInBounds i true).setIfInBounds j true) = (listed.setIfInBounds j true).setIfInBounds i true := Array.setIfInBounds_comm _ _ (Ne.symm hji)
    have hl : late j = false := allLate_spec hla hoj hnot
    have hN2 : noneL late ((listed.setIfInBounds i true).setIfInBounds j true) = true := by rw [noneL_set hl, noneL_set hil]; exact hN
    refine wpOp_mono (fun a' w' h3 => ⟨fun _ => h3.2.1 hN2, ih (listed.setIfInBounds j true) a' w' (by rw [noneL_set hl]; exact hN) (free_set hun hfree) (ready_mono hr (Ne.symm hji)) h3.1 (h3.2.1 hN2) ?_⟩) h2
    rw [← hc]
    exact h3.2.2
theorem wpAnyG_free {i : Nat} {oi : Oper} {v : Value} (hi : ops[i]? = some oi) (hil : late i = false) (hsel : ∀ (j : Nat) (o : Oper) cs b, ops[j]? = some o → o.op ≠ .select cs b)
    (hQ : ∀ c a w, Q (.panic c) (a.put oi.dst v) w → Q (.panic c) a w) :
    ∀ (fuel : Nat) (listed : Array Bool) (a : Act) (w : World), (∀ j oj, ops[j]? = some oj → j ≠ i → listed.getD j true = false → (∀ e ∈ oj.after, Region.binds md e = true → e.on ≠ i) → oi.apart ops oj = true) →
      i ∈ Region.ready md ops listed → YieldsIf P ops (fun _ => True) oi v a → (noneL late listed = true → S w) → 
      wpAnyG P md ops Q S late fuel (listed.setIfInBounds i true) (a.put oi.dst v) w → wpAnyG P md ops Q S late (fuel + 1) listed a w := by
  intro fuel
  induction fuel with
  | zero =>
    intro listed a w _ hr hy hS H
    refine ⟨fun h => absurd (h ▸ hr) (by simp), fun j hj => ?_⟩
    by_cases hji : j = i
    · subst hji
      exact hy.wpOp hi trivial ⟨fun h => hS (by rwa [noneL_set hil] at h), H⟩
    · have h1 := ready_mono hj hji
      rw [H.1] at h1
      cases h1
  | succ fuel ih =>
    intro listed a w hfree hr hy hS H
    refine ⟨fun h => absurd (h ▸ hr) (by simp), fun j hj => ?_⟩
    by_cases hji : j = i
    · subst hji
      exact hy.wpOp hi trivial ⟨fun h => hS (by rwa [noneL_set hil] at h), H⟩
    obtain ⟨hun, oj, hoj, hall⟩ := mem_ready.1 hj
    have hnot := ready_not (oj := oj) hr hall
    have h2 := wpOp_putIf hoj (hfree j oj hoj hji hun hnot) (fun cs b => hsel i oi cs b hi) (fun cs b => hsel j oj cs b hoj) hQ hy (H.2 j (ready_mono hj hji))
    have hc : ((listed.setIfInBounds i true).setIfInBounds j true) = (listed.setIfInBounds j true).setIfInBounds i true := Array.setIfInBounds_comm _ _ (Ne.symm hji)
    have hN2 : noneL late (listed.setIfInBounds j true) = true → noneL late ((listed.setIfInBounds i true).setIfInBounds j true) = true := fun h => by rw [hc, noneL_set hil]; exact h
    refine wpOp_mono (fun a' w' h3 => ⟨fun h => h3.2.1 (hN2 h), ih (listed.setIfInBounds j true) a' w' (free_set hun hfree) (ready_mono hr (Ne.symm hji)) h3.1 (fun h => h3.2.1 (hN2 h)) ?_⟩) h2
    rw [← hc]
    exact h3.2.2
/-- An operation that reads is taken first. -/
theorem wpAnyG_take {i : Nat} {oi : Oper} {v : Value} {fuel : Nat} {listed : Array Bool} {a : Act} {w : World} (hi : ops[i]? = some oi) (hil : late i = false) (hla : allLate md ops late i = true) (hN : noneL late listed = true)
    (hs : Region.noSelect ops = true) (hf : Region.free md ops listed i = true) (hr : (Region.ready md ops listed).contains i = true)
    (hQ : ∀ c a w, Q (.panic c) (a.put oi.dst v) w → Q (.panic c) a w) (hy : YieldsIf P ops S oi v a) (hS : S w)
    (h : wpAnyG P md ops Q S late fuel (listed.setIfInBounds i true) (a.put oi.dst v) w) : wpAnyG P md ops Q S late (fuel + 1) listed a w :=
  wpAnyG_first hi hil hla (Region.noSelect_spec hs) hQ fuel listed a w hN (Region.free_spec hi hf) (by simpa using hr) hy hS h
/-- An operation that yields whatever the world is taken first. -/
theorem wpAnyG_pure {i : Nat} {oi : Oper} {v : Value} {fuel : Nat} {listed : Array Bool} {a : Act} {w : World} (hi : ops[i]? = some oi) (hil : late i = false)
    (hs : Region.noSelect ops = true) (hf : Region.free md ops listed i = true) (hr : (Region.ready md ops listed).contains i = true)
    (hQ : ∀ c a w, Q (.panic c) (a.put oi.dst v) w → Q (.panic c) a w) (hy : YieldsIf P ops (fun _ => True) oi v a) (hS : S w)
    (h : wpAnyG P md ops Q S late fuel (listed.setIfInBounds i true) (a.put oi.dst v) w) : wpAnyG P md ops Q S late (fuel + 1) listed a w :=
  wpAnyG_free hi hil (Region.noSelect_spec hs) hQ fuel listed a w (Region.free_spec hi hf) (by simpa using hr) hy (fun _ => hS) h
/-- The one that may come up. -/
theorem wpAnyG_one {i : Nat} {o : Oper} {fuel : Nat} {listed : Array Bool} {a : Act} {w : World} (ho : ops[i]? = some o) (hr : Region.ready md ops listed = [i]) (hw : Region.wanted o (yielded ops a.tmps) = true) (hl : noneL late (listed.setIfInBounds i true) = false)
    (h : o.wp P a w (fun a' w' => wpAnyG P md ops Q S late fuel (listed.setIfInBounds i true) a' w') Q) : wpAnyG P md ops Q S late (fuel + 1) listed a w := by
  refine ⟨fun h0 => absurd (hr ▸ h0) (by simp), fun j hj => ?_⟩
  rw [hr] at hj
  simp only [List.mem_singleton] at hj
  subst hj
  refine wpOp_step ho fun K hK => ?_
  rw [if_pos hw]
  exact Oper.wp_mono (fun a w h => hK a w ⟨fun h2 => (by rw [hl] at h2; cases h2), h⟩) h
theorem wpAnyG_call {i : Nat} {o : Oper} {fuel : Nat} {listed : Array Bool} {a : Act} {w : World} (ho : ops[i]? = some o) (hr : Region.ready md ops listed = [i]) (hw : Region.wanted o (yielded ops a.tmps) = true) (hl : noneL late (listed.setIfInBounds i true) = false)
    (h : ∀ K : Act → World → Prop, Shut (∀ a' w', wpAnyG P md ops Q S late fuel (listed.setIfInBounds i true) a' w' → K a' w') → o.wp P a w K Q) : wpAnyG P md ops Q S late (fuel + 1) listed a w :=
  wpAnyG_one ho hr hw hl (h _ fun _ _ h => h)
theorem wpAnyG_done {fuel : Nat} {listed : Array Bool} {a : Act} {w : World} (hr : Region.ready md ops listed = []) (h : Q .normal a w) : wpAnyG P md ops Q S late fuel listed a w := by
  cases fuel with
  | zero => exact ⟨hr, h⟩
  | succ n => exact ⟨fun _ => h, by rw [hr]; simp⟩
/-- THE LAW. -/
theorem region_G {id : Nat} {a : Act} {w : World} (hm : P.follows .mixedOrders = true)
    (h : wpAnyG P .any ops (NoPanic Q) S late ops.size (Array.replicate ops.size false) a w.drew) : (Code.region id ops true).wp P Q a w :=
  wp_region_noPanic (wp_region_any hm (wpAny_of_G _ _ _ _ h))
end
end Go.Proofs.YtodpdcflbnomgaaGreat
