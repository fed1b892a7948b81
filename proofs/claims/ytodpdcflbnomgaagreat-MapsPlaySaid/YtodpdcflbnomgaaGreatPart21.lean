/- Package maps: a copy under way: what its rounds leave. It speaks of no step of the program. -/
import Derived.Test.YtodpdcflbnomgaaGreatPart20
import Derived.Maps.RangeWalk
import Derived.Sort.MapsRangeIn
import Derived.Shelf.SlMaps.Clone
import Derived.Ground.SlmcProg
import Derived.Test.YtodpdcflbnomgaaGreatProg
namespace Go.Proofs.YtodpdcflbnomgaaGreat
open Go.RowKit Go.Maps
set_option linter.unusedVariables false
set_option linter.unusedSimpArgs false
set_option maxRecDepth 100000

theorem aget_beforeC {α : Type} {k : Key} {y : Key × α} {s : List (Key × α)} (h : Rising (y :: s)) (hb : bytesBefore k y.1 = true) : aget k (y :: s) = none := aget_none.2 fun p hp => by
  rcases List.mem_cons.1 hp with rfl | hp
  · exact (before_ne hb).symm
  · exact (before_ne (before_trans _ _ _ hb ((List.pairwise_cons.1 h).1 p hp))).symm
theorem rising_extC {α : Type} : ∀ {a b : List (Key × α)}, Rising a → Rising b → (∀ k, aget k a = aget k b) → a = b
  | [], [], _, _, _ => rfl
  | [], y :: s, _, _, e => by have := e y.1; simp [aget] at this
  | x :: r, [], _, _, e => by have := e x.1; simp [aget] at this
  | x :: r, y :: s, ha, hb, e => by
    have hk : x.1 = y.1 := by
      by_cases h1 : bytesBefore x.1 y.1 = true
      · have := e x.1; rw [aget_beforeC hb h1] at this; simp [aget] at this
      · by_cases h2 : x.1 = y.1
        · exact h2
        · have h3 := before_total _ _ h2 (by simpa using h1)
          have := e y.1; rw [aget_beforeC ha h3] at this; simp [aget] at this
    have hxy : x = y := Prod.ext hk (by simpa [aget, hk] using e x.1)
    subst hxy
    have ha' := List.pairwise_cons.1 ha
    have hb' := List.pairwise_cons.1 hb
    rw [rising_extC ha'.2 hb'.2 fun k => ?_]
    by_cases h : x.1 = k
    · subst h
      rw [aget_none.2 fun p hp => (before_ne (ha'.1 p hp)).symm, aget_none.2 fun p hp => (before_ne (hb'.1 p hp)).symm]
    · have := e k; simpa [aget, h] using this
theorem rising_amap {α β : Type} (f : α → β) {l : List (Key × α)} (h : Rising l) : Rising (amap f l) := by
  unfold Rising at *
  rw [amap, List.pairwise_map]; exact h
theorem ranges_touch {S : Nat → Prop} {w w' : World} {ty : TypeId} {b r n cnt : Nat} {D : DataW Value} {left : Lit → Bool} (h : w.ranges Tryz.prog ty heldO b r n D left cnt) (t : Touch S w w') (hb : ¬ S b) (hr : ¬ S r) : w'.ranges Tryz.prog ty heldO b r n D left cnt := by
  have h1 := h.owns.lt
  have h2 := h.lt
  obtain ⟨es, clock, since, seen, c0, e1, F, hs, hD, e2, rest⟩ := h
  exact ⟨es, clock, since, seen, c0, (t.block b h1 hb).trans e1, F, hs, hD, (t.block r h2 hr).trans e2, rest⟩
theorem grown_touch {w w' : World} {r : Nat} (h : w.grownBy w' (some r)) : Touch (fun k => k = r) w w' := (Touch.refl (fun k => k = r) w).grown h fun i e _ => by simpa using e.symm
/-- What of a list, told by f, is copied: all but what is left. -/
def CpRel {α β : Type} (f : α → β) (es es' : List (Key × α)) (left : Lit → Bool) : Prop := ∀ k, (aget k es').map f = if left (.string k) = true then none else (aget k es).map f
theorem cp_start {α β : Type} (f : α → β) (g : α → Value) (es : List (Key × α)) : CpRel f es [] (Maps.has (toV (amap g es))) := by
  intro k
  rw [toV_has, aget_amap]
  cases aget k es <;> simp [aget]
theorem cp_step {α β : Type} {f : α → β} {es es' : List (Key × α)} {left : Lit → Bool} {k : Key} {x : α} (h : CpRel f es es' left) (hf : (aget k es).map f = some (f x)) : CpRel f es (aput k x es') (fun z => left z && !z.sameKey (.string k)) := by
  intro k2
  by_cases e : k = k2
  · subst e
    rw [aget_aput_same, hf]; simp [Lit.sameKey]
  · rw [aget_aput_other e, h k2]
    have e2 : (k2 == k) = false := by simpa using fun x => e x.symm
    simp [Lit.sameKey, e2]
theorem cp_end {α β : Type} {f : α → β} {es es' : List (Key × α)} {left : Lit → Bool} (h : CpRel f es es' left) (hl : ∀ k, left k = false) (h1 : Rising es) (h2 : Rising es') : amap f es' = amap f es :=
  rising_extC (rising_amap f h2) (rising_amap f h1) fun k => by rw [aget_amap, aget_amap, h k, hl]; simp

/-- An inner map's copy under way: wa: the world in which it was begun; block Bi is the new one, Br the range over the old one. -/
structure CpIn (wa wr : World) (i : Inn) (Bi Br : Nat) (left : Lit → Bool) (cnt : Nat) (es' : List (Key × Rk)) : Prop where
  rg : wr.ranges Tryz.prog 9 heldO i.b Br i.es.length (toV (amap Rk.v i.es)) left cnt
  le : cnt ≤ i.es.length
  own : wr.ownsMap Tryz.prog 9 heldO Bi (i.es.length - cnt) (toV (amap Rk.v es'))
  rel : CpRel Rk.l i.es es' left
  rising : Rising es'
  rows : ∀ p ∈ es', rowAt wr p.2
  new : ∀ p ∈ es', ∀ k, p.2.v.ownBlock = some k → wa.heap.size ≤ k
  apart : ∃ rb : Nat → Option Key, ∀ p ∈ es', ∀ k, p.2.v.ownBlock = some k → rb k = some p.1
  lens : ∀ p ∈ es', p.2.l.length ≤ 1000000
  touch : Touch (fun k => k = Bi ∨ k = Br) wa wr
theorem CpIn.step {wa wr w1 w2 w3 : World} {i : Inn} {Bi Br : Nat} {left : Lit → Bool} {cnt cnt1 : Nat} {es' : List (Key × Rk)} {k : Key} {r : Rk} {v : Value} (h : CpIn wa wr i Bi Br left cnt es') (hBi : Bi < wa.heap.size) (hBr : Br < wa.heap.size) (hib : i.b < wa.heap.size) (hne : Bi ≠ Br) (hne2 : i.b ≠ Bi)
    (hr : aget k i.es = some r) (hl : r.l.length ≤ 1000000)
    (hg1 : wr.grownBy w1 (some Br)) (hrg1 : w1.ranges Tryz.prog 9 heldO i.b Br i.es.length (toV (amap Rk.v i.es)) (fun z => left z && !z.sameKey (.string k)) cnt1) (hlt : cnt1 < cnt)
    (hN : NewP w1 w2 v r.l) (ho : w3.ownsMap Tryz.prog 9 heldO Bi (i.es.length - cnt + 1) ((toV (amap Rk.v es')).put (.string k) (.held v))) (hg3 : w2.grownBy w3 (some Bi)) :
    CpIn wa w3 i Bi Br (fun z => left z && !z.sameKey (.string k)) cnt1 (aput k ⟨v, r.l⟩ es') := by
  have t1 := grown_touch hg1
  have t3 := grown_touch hg3
  have hs0 := h.touch.size
  have hs1 := t1.size
  have hs2 := hN.touch.size
  have hs3 := t3.size
  have hvn : ∀ j, v.ownBlock = some j → wr.heap.size ≤ j := fun j hj => Nat.le_trans hs1 (hN.fresh j hj)
  have hold : ∀ p ∈ es', ∀ j, p.2.v.ownBlock = some j → j < wr.heap.size := fun p hp j hj => by
    obtain ⟨c, hc⟩ := row_ltM (h.rows p hp) hj
    exact lt_of_heap hc
  have hrow : ∀ p ∈ es', rowAt w3 p.2 := fun p hp => by
    have a1 := row_touchM (h.rows p hp) t1 fun j hj e => by have := h.new p hp j hj; omega
    have a2 := row_touchM a1 hN.touch fun j hj e => e
    exact row_touchM a2 t3 fun j hj e => by have := h.new p hp j hj; omega
  obtain ⟨rb, hrb⟩ := h.apart
  refine ⟨?_, by have := h.le; omega, ?_, ?_, h.rising.aput, ?_, ?_, ?_, ?_, ?_⟩
  · have a1 := ranges_touch hrg1 hN.touch id id
    exact ranges_touch a1 t3 hne2 hne.symm
  · have := ho.mono (n' := i.es.length - cnt1) (by have := h.le; omega)
    rw [toV_put] at this
    rw [amap_aput]; exact this
  · exact cp_step h.rel (by rw [hr]; rfl)
  · intro p hp
    rcases mem_aput.1 hp with rfl | ⟨hp, _⟩
    · exact row_touchM hN.owns t3 fun j hj e => by have := hvn j hj; omega
    · exact hrow p hp
  · intro p hp j hj
    rcases mem_aput.1 hp with rfl | ⟨hp, _⟩
    · exact Nat.le_trans hs0 (hvn j hj)
    · exact h.new p hp j hj
  · refine ⟨fun j => if wr.heap.size ≤ j then some k else rb j, fun p hp j hj => ?_⟩
    rcases mem_aput.1 hp with rfl | ⟨hp, _⟩
    · exact if_pos (hvn j hj)
    · show (if _ then _ else _) = _
      rw [if_neg (by have := hold p hp j hj; omega)]; exact hrb p hp j hj
  · intro p hp
    rcases mem_aput.1 hp with rfl | ⟨hp, _⟩
    · exact hl
    · exact h.lens p hp
  · have a1 : Touch (fun k => k = Bi ∨ k = Br) wa w1 := h.touch.trans (t1.mono fun j _ e => .inr e)
    have a2 : Touch (fun k => k = Bi ∨ k = Br) wa w2 := a1.trans (hN.touch.mono fun j _ e => e.elim)
    exact a2.trans (t3.mono fun j _ e => .inl e)
/-- The copy of the whole under way: block Bk is the new map of maps, Bx the range over the old one. -/
structure CpOut (w wr : World) (os : List (Key × Inn)) (mk Bk Bx : Nat) (left : Lit → Bool) (cnt : Nat) (os' : List (Key × Inn)) : Prop where
  rg : wr.ranges Tryz.prog 34 heldO mk Bx os.length (toV (amap innV os)) left cnt
  le : cnt ≤ os.length
  own : wr.ownsMap Tryz.prog 34 heldO Bk (os.length - cnt) (toV (amap innV os'))
  rel : CpRel innL os os' left
  rising : Rising os'
  inn : ∀ p ∈ os', InnAt wr p.2
  new : ∀ p ∈ os', Bx < p.2.b ∧ ∀ q ∈ p.2.es, ∀ k, q.2.v.ownBlock = some k → Bx < k
  ob : ∃ ob : Nat → Option Key, ∀ p ∈ os', ob p.2.b = some p.1
  rb : ∃ rb : Nat → Option (Key × Key), ∀ p ∈ os', ∀ q ∈ p.2.es, ∀ k, q.2.v.ownBlock = some k → rb k = some (p.1, q.1)
  touch : Touch (fun _ => False) w wr
theorem CpOut.step {w wr w1 w4 w5 : World} {os os' : List (Key × Inn)} {mk Bk Bx : Nat} {left : Lit → Bool} {cnt cnt1 : Nat} {k : Key} {i i' : Inn} (h : CpOut w wr os mk Bk Bx left cnt os') (hBk : w.heap.size ≤ Bk) (hBx : Bk < Bx) (hBl : Bx < wr.heap.size) (hmk : mk < w.heap.size)
    (hi : aget k os = some i) (hg1 : wr.grownBy w1 (some Bx)) (hrg1 : w1.ranges Tryz.prog 34 heldO mk Bx os.length (toV (amap innV os)) (fun z => left z && !z.sameKey (.string k)) cnt1) (hlt : cnt1 < cnt)
    (t : Touch (fun _ => False) w1 w4) (hI : InnAt w4 i') (heq : innL i' = innL i) (hnb : w1.heap.size ≤ i'.b) (hnr : ∀ q ∈ i'.es, ∀ k, q.2.v.ownBlock = some k → w1.heap.size ≤ k) (hrr : ∃ rb : Nat → Option Key, ∀ q ∈ i'.es, ∀ k, q.2.v.ownBlock = some k → rb k = some q.1)
    (ho : w5.ownsMap Tryz.prog 34 heldO Bk (os.length - cnt + 1) ((toV (amap innV os')).put (.string k) (.held (.map (some i'.b))))) (hg5 : w4.grownBy w5 (some Bk)) :
    CpOut w w5 os mk Bk Bx (fun z => left z && !z.sameKey (.string k)) cnt1 (aput k i' os') := by
  have t1 := grown_touch hg1
  have t5 := grown_touch hg5
  have hs0 := h.touch.size
  have hs1 := t1.size
  have hs2 := t.size
  have hs3 := t5.size
  have hlo : ∀ p ∈ os', p.2.b < wr.heap.size := fun p hp => (h.inn p hp).owns.lt
  have hlr : ∀ p ∈ os', ∀ q ∈ p.2.es, ∀ j, q.2.v.ownBlock = some j → j < wr.heap.size := fun p hp q hq j hj => by
    obtain ⟨c, hc⟩ := row_ltM ((h.inn p hp).rows q hq) hj
    exact lt_of_heap hc
  obtain ⟨ob, hob⟩ := h.ob
  obtain ⟨rb, hrb⟩ := h.rb
  obtain ⟨ri, hri⟩ := hrr
  refine ⟨?_, by have := h.le; omega, ?_, ?_, h.rising.aput, ?_, ?_, ?_, ?_, ?_⟩
  · have a1 := ranges_touch hrg1 t id id
    exact ranges_touch a1 t5 (by omega) (by omega)
  · have := ho.mono (n' := os.length - cnt1) (by have := h.le; omega)
    rw [toV_put] at this
    rw [amap_aput]; exact this
  · exact cp_step h.rel (by rw [hi, heq]; rfl)
  · intro p hp
    rcases mem_aput.1 hp with rfl | ⟨hp, _⟩
    · exact hI.touch t5 (by show ¬ i'.b = _; omega) fun q hq j hj e => by have := hnr q hq j hj; omega
    · have hn := h.new p hp
      have a1 := (h.inn p hp).touch t1 (by show ¬ p.2.b = _; omega) fun q hq j hj e => by have := hn.2 q hq j hj; omega
      have a2 := a1.touch t id fun q hq j hj e => e
      exact a2.touch t5 (by show ¬ p.2.b = _; omega) fun q hq j hj e => by have := hn.2 q hq j hj; omega
  · intro p hp
    rcases mem_aput.1 hp with rfl | ⟨hp, _⟩
    · exact ⟨by show Bx < i'.b; omega, fun q hq j hj => by have := hnr q hq j hj; omega⟩
    · exact h.new p hp
  · refine ⟨fun j => if wr.heap.size ≤ j then some k else ob j, fun p hp => ?_⟩
    rcases mem_aput.1 hp with rfl | ⟨hp, _⟩
    · exact if_pos (Nat.le_trans hs1 hnb)
    · show (if _ then _ else _) = _
      rw [if_neg (by have := hlo p hp; omega)]; exact hob p hp
  · refine ⟨fun j => if wr.heap.size ≤ j then (ri j).map fun y => (k, y) else rb j, fun p hp q hq j hj => ?_⟩
    rcases mem_aput.1 hp with rfl | ⟨hp, _⟩
    · show (if _ then _ else _) = _
      rw [if_pos (Nat.le_trans hs1 (hnr q hq j hj)), hri q hq j hj]; rfl
    · show (if _ then _ else _) = _
      rw [if_neg (by have := hlr p hp q hq j hj; omega)]; exact hrb p hp q hq j hj
  · have a1 : Touch (fun _ => False) w w1 := h.touch.then t1 fun j hj e => by omega
    exact (a1.trans t).then t5 fun j hj e => by omega
/-- An inner map that is copied. -/
theorem CpIn.done {wa wr : World} {i : Inn} {Bi Br : Nat} {left : Lit → Bool} {es' : List (Key × Rk)} (h : CpIn wa wr i Bi Br left 0 es') (hl : ∀ k, left k = false) (hr : Rising i.es) : InnAt wr ⟨Bi, es'⟩ ∧ innL ⟨Bi, es'⟩ = innL i := by
  have e := cp_end h.rel hl hr h.rising
  have hlen : es'.length = i.es.length := by
    have := congrArg List.length e
    simpa [length_amap] using this
  refine ⟨⟨?_, h.rising, h.rows, h.lens⟩, e⟩
  have := h.own
  rw [Nat.sub_zero, ← hlen] at this
  exact this
/-- The whole, copied: beside the ids told, which have a block of their own, and the ranges, which are shared. -/
theorem CpOut.done {w wr w2 : World} {g mt mk : Nat} {hv : Value} {os os' : List (Key × Inn)} {s : MS} {Bk Bx mt' X : Nat} {left : Lit → Bool} (hC : MapsC w g mt mk hv os s) (h : CpOut w wr os mk Bk Bx left 0 os') (hl : ∀ k, left k = false) (hBk : w.heap.size ≤ Bk) (hBx : Bk < Bx)
    (t : Touch (fun _ => False) wr w2) (ht : ToldAt w2 mt' s.told.length (amap (fun _ => .agg #[]) s.told)) (hmt : wr.heap.size ≤ mt') (hX : w2.heap[X]? = some (.cells #[.map (some mt'), .map (some Bk), hv] 66 (0, 0))) (hXw : w.heap.size ≤ X) :
    MapsC w2 X mt' Bk hv os' s ∧ (∀ k, footM X mt' Bk hv os' k → w.heap.size ≤ k ∨ hv.ownBlock = some k) ∧ Touch (fun _ => False) w w2 := by
  have e := cp_end h.rel hl hC.rkeys h.rising
  have hlen : os'.length = os.length := by
    have := congrArg List.length e
    simpa [length_amap] using this
  have hs0 := h.touch.size
  have hs2 := t.size
  have hown : wr.ownsMap Tryz.prog 34 heldO Bk os'.length (toV (amap innV os')) := by
    have := h.own
    rw [Nat.sub_zero, ← hlen] at this; exact this
  have hlo : ∀ p ∈ os', p.2.b < wr.heap.size := fun p hp => (h.inn p hp).owns.lt
  have hBkl := hown.lt
  obtain ⟨ob, hob⟩ := h.ob
  refine ⟨⟨hX, ht, owns_touchM hown t id, hC.rtold, h.rising, row_touchM (row_touchM hC.hidR h.touch fun _ _ => id) t fun _ _ => id, hC.hidF, hC.hidL, fun p hp => (h.inn p hp).touch t id fun _ _ _ _ => id, by rw [hC.eq, e], by omega, ?_, h.rb⟩, fun k hk => ?_, h.touch.trans t⟩
  · refine ⟨fun j => if j = mt' ∨ j = Bk then none else ob j, if_pos (.inl rfl), if_pos (.inr rfl), fun p hp => ?_⟩
    have h1 := hlo p hp
    have h2 := (h.new p hp).1
    show (if _ then _ else _) = _
    rw [if_neg (by omega)]; exact hob p hp
  · rcases hk with rfl | rfl | rfl | hk | ⟨p, hp, hk⟩
    · exact .inl hXw
    · exact .inl (by omega)
    · exact .inl hBk
    · exact .inr hk
    · have hn := h.new p hp
      rcases hk with rfl | ⟨q, hq, hk⟩
      · exact .inl (by omega)
      · have := hn.2 q hq k hk
        exact .inl (by omega)
end Go.Proofs.YtodpdcflbnomgaaGreat

/- The library's maps.Clone, laid at this program. -/
namespace Go.Proofs
open Go.Shelf
def Tryz.cloneT_ren : Go.Shelf.Ren := ⟨fun | 5 => 31 | 7 => 52 | n => n, fun | 23 => 62 | 25 => 34 | 3 => 74 | 4 => 4 | 20 => 20 | n => n, fun | n => n⟩
theorem Tryz.cloneT : Go.Proofs.SlLaysW.n5 Tryz.prog Tryz.cloneT_ren := {
  mixed := by kernel_rfl
  f5 := ⟨Tryz.f31.name, by decide, Tryz.func31.trans (congrArg some (by kernel_rfl))⟩
  f7 := Tryz.func52.trans (congrArg some (by kernel_rfl))
  t4 := Tryz.underlying4
  a4 := Tryz.isAgg4
  z4 := Tryz.sizeOf4
  v4 := Tryz.zeroValue4
  t20 := Tryz.underlying20
  a20 := Tryz.isAgg20
  z20 := Tryz.sizeOf20
  v20 := Tryz.zeroValue20
  t23 := Tryz.underlying62
  a23 := Tryz.isAgg62
  z23 := Tryz.sizeOf62
  v23 := Tryz.zeroValue62 }
end Go.Proofs
