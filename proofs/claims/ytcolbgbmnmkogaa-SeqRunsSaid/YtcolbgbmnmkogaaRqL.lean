/- The document's tree of units (quireref9): stores into its cells. -/
import Derived.Test.YtcolbgbmnmkogaaPart26
namespace Go.Proofs.Ytcolbgbmnmkogaa
open Go.RowKit Go.Maps
set_option linter.unusedVariables false
set_option linter.unusedSimpArgs false
set_option maxRecDepth 100000

/-- A cell that holds a slice. -/
def IsSl (w : World) (p : Addr) : Prop := ∃ ao n cap, w.cell? p = some (.slice ao n cap)
theorem typed_set {w : World} {b pb pi : Nat} {y : Value} {t : TypeId} (h : ∃ c, w.heap[b]? = some (.cells c t (0, 0))) : ∃ c, (w.setCell ⟨pb, pi, none⟩ y).heap[b]? = some (.cells c t (0, 0)) := by
  obtain ⟨c, h⟩ := h
  by_cases e : pb = b
  · subst e; exact ⟨_, heap_setCell_same _ _ _ _ h⟩
  · exact ⟨c, by rw [heap_setCell_other _ _ _ _ (by exact e)]; exact h⟩
/-- A store into a cell that holds a slice leaves ints alone. -/
theorem SlJ.set {w : World} {v : Value} {l : List Int} (h : SlJ w v l) {pb pi : Nat} (hp : IsSl w ⟨pb, pi, none⟩) (y : Value) : SlJ (w.setCell ⟨pb, pi, none⟩ y) v l := by
  obtain ⟨ao, cap, e, h1, h2, h3, h4⟩ := h
  refine ⟨ao, cap, e, h1, h2, h3, ?_⟩
  rcases h4 with h4 | ⟨b, o, e, hT, hx⟩
  · exact .inl h4
  · refine .inr ⟨b, o, e, typed_set hT, fun j u hu => ?_⟩
    have hc := hx j u hu
    have hu' : ∃ x : Int, u = .int .i64 x := by
      have hm := List.mem_of_getElem? hu
      obtain ⟨x, _, hx⟩ := List.mem_flatMap.1 hm
      simp only [cellJ, List.mem_cons, List.not_mem_nil, or_false] at hx
      exact ⟨x, hx⟩
    have hne : (⟨pb, pi, none⟩ : Addr) ≠ ⟨b, o + j, none⟩ := fun e => by
      obtain ⟨a, n, c, hs⟩ := hp
      obtain ⟨x, rfl⟩ := hu'
      rw [e, hc] at hs
      cases hs
    rw [World.cell?_setCell_other w _ _ _ hne]; exact hc
theorem MnAt.set {w : World} {m : Mn} {n : Nd} (h : MnAt w m n) {pb pi : Nat} (hp : IsSl w ⟨pb, pi, none⟩) (y : Value) : MnAt (w.setCell ⟨pb, pi, none⟩ y) m n := ⟨h.u, h.par, h.left, h.lefts.set hp y, h.more.set hp y⟩
theorem owns_set {w : World} {e m n : Nat} {v : Value} {xs : List Value} (h : w.ownsRow 0 e m v n xs) (b i : Nat) (hb : v.ownBlock ≠ some b) (y : Value) : (w.setCell ⟨b, i, none⟩ y).ownsRow 0 e m v n xs := by
  refine ⟨h.1, ?_⟩
  rcases h.2 with h | ⟨g, cap, cur, rfl, q, hg, r⟩
  · exact .inl h
  · refine .inr ⟨g, cap, cur, rfl, q, ?_, r⟩
    rw [Below.heap_setCell _ _ _ _ (fun e => hb (by rw [e]; rfl))]; exact hg
/-- The order laid anew. -/
theorem RqAt.setOrd {w : World} {b : Nat} {r : RS} (h : RqAt w b r) (v : Value) (o : List Nat) (hv : SlJ w v (ints o)) : RqAt (w.setCell ⟨b, 2, none⟩ v) b ⟨r.l, r.more, o⟩ := by
  obtain ⟨c, hc⟩ := h.blk
  obtain ⟨vl, M, l1, l2, l3, l4⟩ := h.l
  obtain ⟨vm, m1, m2⟩ := h.more
  obtain ⟨vo, o1, o2⟩ := h.ord
  have hs : IsSl w ⟨b, 2, none⟩ := by
    obtain ⟨ao, cap, e, -⟩ := o2.shape
    exact ⟨ao, _, cap, by rw [o1, e]⟩
  have hne : ∀ k, k ≠ 2 → (⟨b, 2, none⟩ : Addr) ≠ ⟨b, k, none⟩ := fun k hk e => by simp only [Addr.mk.injEq] at e; exact hk e.2.1.symm
  have hb : vl.ownBlock ≠ some b := by
    rcases l2.2 with ⟨e, _⟩ | ⟨g, cap, cur, e, q, hg, _⟩
    · rw [e]; simp [Value.ownBlock]
    · rw [e]
      intro hh
      have hgb : g = b := by simpa [Value.ownBlock] using hh
      rw [hgb, hc] at hg
      simp at hg
  refine ⟨⟨_, heap_setCell_same _ _ _ _ hc⟩, ⟨vl, M, ?_, owns_set l2 b 2 hb v, l3, fun i h h' => (l4 i h h').set hs v⟩, ⟨vm, ?_, m2.set hs v⟩, ⟨v, ?_, hv.set hs v⟩⟩
  · rw [World.cell?_setCell_other w _ _ _ (hne 0 (by omega))]; exact l1
  · rw [World.cell?_setCell_other w _ _ _ (hne 1 (by omega))]; exact m1
  · exact World.cell?_setCell_same' w ⟨b, 2, none⟩ _ (by rw [o1]; rfl)
/-- The root's children laid anew. -/
theorem RqAt.setMore {w : World} {b : Nat} {r : RS} (h : RqAt w b r) (v : Value) (o : List Nat) (hv : SlJ w v (ints o)) : RqAt (w.setCell ⟨b, 1, none⟩ v) b ⟨r.l, o, r.order⟩ := by
  obtain ⟨c, hc⟩ := h.blk
  obtain ⟨vl, M, l1, l2, l3, l4⟩ := h.l
  obtain ⟨vm, m1, m2⟩ := h.more
  obtain ⟨vo, o1, o2⟩ := h.ord
  have hs : IsSl w ⟨b, 1, none⟩ := by
    obtain ⟨ao, cap, e, -⟩ := m2.shape
    exact ⟨ao, _, cap, by rw [m1, e]⟩
  have hne : ∀ k, k ≠ 1 → (⟨b, 1, none⟩ : Addr) ≠ ⟨b, k, none⟩ := fun k hk e => by simp only [Addr.mk.injEq] at e; exact hk e.2.1.symm
  have hb : vl.ownBlock ≠ some b := by
    rcases l2.2 with ⟨e, _⟩ | ⟨g, cap, cur, e, q, hg, _⟩
    · rw [e]; simp [Value.ownBlock]
    · rw [e]
      intro hh
      have hgb : g = b := by simpa [Value.ownBlock] using hh
      rw [hgb, hc] at hg
      simp at hg
  refine ⟨⟨_, heap_setCell_same _ _ _ _ hc⟩, ⟨vl, M, ?_, owns_set l2 b 1 hb v, l3, fun i h h' => (l4 i h h').set hs v⟩, ⟨v, ?_, hv.set hs v⟩, ⟨vo, ?_, o2.set hs v⟩⟩
  · rw [World.cell?_setCell_other w _ _ _ (hne 0 (by omega))]; exact l1
  · exact World.cell?_setCell_same' w ⟨b, 1, none⟩ _ (by rw [m1]; rfl)
  · rw [World.cell?_setCell_other w _ _ _ (hne 2 (by omega))]; exact o1
/-- The nodes laid anew. -/
theorem RqAt.setL {w : World} {b : Nat} {r : RS} (h : RqAt w b r) (v : Value) (L : List Nd) (M : List Mn) (hv : w.ownsRow 0 84 10 v L.length (M.flatMap cellMn)) (hl : M.length = L.length) (hm : ∀ i (h : i < M.length) (h' : i < L.length), MnAt w M[i] L[i]) : RqAt (w.setCell ⟨b, 0, none⟩ v) b ⟨L, r.more, r.order⟩ := by
  obtain ⟨c, hc⟩ := h.blk
  obtain ⟨vl, M0, l1, l2, l3, l4⟩ := h.l
  obtain ⟨vm, m1, m2⟩ := h.more
  obtain ⟨vo, o1, o2⟩ := h.ord
  have hs : IsSl w ⟨b, 0, none⟩ := by
    rcases l2.2 with ⟨e, _⟩ | ⟨g, cap, cur, e, _⟩
    · exact ⟨_, _, _, by rw [l1, e]⟩
    · exact ⟨_, _, _, by rw [l1, e]⟩
  have hne : ∀ k, k ≠ 0 → (⟨b, 0, none⟩ : Addr) ≠ ⟨b, k, none⟩ := fun k hk e => by simp only [Addr.mk.injEq] at e; exact hk e.2.1.symm
  have hb : v.ownBlock ≠ some b := by
    rcases hv.2 with ⟨e, _⟩ | ⟨g, cap, cur, e, q, hg, _⟩
    · rw [e]; simp [Value.ownBlock]
    · rw [e]
      intro hh
      have hgb : g = b := by simpa [Value.ownBlock] using hh
      rw [hgb, hc] at hg
      simp at hg
  refine ⟨⟨_, heap_setCell_same _ _ _ _ hc⟩, ⟨v, M, ?_, owns_set hv b 0 hb v, hl, fun i h h' => (hm i h h').set hs v⟩, ⟨vm, ?_, m2.set hs v⟩, ⟨vo, ?_, o2.set hs v⟩⟩
  · exact World.cell?_setCell_same' w ⟨b, 0, none⟩ _ (by rw [l1]; rfl)
  · rw [World.cell?_setCell_other w _ _ _ (hne 1 (by omega))]; exact m1
  · rw [World.cell?_setCell_other w _ _ _ (hne 2 (by omega))]; exact o1
/-- One cell of one struct laid anew. -/
theorem flat_set {α : Type} (cf : α → List Value) (m : Nat) (hm : ∀ x, (cf x).length = m) : ∀ (L : List α) (i : Nat) (hi : i < L.length) (f : Nat) (hf : f < m) (y : Value) (x : α), cf x = (cf L[i]).set f y → (L.flatMap cf).set (i * m + f) y = (L.set i x).flatMap cf
  | a :: L, 0, _, f, hf, y, x, e => by
    have e' : cf x = (cf a).set f y := e
    rw [Nat.zero_mul, Nat.zero_add, List.flatMap_cons, List.set_append_left _ _ (by rw [hm]; exact hf), List.set_cons_zero, List.flatMap_cons, e']
  | a :: L, i + 1, hi, f, hf, y, x, e => by
    have ih := flat_set cf m hm L i (by simpa using hi) f hf y x e
    rw [List.flatMap_cons, List.set_append_right _ _ (by rw [hm, Nat.succ_mul]; omega), hm, show (i + 1) * m + f - m = i * m + f from by rw [Nat.succ_mul]; omega, ih, List.set_cons_succ, List.flatMap_cons]
/-- A node's children laid anew. -/
theorem RqAt.setLefts {w : World} {b : Nat} {r : RS} (h : RqAt w b r) (i : Nat) (hi : i < r.l.length) {g n cap : Nat} (hcell : w.cell? ⟨b, 0, none⟩ = some (.slice (some ⟨g, 0, none⟩) n cap)) (v : Value) (o : List Nat) (hv : SlJ w v (ints o)) :
    RqAt (w.setCell ⟨g, i * 10 + 8, none⟩ v) b ⟨r.l.modify i fun n => ⟨n.u, n.par, n.left, o, n.more⟩, r.more, r.order⟩ := by
  obtain ⟨ao', cap', h0, hx⟩ := h.nodes
  obtain ⟨g', eg, hcs⟩ := hx (by omega)
  rw [hcell, eg] at h0
  simp only [Option.some.injEq, Value.slice.injEq, Addr.mk.injEq] at h0
  obtain ⟨⟨rfl, -, -⟩, -, -⟩ := h0
  have hs : IsSl w ⟨g, i * 10 + 8, none⟩ := by
    obtain ⟨lv, k1, k2⟩ := (hcs i hi).c8
    obtain ⟨ao, cap, e, -⟩ := k2.shape
    exact ⟨ao, _, cap, by rw [k1, e]⟩
  obtain ⟨c, hc⟩ := h.blk
  obtain ⟨vl, M, l1, l2, l3, l4⟩ := h.l
  obtain ⟨vm, m1, m2⟩ := h.more
  obtain ⟨vo, o1, o2⟩ := h.ord
  have hiM : i < M.length := by omega
  have evl : vl = .slice (some ⟨g, 0, none⟩) n cap := by rw [hcell] at l1; exact (Option.some.inj l1).symm
  rcases l2.2 with ⟨e, h0⟩ | ⟨g', cap', cur, e, q0, hg, q1, q2, q3, q4⟩
  · omega
  rw [e] at evl
  simp only [Value.slice.injEq, Option.some.injEq, Addr.mk.injEq] at evl
  obtain ⟨⟨rfl, -, -⟩, -, -⟩ := evl
  have hbg : b ≠ g' := fun e => by
    rw [← e, hc] at hg
    simp at hg
  have hbk : (w.setCell ⟨g', i * 10 + 8, none⟩ v).heap[b]? = w.heap[b]? := Below.heap_setCell _ _ _ _ hbg
  have hcb : ∀ k, (w.setCell ⟨g', i * 10 + 8, none⟩ v).cell? ⟨b, k, none⟩ = w.cell? ⟨b, k, none⟩ := fun k => World.cell?_of_block hbk
  refine ⟨⟨c, hbk.trans hc⟩, ⟨vl, M.set i ⟨M[i].u, M[i].par, M[i].left, v, M[i].mv⟩, (hcb 0).trans l1, ⟨?_, .inr ⟨g', cap', cur.setIfInBounds (i * 10 + 8) v, ?_, q0, heap_setCell_same _ _ _ _ hg, ?_, q2, ?_, ?_⟩⟩, ?_, fun j h h' => ?_⟩, ⟨vm, (hcb 1).trans m1, m2.set hs v⟩, ⟨vo, (hcb 2).trans o1, o2.set hs v⟩⟩
  · rw [flat_len cellMn 10 cellMn_len, List.length_set, l3, List.length_modify]
  · rw [List.length_modify]; exact e
  · rw [List.length_modify]; exact q1
  · simpa using q3
  · rw [List.length_modify, Array.toList_setIfInBounds, List.take_set, q4]
    exact flat_set cellMn 10 cellMn_len M i hiM 8 (by omega) v _ rfl
  · rw [List.length_set, List.length_modify]; exact l3
  · have hj : j < M.length := by simpa using h
    have hj' : j < r.l.length := by omega
    have k := l4 j hj hj'
    by_cases hji : j = i
    · subst hji
      rw [List.getElem_set_self, List.getElem_modify_eq]
      exact ⟨k.u, k.par, k.left, hv.set hs v, k.more.set hs v⟩
    · have hij : ¬ i = j := fun e => hji e.symm
      rw [List.getElem_set_ne hij, List.getElem_modify, if_neg hij]
      exact k.set hs v
/-- A node's children laid anew. -/
theorem RqAt.setKids {w : World} {b : Nat} {r : RS} (h : RqAt w b r) (i : Nat) (hi : i < r.l.length) {g n cap : Nat} (hcell : w.cell? ⟨b, 0, none⟩ = some (.slice (some ⟨g, 0, none⟩) n cap)) (v : Value) (o : List Nat) (hv : SlJ w v (ints o)) :
    RqAt (w.setCell ⟨g, i * 10 + 9, none⟩ v) b ⟨r.l.modify i fun n => ⟨n.u, n.par, n.left, n.lefts, o⟩, r.more, r.order⟩ := by
  obtain ⟨ao', cap', h0, hx⟩ := h.nodes
  obtain ⟨g', eg, hcs⟩ := hx (by omega)
  rw [hcell, eg] at h0
  simp only [Option.some.injEq, Value.slice.injEq, Addr.mk.injEq] at h0
  obtain ⟨⟨rfl, -, -⟩, -, -⟩ := h0
  have hs : IsSl w ⟨g, i * 10 + 9, none⟩ := by
    obtain ⟨lv, k1, k2⟩ := (hcs i hi).c9
    obtain ⟨ao, cap, e, -⟩ := k2.shape
    exact ⟨ao, _, cap, by rw [k1, e]⟩
  obtain ⟨c, hc⟩ := h.blk
  obtain ⟨vl, M, l1, l2, l3, l4⟩ := h.l
  obtain ⟨vm, m1, m2⟩ := h.more
  obtain ⟨vo, o1, o2⟩ := h.ord
  have hiM : i < M.length := by omega
  have evl : vl = .slice (some ⟨g, 0, none⟩) n cap := by rw [hcell] at l1; exact (Option.some.inj l1).symm
  rcases l2.2 with ⟨e, h0⟩ | ⟨g', cap', cur, e, q0, hg, q1, q2, q3, q4⟩
  · omega
  rw [e] at evl
  simp only [Value.slice.injEq, Option.some.injEq, Addr.mk.injEq] at evl
  obtain ⟨⟨rfl, -, -⟩, -, -⟩ := evl
  have hbg : b ≠ g' := fun e => by
    rw [← e, hc] at hg
    simp at hg
  have hbk : (w.setCell ⟨g', i * 10 + 9, none⟩ v).heap[b]? = w.heap[b]? := Below.heap_setCell _ _ _ _ hbg
  have hcb : ∀ k, (w.setCell ⟨g', i * 10 + 9, none⟩ v).cell? ⟨b, k, none⟩ = w.cell? ⟨b, k, none⟩ := fun k => World.cell?_of_block hbk
  refine ⟨⟨c, hbk.trans hc⟩, ⟨vl, M.set i ⟨M[i].u, M[i].par, M[i].left, M[i].lv, v⟩, (hcb 0).trans l1, ⟨?_, .inr ⟨g', cap', cur.setIfInBounds (i * 10 + 9) v, ?_, q0, heap_setCell_same _ _ _ _ hg, ?_, q2, ?_, ?_⟩⟩, ?_, fun j h h' => ?_⟩, ⟨vm, (hcb 1).trans m1, m2.set hs v⟩, ⟨vo, (hcb 2).trans o1, o2.set hs v⟩⟩
  · rw [flat_len cellMn 10 cellMn_len, List.length_set, l3, List.length_modify]
  · rw [List.length_modify]; exact e
  · rw [List.length_modify]; exact q1
  · simpa using q3
  · rw [List.length_modify, Array.toList_setIfInBounds, List.take_set, q4]
    exact flat_set cellMn 10 cellMn_len M i hiM 9 (by omega) v _ rfl
  · rw [List.length_set, List.length_modify]; exact l3
  · have hj : j < M.length := by simpa using h
    have hj' : j < r.l.length := by omega
    have k := l4 j hj hj'
    by_cases hji : j = i
    · subst hji
      rw [List.getElem_set_self, List.getElem_modify_eq]
      exact ⟨k.u, k.par, k.left, k.lefts.set hs v, hv.set hs v⟩
    · have hij : ¬ i = j := fun e => hji e.symm
      rw [List.getElem_set_ne hij, List.getElem_modify, if_neg hij]
      exact k.set hs v
end Go.Proofs.Ytcolbgbmnmkogaa
