/- The document's tree of units (quireref9) in memory. -/
import Derived.Test.YtdnhoicfolkbnaaGreatPart26
import Derived.Test.YtdnhoicfolkbnaaGreatPart7
import Derived.Test.YtdnhoicfolkbnaaGreatPart11
namespace Go.Proofs.YtdnhoicfolkbnaaGreat
open Go.RowKit Go.Maps
set_option linter.unusedVariables false
set_option linter.unusedSimpArgs false
set_option maxRecDepth 100000

/-- Node numbers, as ints. -/
abbrev ints (l : List Nat) : List Int := l.map Int.ofNat
/-- A node's cells: its children's lists as slices. -/
structure Mn where
  u : Un
  par : Int
  left : Bool
  lv : Value
  mv : Value
def cellMn (n : Mn) : List Value := [u64 n.u.c, u64 n.u.k, u64 n.u.lc, u64 n.u.lk, u64 n.u.rc, u64 n.u.rk, iV n.par, .bool n.left, n.lv, n.mv]
theorem cellMn_len (n : Mn) : (cellMn n).length = 10 := rfl
structure MnAt (w : World) (m : Mn) (n : Nd) : Prop where
  u : m.u = n.u
  par : m.par = n.par
  left : m.left = n.left
  lefts : SlJ w m.lv (ints n.lefts)
  more : SlJ w m.mv (ints n.more)
theorem MnAt.keep {w w' : World} {m : Mn} {n : Nd} (h : MnAt w m n) (t : Touch (fun _ => False) w w') : MnAt w' m n := ⟨h.u, h.par, h.left, h.lefts.touch t, h.more.touch t⟩
/-- The tree lies in the block b. -/
structure RqAt (w : World) (b : Nat) (r : RS) : Prop where
  blk : ∃ c, w.heap[b]? = some (.cells c 75 (0, 0))
  l : ∃ (v : Value) (M : List Mn), w.cell? ⟨b, 0, none⟩ = some v ∧ w.ownsRow 0 98 10 v r.l.length (M.flatMap cellMn) ∧ M.length = r.l.length ∧ ∀ i (h : i < M.length) (h' : i < r.l.length), MnAt w M[i] r.l[i]
  more : ∃ v, w.cell? ⟨b, 1, none⟩ = some v ∧ SlJ w v (ints r.more)
  ord : ∃ v, w.cell? ⟨b, 2, none⟩ = some v ∧ SlJ w v (ints r.order)
theorem RqAt.keep {w w' : World} {b : Nat} {r : RS} (h : RqAt w b r) (t : Touch (fun _ => False) w w') : RqAt w' b r := by
  obtain ⟨c, hc⟩ := h.blk
  have hb := t.block b (lt_of_heap hc) id
  refine ⟨⟨c, hb.trans hc⟩, ?_, ?_, ?_⟩
  · obtain ⟨v, M, h1, h2, h3, h4⟩ := h.l
    refine ⟨v, M, (World.cell?_of_block hb).trans h1, ⟨h2.1, ?_⟩, h3, fun i h h' => (h4 i h h').keep t⟩
    rcases h2.2 with h | ⟨g, cap, cur, rfl, q, hg, r⟩
    · exact .inl h
    · exact .inr ⟨g, cap, cur, rfl, q, (t.block g (lt_of_heap hg) id).trans hg, r⟩
  · obtain ⟨v, h1, h2⟩ := h.more
    exact ⟨v, (World.cell?_of_block hb).trans h1, h2.touch t⟩
  · obtain ⟨v, h1, h2⟩ := h.ord
    exact ⟨v, (World.cell?_of_block hb).trans h1, h2.touch t⟩
theorem RqAt.lt {w : World} {b : Nat} {r : RS} (h : RqAt w b r) : b < w.heap.size := by
  obtain ⟨c, hc⟩ := h.blk
  exact lt_of_heap hc
abbrev qP (b : Nat) : Value := .pointer (some ⟨b, 0, none⟩)
/-- A node's cells. -/
structure NdCells (w : World) (g i : Nat) (n : Nd) : Prop where
  c0 : w.cell? ⟨g, i * 10, none⟩ = some (u64 n.u.c)
  c1 : w.cell? ⟨g, i * 10 + 1, none⟩ = some (u64 n.u.k)
  c2 : w.cell? ⟨g, i * 10 + 2, none⟩ = some (u64 n.u.lc)
  c3 : w.cell? ⟨g, i * 10 + 3, none⟩ = some (u64 n.u.lk)
  c4 : w.cell? ⟨g, i * 10 + 4, none⟩ = some (u64 n.u.rc)
  c5 : w.cell? ⟨g, i * 10 + 5, none⟩ = some (u64 n.u.rk)
  c6 : w.cell? ⟨g, i * 10 + 6, none⟩ = some (iV n.par)
  c7 : w.cell? ⟨g, i * 10 + 7, none⟩ = some (.bool n.left)
  c8 : ∃ v, w.cell? ⟨g, i * 10 + 8, none⟩ = some v ∧ SlJ w v (ints n.lefts)
  c9 : ∃ v, w.cell? ⟨g, i * 10 + 9, none⟩ = some v ∧ SlJ w v (ints n.more)
/-- The nodes' slice, and their cells. -/
theorem RqAt.nodes {w : World} {b : Nat} {r : RS} (h : RqAt w b r) : ∃ ao cap, w.cell? ⟨b, 0, none⟩ = some (.slice ao r.l.length cap) ∧ (0 < r.l.length → ∃ g, ao = some ⟨g, 0, none⟩ ∧ ∀ i, i < r.l.length → NdCells w g i (r.nd i)) := by
  obtain ⟨v, M, h1, h2, hl, h3⟩ := h.l
  rcases h2.2 with ⟨e, h0⟩ | ⟨g, cap, cur, e, q0, hg, q1, q2, q3, q4⟩
  · exact ⟨none, 0, by rw [h1, e, h0], fun h => by omega⟩
  · refine ⟨some ⟨g, 0, none⟩, cap, by rw [h1, e], fun _ => ⟨g, rfl, fun i hi => ?_⟩⟩
    have hi' : i < M.length := by omega
    have k := h3 i hi' hi
    have X : ∀ f v, f < 10 → (cellMn M[i])[f]? = some v → w.cell? ⟨g, i * 10 + f, none⟩ = some v := fun f v hf hv => by
      rw [cell_of_block hg, ← Array.getElem?_toList, ← hv, ← flat_get cellMn 10 cellMn_len M i hi' f hf, ← q4]
      refine (List.getElem?_take_of_lt ?_).symm
      omega
    rw [RS.nd_of hi]
    refine ⟨?_, ?_, ?_, ?_, ?_, ?_, ?_, ?_, ⟨_, X 8 _ (by omega) rfl, k.lefts⟩, ⟨_, X 9 _ (by omega) rfl, k.more⟩⟩
    · rw [← k.u]; exact X 0 _ (by omega) rfl
    · rw [← k.u]; exact X 1 _ (by omega) rfl
    · rw [← k.u]; exact X 2 _ (by omega) rfl
    · rw [← k.u]; exact X 3 _ (by omega) rfl
    · rw [← k.u]; exact X 4 _ (by omega) rfl
    · rw [← k.u]; exact X 5 _ (by omega) rfl
    · rw [← k.par]; exact X 6 _ (by omega) rfl
    · rw [← k.left]; exact X 7 _ (by omega) rfl
/-- A list of numbers, and its cells. -/
theorem SlJ.nums {w : World} {v : Value} {l : List Nat} (h : SlJ w v (ints l)) : ∃ ao cap, v = .slice ao l.length cap ∧ (0 < l.length → ∃ g o, ao = some ⟨g, o, none⟩ ∧ ∀ i (hi : i < l.length), w.cell? ⟨g, o + i, none⟩ = some (iV (l[i] : Int))) := by
  by_cases h0 : l = []
  · subst h0
    obtain ⟨ao, cap, e, _⟩ := h.shape
    exact ⟨ao, cap, e, fun h => by simp at h⟩
  · obtain ⟨g, o, cap, e, _, _, _, hx⟩ := h.row (by simpa using h0)
    refine ⟨some ⟨g, o, none⟩, cap, by simpa using e, fun _ => ⟨g, o, rfl, fun i hi => ?_⟩⟩
    have := hx i (by simpa using hi)
    simpa using this
end Go.Proofs.YtdnhoicfolkbnaaGreat

/- The document's tree of units (quireref9): one more node. -/
namespace Go.Proofs.YtdnhoicfolkbnaaGreat
open Go.RowKit Go.Maps
set_option linter.unusedVariables false
set_option linter.unusedSimpArgs false
set_option maxRecDepth 100000

theorem infoN : (Tryz.prog.info? 98).map (fun i => (i.zero, i.size, i.bytes)) = some (some (.agg #[u64 0, u64 0, u64 0, u64 0, u64 0, u64 0, iV 0, .bool false, .slice none 0 0, .slice none 0 0]), 10, 112) := by kernel_rfl
abbrev mnO (x : Mn) : Obj := .cells #[u64 x.u.c, u64 x.u.k, u64 x.u.lc, u64 x.u.lk, u64 x.u.rc, u64 x.u.rk, iV x.par, .bool x.left, x.lv, x.mv] 98
theorem cellsMn_one (x : Mn) (h1 : x.lv.oneCell' = true) (h2 : x.mv.oneCell' = true) : ∀ u ∈ [x].flatMap cellMn, u.oneCell' = true := by
  intro u hu
  simp only [List.flatMap_cons, List.flatMap_nil, List.append_nil, cellMn, List.mem_cons, List.not_mem_nil, or_false] at hu
  rcases hu with rfl | rfl | rfl | rfl | rfl | rfl | rfl | rfl | rfl | rfl <;> first | rfl | assumption
/-- An append to a slice of nodes that has no room: it lies anew. -/
theorem append_nd {w : World} {ao : Option Addr} {cap : Nat} {M : List Mn} (hown : w.ownsRow 0 98 10 (.slice ao M.length cap) M.length (M.flatMap cellMn)) (x : Mn) (h1 : x.lv.oneCell' = true) (h2 : x.mv.oneCell' = true) (hl : M.length ≤ 1073741824) :
    ∃ g' cap' w', (Builtin.append_ #[72, 72] 72 #[.slice ao M.length M.length, .slice (some ⟨w.heap.size, 0, none⟩) 1 1]).run Tryz.prog (w.alloc (mnO x)) = .ok (.slice (some ⟨g', 0, none⟩) (M.length + 1) cap') w' ∧
      w'.ownsRow 0 98 10 (.slice (some ⟨g', 0, none⟩) (M.length + 1) cap') (M.length + 1) ((M ++ [x]).flatMap cellMn) ∧ w.heap.size ≤ g' ∧ Touch (fun _ => False) w w' := by
  obtain ⟨i0, hi, hz0, hz1, hz2⟩ := info_parts infoN
  have hT : Touch (fun _ => False) w (w.alloc (mnO x)) := (Touch.refl _ _).alloc _
  have hcl : ∀ j u, ([x].flatMap cellMn)[j]? = some u → (w.alloc (mnO x)).cell? ((⟨w.heap.size, 0, none⟩ : Addr).add j) = some u := by
    intro j u hu
    rw [addr_addH, Nat.zero_add, cell_of_block (heap_alloc_new w (mnO x))]
    have : ([x].flatMap cellMn)[j]? = (#[u64 x.u.c, u64 x.u.k, u64 x.u.lc, u64 x.u.lk, u64 x.u.rc, u64 x.u.rk, iV x.par, .bool x.left, x.lv, x.mv] : Array Value)[j]? := by simp [cellMn]
    rw [← this]; exact hu
  have hlen1 : ([x].flatMap cellMn).length = 1 * 10 := flat_len cellMn 10 cellMn_len [x]
  rcases hown.2 with ⟨e, h0⟩ | ⟨g, cap', cur, e, _, hg, q1, q2, q3, q4⟩
  · have hM : M = [] := List.length_eq_zero_iff.1 h0
    subst hM
    simp only [Value.slice.injEq] at e
    obtain ⟨rfl, -, -⟩ := e
    obtain ⟨v', w', hrun, hown', hgr, _, hat⟩ := run_append_own_at (w.alloc (mnO x)) 0 72 72 98 i0 _ 10 112 Tryz.underlying72 hi hz0 hz1 hz2 rfl (by decide) (.slice none 0 0) 0 [] (World.ownsRow_nil _ _ _ _) ⟨w.heap.size, 0, none⟩ 1 1 ([x].flatMap cellMn) hlen1 hcl (cellsMn_one x h1 h2) (by unfold maxLen; omega) (by omega) (Nat.zero_le _)
    rcases hown'.2 with ⟨_, h9⟩ | ⟨g', cap', cur', rfl, r⟩
    · omega
    · refine ⟨g', cap', w', hrun, hown', ?_, hT.trans ⟨hgr.os, hgr.tape, hgr.output, hgr.size, fun k hk _ => hgr.block k hk (by simp [Value.ownBlock])⟩⟩
      have : g' = (w.alloc (mnO x)).heap.size := by simpa [Value.ownBlock] using hat
      have hs : (w.alloc (mnO x)).heap.size = w.heap.size + 1 := by simp
      omega
  · simp only [Value.slice.injEq] at e
    obtain ⟨rfl, -, rfl⟩ := e
    have hlt := lt_of_heap hg
    have hgA : (w.alloc (mnO x)).heap[g]? = some (.cells cur 98 (0, 0)) := by rw [Below.heap_alloc _ _ _ hlt]; exact hg
    have hlo : (M.flatMap cellMn).length = M.length * 10 := flat_len cellMn 10 cellMn_len M
    have holds : ∀ j u, (M.flatMap cellMn)[j]? = some u → (w.alloc (mnO x)).cell? ((⟨g, 0, none⟩ : Addr).add j) = some u := by
      intro j u hu
      rw [addr_addH, Nat.zero_add, cell_of_block hgA, ← Array.getElem?_toList]
      rw [← q4, List.getElem?_take] at hu
      split at hu
      · exact hu
      · cases hu
    have hr := run_append_grow (P := Tryz.prog) (w := w.alloc (mnO x)) 72 72 98 i0 _ Tryz.underlying72 hi hz0 ⟨g, 0, none⟩ M.length M.length (M.flatMap cellMn) (by rw [hz1]; exact hlo) holds ⟨w.heap.size, 0, none⟩ 1 1 ([x].flatMap cellMn) (by rw [hz1]; exact hlen1) hcl (by omega) (by omega) (growslice_fits (by omega) (by rw [hz2]; omega))
    have hge := grownCap_ge (w.alloc (mnO x)) (M.length + 1) M.length 98
    have hcm := grownCap_le_maxLen (w.alloc (mnO x)) (M.length + 1) M.length 98 (by unfold maxLen; omega)
    refine ⟨_, _, _, hr, ⟨by rw [flat_len cellMn 10 cellMn_len, List.length_append]; rfl, .inr ⟨_, _, _, rfl, Nat.zero_le _, heap_alloc_new _ _, hge, hcm, ?_, ?_⟩⟩, ?_, (hT.drew).alloc _⟩
    · simp only [Array.size_append, List.size_toArray, size_zeroCells, hlo, hlen1, ← Nat.add_mul]
      show (M.length + 1) * 10 + (grownCap (w.alloc (mnO x)) (M.length + 1) M.length 98 - (M.length + 1)) * 10 = _
      omega
    · simp only [Array.toList_append, List.append_assoc, List.flatMap_append]
      rw [← List.append_assoc, show (M.length + 1) * 10 = (M.flatMap cellMn ++ [x].flatMap cellMn).length from by rw [List.length_append, hlo, hlen1]; omega]
      exact List.take_left
    · simp
end Go.Proofs.YtdnhoicfolkbnaaGreat

/- The document's tree of units (quireref9): stores into its cells. -/
namespace Go.Proofs.YtdnhoicfolkbnaaGreat
open Go.RowKit Go.Maps
set_option linter.unusedVariables false
set_option linter.unusedSimpArgs false
set_option maxRecDepth 100000

/-- A cell that holds a slice. -/
def IsSl (w : World) (p : Addr) : Prop := ∃ ao n cap, w.cell? p = some (.slice ao n cap)
theorem typed_set {w : World} {b pb pi : Nat} {y : Value} {t : TypeId} (h : ∃ c, w.heap[b]? = some (.cells c t (0, 0))) : ∃ c, (w.setCell ⟨pb, pi, none⟩ y).heap[b]? = some (.cells c t (0, 0)) := by
  obtain ⟨c, h⟩ := h
  by_cases e : pb = b
  · subst e; exact ⟨_, heap_setCell_same _ _ _ _ h⟩
  · exact ⟨c, by rw [heap_setCell_other _ _ _ _ (by exact e)]; exact h⟩
/-- A store into a cell that holds a slice leaves ints alone. -/
theorem SlJ.set {w : World} {v : Value} {l : List Int} (h : SlJ w v l) {pb pi : Nat} (hp : IsSl w ⟨pb, pi, none⟩) (y : Value) : SlJ (w.setCell ⟨pb, pi, none⟩ y) v l := by
  obtain ⟨ao, cap, e, h1, h2, h3, h4⟩ := h
  refine ⟨ao, cap, e, h1, h2, h3, ?_⟩
  rcases h4 with h4 | ⟨b, o, e, hT, hx⟩
  · exact .inl h4
  · refine .inr ⟨b, o, e, typed_set hT, fun j u hu => ?_⟩
    have hc := hx j u hu
    have hu' : ∃ x : Int, u = .int .i64 x := by
      have hm := List.mem_of_getElem? hu
      obtain ⟨x, _, hx⟩ := List.mem_flatMap.1 hm
      simp only [cellJ, List.mem_cons, List.not_mem_nil, or_false] at hx
      exact ⟨x, hx⟩
    have hne : (⟨pb, pi, none⟩ : Addr) ≠ ⟨b, o + j, none⟩ := fun e => by
      obtain ⟨a, n, c, hs⟩ := hp
      obtain ⟨x, rfl⟩ := hu'
      rw [e, hc] at hs
      cases hs
    rw [World.cell?_setCell_other w _ _ _ hne]; exact hc
theorem MnAt.set {w : World} {m : Mn} {n : Nd} (h : MnAt w m n) {pb pi : Nat} (hp : IsSl w ⟨pb, pi, none⟩) (y : Value) : MnAt (w.setCell ⟨pb, pi, none⟩ y) m n := ⟨h.u, h.par, h.left, h.lefts.set hp y, h.more.set hp y⟩
theorem owns_set {w : World} {e m n : Nat} {v : Value} {xs : List Value} (h : w.ownsRow 0 e m v n xs) (b i : Nat) (hb : v.ownBlock ≠ some b) (y : Value) : (w.setCell ⟨b, i, none⟩ y).ownsRow 0 e m v n xs := by
  refine ⟨h.1, ?_⟩
  rcases h.2 with h | ⟨g, cap, cur, rfl, q, hg, r⟩
  · exact .inl h
  · refine .inr ⟨g, cap, cur, rfl, q, ?_, r⟩
    rw [Below.heap_setCell _ _ _ _ (fun e => hb (by rw [e]; rfl))]; exact hg
/-- The order laid anew. -/
theorem RqAt.setOrd {w : World} {b : Nat} {r : RS} (h : RqAt w b r) (v : Value) (o : List Nat) (hv : SlJ w v (ints o)) : RqAt (w.setCell ⟨b, 2, none⟩ v) b ⟨r.l, r.more, o⟩ := by
  obtain ⟨c, hc⟩ := h.blk
  obtain ⟨vl, M, l1, l2, l3, l4⟩ := h.l
  obtain ⟨vm, m1, m2⟩ := h.more
  obtain ⟨vo, o1, o2⟩ := h.ord
  have hs : IsSl w ⟨b, 2, none⟩ := by
    obtain ⟨ao, cap, e, -⟩ := o2.shape
    exact ⟨ao, _, cap, by rw [o1, e]⟩
  have hne : ∀ k, k ≠ 2 → (⟨b, 2, none⟩ : Addr) ≠ ⟨b, k, none⟩ := fun k hk e => by simp only [Addr.mk.injEq] at e; exact hk e.2.1.symm
  have hb : vl.ownBlock ≠ some b := by
    rcases l2.2 with ⟨e, _⟩ | ⟨g, cap, cur, e, q, hg, _⟩
    · rw [e]; simp [Value.ownBlock]
    · rw [e]
      intro hh
      have hgb : g = b := by simpa [Value.ownBlock] using hh
      rw [hgb, hc] at hg
      simp at hg
  refine ⟨⟨_, heap_setCell_same _ _ _ _ hc⟩, ⟨vl, M, ?_, owns_set l2 b 2 hb v, l3, fun i h h' => (l4 i h h').set hs v⟩, ⟨vm, ?_, m2.set hs v⟩, ⟨v, ?_, hv.set hs v⟩⟩
  · rw [World.cell?_setCell_other w _ _ _ (hne 0 (by omega))]; exact l1
  · rw [World.cell?_setCell_other w _ _ _ (hne 1 (by omega))]; exact m1
  · exact World.cell?_setCell_same' w ⟨b, 2, none⟩ _ (by rw [o1]; rfl)
/-- The root's children laid anew. -/
theorem RqAt.setMore {w : World} {b : Nat} {r : RS} (h : RqAt w b r) (v : Value) (o : List Nat) (hv : SlJ w v (ints o)) : RqAt (w.setCell ⟨b, 1, none⟩ v) b ⟨r.l, o, r.order⟩ := by
  obtain ⟨c, hc⟩ := h.blk
  obtain ⟨vl, M, l1, l2, l3, l4⟩ := h.l
  obtain ⟨vm, m1, m2⟩ := h.more
  obtain ⟨vo, o1, o2⟩ := h.ord
  have hs : IsSl w ⟨b, 1, none⟩ := by
    obtain ⟨ao, cap, e, -⟩ := m2.shape
    exact ⟨ao, _, cap, by rw [m1, e]⟩
  have hne : ∀ k, k ≠ 1 → (⟨b, 1, none⟩ : Addr) ≠ ⟨b, k, none⟩ := fun k hk e => by simp only [Addr.mk.injEq] at e; exact hk e.2.1.symm
  have hb : vl.ownBlock ≠ some b := by
    rcases l2.2 with ⟨e, _⟩ | ⟨g, cap, cur, e, q, hg, _⟩
    · rw [e]; simp [Value.ownBlock]
    · rw [e]
      intro hh
      have hgb : g = b := by simpa [Value.ownBlock] using hh
      rw [hgb, hc] at hg
      simp at hg
  refine ⟨⟨_, heap_setCell_same _ _ _ _ hc⟩, ⟨vl, M, ?_, owns_set l2 b 1 hb v, l3, fun i h h' => (l4 i h h').set hs v⟩, ⟨v, ?_, hv.set hs v⟩, ⟨vo, ?_, o2.set hs v⟩⟩
  · rw [World.cell?_setCell_other w _ _ _ (hne 0 (by omega))]; exact l1
  · exact World.cell?_setCell_same' w ⟨b, 1, none⟩ _ (by rw [m1]; rfl)
  · rw [World.cell?_setCell_other w _ _ _ (hne 2 (by omega))]; exact o1
/-- The nodes laid anew. -/
theorem RqAt.setL {w : World} {b : Nat} {r : RS} (h : RqAt w b r) (v : Value) (L : List Nd) (M : List Mn) (hv : w.ownsRow 0 98 10 v L.length (M.flatMap cellMn)) (hl : M.length = L.length) (hm : ∀ i (h : i < M.length) (h' : i < L.length), MnAt w M[i] L[i]) : RqAt (w.setCell ⟨b, 0, none⟩ v) b ⟨L, r.more, r.order⟩ := by
  obtain ⟨c, hc⟩ := h.blk
  obtain ⟨vl, M0, l1, l2, l3, l4⟩ := h.l
  obtain ⟨vm, m1, m2⟩ := h.more
  obtain ⟨vo, o1, o2⟩ := h.ord
  have hs : IsSl w ⟨b, 0, none⟩ := by
    rcases l2.2 with ⟨e, _⟩ | ⟨g, cap, cur, e, _⟩
    · exact ⟨_, _, _, by rw [l1, e]⟩
    · exact ⟨_, _, _, by rw [l1, e]⟩
  have hne : ∀ k, k ≠ 0 → (⟨b, 0, none⟩ : Addr) ≠ ⟨b, k, none⟩ := fun k hk e => by simp only [Addr.mk.injEq] at e; exact hk e.2.1.symm
  have hb : v.ownBlock ≠ some b := by
    rcases hv.2 with ⟨e, _⟩ | ⟨g, cap, cur, e, q, hg, _⟩
    · rw [e]; simp [Value.ownBlock]
    · rw [e]
      intro hh
      have hgb : g = b := by simpa [Value.ownBlock] using hh
      rw [hgb, hc] at hg
      simp at hg
  refine ⟨⟨_, heap_setCell_same _ _ _ _ hc⟩, ⟨v, M, ?_, owns_set hv b 0 hb v, hl, fun i h h' => (hm i h h').set hs v⟩, ⟨vm, ?_, m2.set hs v⟩, ⟨vo, ?_, o2.set hs v⟩⟩
  · exact World.cell?_setCell_same' w ⟨b, 0, none⟩ _ (by rw [l1]; rfl)
  · rw [World.cell?_setCell_other w _ _ _ (hne 1 (by omega))]; exact m1
  · rw [World.cell?_setCell_other w _ _ _ (hne 2 (by omega))]; exact o1
/-- One cell of one struct laid anew. -/
theorem flat_set {α : Type} (cf : α → List Value) (m : Nat) (hm : ∀ x, (cf x).length = m) : ∀ (L : List α) (i : Nat) (hi : i < L.length) (f : Nat) (hf : f < m) (y : Value) (x : α), cf x = (cf L[i]).set f y → (L.flatMap cf).set (i * m + f) y = (L.set i x).flatMap cf
  | a :: L, 0, _, f, hf, y, x, e => by
    have e' : cf x = (cf a).set f y := e
    rw [Nat.zero_mul, Nat.zero_add, List.flatMap_cons, List.set_append_left _ _ (by rw [hm]; exact hf), List.set_cons_zero, List.flatMap_cons, e']
  | a :: L, i + 1, hi, f, hf, y, x, e => by
    have ih := flat_set cf m hm L i (by simpa using hi) f hf y x e
    rw [List.flatMap_cons, List.set_append_right _ _ (by rw [hm, Nat.succ_mul]; omega), hm, show (i + 1) * m + f - m = i * m + f from by rw [Nat.succ_mul]; omega, ih, List.set_cons_succ, List.flatMap_cons]
/-- A node's children laid anew. -/
theorem RqAt.setLefts {w : World} {b : Nat} {r : RS} (h : RqAt w b r) (i : Nat) (hi : i < r.l.length) {g n cap : Nat} (hcell : w.cell? ⟨b, 0, none⟩ = some (.slice (some ⟨g, 0, none⟩) n cap)) (v : Value) (o : List Nat) (hv : SlJ w v (ints o)) :
    RqAt (w.setCell ⟨g, i * 10 + 8, none⟩ v) b ⟨r.l.modify i fun n => ⟨n.u, n.par, n.left, o, n.more⟩, r.more, r.order⟩ := by
  obtain ⟨ao', cap', h0, hx⟩ := h.nodes
  obtain ⟨g', eg, hcs⟩ := hx (by omega)
  rw [hcell, eg] at h0
  simp only [Option.some.injEq, Value.slice.injEq, Addr.mk.injEq] at h0
  obtain ⟨⟨rfl, -, -⟩, -, -⟩ := h0
  have hs : IsSl w ⟨g, i * 10 + 8, none⟩ := by
    obtain ⟨lv, k1, k2⟩ := (hcs i hi).c8
    obtain ⟨ao, cap, e, -⟩ := k2.shape
    exact ⟨ao, _, cap, by rw [k1, e]⟩
  obtain ⟨c, hc⟩ := h.blk
  obtain ⟨vl, M, l1, l2, l3, l4⟩ := h.l
  obtain ⟨vm, m1, m2⟩ := h.more
  obtain ⟨vo, o1, o2⟩ := h.ord
  have hiM : i < M.length := by omega
  have evl : vl = .slice (some ⟨g, 0, none⟩) n cap := by rw [hcell] at l1; exact (Option.some.inj l1).symm
  rcases l2.2 with ⟨e, h0⟩ | ⟨g', cap', cur, e, q0, hg, q1, q2, q3, q4⟩
  · omega
  rw [e] at evl
  simp only [Value.slice.injEq, Option.some.injEq, Addr.mk.injEq] at evl
  obtain ⟨⟨rfl, -, -⟩, -, -⟩ := evl
  have hbg : b ≠ g' := fun e => by
    rw [← e, hc] at hg
    simp at hg
  have hbk : (w.setCell ⟨g', i * 10 + 8, none⟩ v).heap[b]? = w.heap[b]? := Below.heap_setCell _ _ _ _ hbg
  have hcb : ∀ k, (w.setCell ⟨g', i * 10 + 8, none⟩ v).cell? ⟨b, k, none⟩ = w.cell? ⟨b, k, none⟩ := fun k => World.cell?_of_block hbk
  refine ⟨⟨c, hbk.trans hc⟩, ⟨vl, M.set i ⟨M[i].u, M[i].par, M[i].left, v, M[i].mv⟩, (hcb 0).trans l1, ⟨?_, .inr ⟨g', cap', cur.setIfInBounds (i * 10 + 8) v, ?_, q0, heap_setCell_same _ _ _ _ hg, ?_, q2, ?_, ?_⟩⟩, ?_, fun j h h' => ?_⟩, ⟨vm, (hcb 1).trans m1, m2.set hs v⟩, ⟨vo, (hcb 2).trans o1, o2.set hs v⟩⟩
  · rw [flat_len cellMn 10 cellMn_len, List.length_set, l3, List.length_modify]
  · rw [List.length_modify]; exact e
  · rw [List.length_modify]; exact q1
  · simpa using q3
  · rw [List.length_modify, Array.toList_setIfInBounds, List.take_set, q4]
    exact flat_set cellMn 10 cellMn_len M i hiM 8 (by omega) v _ rfl
  · rw [List.length_set, List.length_modify]; exact l3
  · have hj : j < M.length := by simpa using h
    have hj' : j < r.l.length := by omega
    have k := l4 j hj hj'
    by_cases hji : j = i
    · subst hji
      rw [List.getElem_set_self, List.getElem_modify_eq]
      exact ⟨k.u, k.par, k.left, hv.set hs v, k.more.set hs v⟩
    · have hij : ¬ i = j := fun e => hji e.symm
      rw [List.getElem_set_ne hij, List.getElem_modify, if_neg hij]
      exact k.set hs v
/-- A node's children laid anew. -/
theorem RqAt.setKids {w : World} {b : Nat} {r : RS} (h : RqAt w b r) (i : Nat) (hi : i < r.l.length) {g n cap : Nat} (hcell : w.cell? ⟨b, 0, none⟩ = some (.slice (some ⟨g, 0, none⟩) n cap)) (v : Value) (o : List Nat) (hv : SlJ w v (ints o)) :
    RqAt (w.setCell ⟨g, i * 10 + 9, none⟩ v) b ⟨r.l.modify i fun n => ⟨n.u, n.par, n.left, n.lefts, o⟩, r.more, r.order⟩ := by
  obtain ⟨ao', cap', h0, hx⟩ := h.nodes
  obtain ⟨g', eg, hcs⟩ := hx (by omega)
  rw [hcell, eg] at h0
  simp only [Option.some.injEq, Value.slice.injEq, Addr.mk.injEq] at h0
  obtain ⟨⟨rfl, -, -⟩, -, -⟩ := h0
  have hs : IsSl w ⟨g, i * 10 + 9, none⟩ := by
    obtain ⟨lv, k1, k2⟩ := (hcs i hi).c9
    obtain ⟨ao, cap, e, -⟩ := k2.shape
    exact ⟨ao, _, cap, by rw [k1, e]⟩
  obtain ⟨c, hc⟩ := h.blk
  obtain ⟨vl, M, l1, l2, l3, l4⟩ := h.l
  obtain ⟨vm, m1, m2⟩ := h.more
  obtain ⟨vo, o1, o2⟩ := h.ord
  have hiM : i < M.length := by omega
  have evl : vl = .slice (some ⟨g, 0, none⟩) n cap := by rw [hcell] at l1; exact (Option.some.inj l1).symm
  rcases l2.2 with ⟨e, h0⟩ | ⟨g', cap', cur, e, q0, hg, q1, q2, q3, q4⟩
  · omega
  rw [e] at evl
  simp only [Value.slice.injEq, Option.some.injEq, Addr.mk.injEq] at evl
  obtain ⟨⟨rfl, -, -⟩, -, -⟩ := evl
  have hbg : b ≠ g' := fun e => by
    rw [← e, hc] at hg
    simp at hg
  have hbk : (w.setCell ⟨g', i * 10 + 9, none⟩ v).heap[b]? = w.heap[b]? := Below.heap_setCell _ _ _ _ hbg
  have hcb : ∀ k, (w.setCell ⟨g', i * 10 + 9, none⟩ v).cell? ⟨b, k, none⟩ = w.cell? ⟨b, k, none⟩ := fun k => World.cell?_of_block hbk
  refine ⟨⟨c, hbk.trans hc⟩, ⟨vl, M.set i ⟨M[i].u, M[i].par, M[i].left, M[i].lv, v⟩, (hcb 0).trans l1, ⟨?_, .inr ⟨g', cap', cur.setIfInBounds (i * 10 + 9) v, ?_, q0, heap_setCell_same _ _ _ _ hg, ?_, q2, ?_, ?_⟩⟩, ?_, fun j h h' => ?_⟩, ⟨vm, (hcb 1).trans m1, m2.set hs v⟩, ⟨vo, (hcb 2).trans o1, o2.set hs v⟩⟩
  · rw [flat_len cellMn 10 cellMn_len, List.length_set, l3, List.length_modify]
  · rw [List.length_modify]; exact e
  · rw [List.length_modify]; exact q1
  · simpa using q3
  · rw [List.length_modify, Array.toList_setIfInBounds, List.take_set, q4]
    exact flat_set cellMn 10 cellMn_len M i hiM 9 (by omega) v _ rfl
  · rw [List.length_set, List.length_modify]; exact l3
  · have hj : j < M.length := by simpa using h
    have hj' : j < r.l.length := by omega
    have k := l4 j hj hj'
    by_cases hji : j = i
    · subst hji
      rw [List.getElem_set_self, List.getElem_modify_eq]
      exact ⟨k.u, k.par, k.left, k.lefts.set hs v, hv.set hs v⟩
    · have hij : ¬ i = j := fun e => hji e.symm
      rw [List.getElem_set_ne hij, List.getElem_modify, if_neg hij]
      exact k.set hs v
end Go.Proofs.YtdnhoicfolkbnaaGreat
