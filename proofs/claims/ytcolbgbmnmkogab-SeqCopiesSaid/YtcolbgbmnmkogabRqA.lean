/- The document's tree of units (quireref9) in memory. -/
import Derived.Test.YtcolbgbmnmkogabRqM
import Derived.Test.YtcolbgbmnmkogabRowJ
import Derived.Test.YtcolbgbmnmkogabSeqA
namespace Go.Proofs.Ytcolbgbmnmkogab
open Go.RowKit Go.Maps
set_option linter.unusedVariables false
set_option linter.unusedSimpArgs false
set_option maxRecDepth 100000

/-- Node numbers, as ints. -/
abbrev ints (l : List Nat) : List Int := l.map Int.ofNat
/-- A node's cells: its children's lists as slices. -/
structure Mn where
  u : Un
  par : Int
  left : Bool
  lv : Value
  mv : Value
def cellMn (n : Mn) : List Value := [u64 n.u.c, u64 n.u.k, u64 n.u.lc, u64 n.u.lk, u64 n.u.rc, u64 n.u.rk, iV n.par, .bool n.left, n.lv, n.mv]
theorem cellMn_len (n : Mn) : (cellMn n).length = 10 := rfl
structure MnAt (w : World) (m : Mn) (n : Nd) : Prop where
  u : m.u = n.u
  par : m.par = n.par
  left : m.left = n.left
  lefts : SlJ w m.lv (ints n.lefts)
  more : SlJ w m.mv (ints n.more)
theorem MnAt.keep {w w' : World} {m : Mn} {n : Nd} (h : MnAt w m n) (t : Touch (fun _ => False) w w') : MnAt w' m n := ⟨h.u, h.par, h.left, h.lefts.touch t, h.more.touch t⟩
/-- The tree lies in the block b. -/
structure RqAt (w : World) (b : Nat) (r : RS) : Prop where
  blk : ∃ c, w.heap[b]? = some (.cells c 62 (0, 0))
  l : ∃ (v : Value) (M : List Mn), w.cell? ⟨b, 0, none⟩ = some v ∧ w.ownsRow 0 84 10 v r.l.length (M.flatMap cellMn) ∧ M.length = r.l.length ∧ ∀ i (h : i < M.length) (h' : i < r.l.length), MnAt w M[i] r.l[i]
  more : ∃ v, w.cell? ⟨b, 1, none⟩ = some v ∧ SlJ w v (ints r.more)
  ord : ∃ v, w.cell? ⟨b, 2, none⟩ = some v ∧ SlJ w v (ints r.order)
theorem RqAt.keep {w w' : World} {b : Nat} {r : RS} (h : RqAt w b r) (t : Touch (fun _ => False) w w') : RqAt w' b r := by
  obtain ⟨c, hc⟩ := h.blk
  have hb := t.block b (lt_of_heap hc) id
  refine ⟨⟨c, hb.trans hc⟩, ?_, ?_, ?_⟩
  · obtain ⟨v, M, h1, h2, h3, h4⟩ := h.l
    refine ⟨v, M, (World.cell?_of_block hb).trans h1, ⟨h2.1, ?_⟩, h3, fun i h h' => (h4 i h h').keep t⟩
    rcases h2.2 with h | ⟨g, cap, cur, rfl, q, hg, r⟩
    · exact .inl h
    · exact .inr ⟨g, cap, cur, rfl, q, (t.block g (lt_of_heap hg) id).trans hg, r⟩
  · obtain ⟨v, h1, h2⟩ := h.more
    exact ⟨v, (World.cell?_of_block hb).trans h1, h2.touch t⟩
  · obtain ⟨v, h1, h2⟩ := h.ord
    exact ⟨v, (World.cell?_of_block hb).trans h1, h2.touch t⟩
theorem RqAt.lt {w : World} {b : Nat} {r : RS} (h : RqAt w b r) : b < w.heap.size := by
  obtain ⟨c, hc⟩ := h.blk
  exact lt_of_heap hc
abbrev qP (b : Nat) : Value := .pointer (some ⟨b, 0, none⟩)
/-- A node's cells. -/
structure NdCells (w : World) (g i : Nat) (n : Nd) : Prop where
  c0 : w.cell? ⟨g, i * 10, none⟩ = some (u64 n.u.c)
  c1 : w.cell? ⟨g, i * 10 + 1, none⟩ = some (u64 n.u.k)
  c2 : w.cell? ⟨g, i * 10 + 2, none⟩ = some (u64 n.u.lc)
  c3 : w.cell? ⟨g, i * 10 + 3, none⟩ = some (u64 n.u.lk)
  c4 : w.cell? ⟨g, i * 10 + 4, none⟩ = some (u64 n.u.rc)
  c5 : w.cell? ⟨g, i * 10 + 5, none⟩ = some (u64 n.u.rk)
  c6 : w.cell? ⟨g, i * 10 + 6, none⟩ = some (iV n.par)
  c7 : w.cell? ⟨g, i * 10 + 7, none⟩ = some (.bool n.left)
  c8 : ∃ v, w.cell? ⟨g, i * 10 + 8, none⟩ = some v ∧ SlJ w v (ints n.lefts)
  c9 : ∃ v, w.cell? ⟨g, i * 10 + 9, none⟩ = some v ∧ SlJ w v (ints n.more)
/-- The nodes' slice, and their cells. -/
theorem RqAt.nodes {w : World} {b : Nat} {r : RS} (h : RqAt w b r) : ∃ ao cap, w.cell? ⟨b, 0, none⟩ = some (.slice ao r.l.length cap) ∧ (0 < r.l.length → ∃ g, ao = some ⟨g, 0, none⟩ ∧ ∀ i, i < r.l.length → NdCells w g i (r.nd i)) := by
  obtain ⟨v, M, h1, h2, hl, h3⟩ := h.l
  rcases h2.2 with ⟨e, h0⟩ | ⟨g, cap, cur, e, q0, hg, q1, q2, q3, q4⟩
  · exact ⟨none, 0, by rw [h1, e, h0], fun h => by omega⟩
  · refine ⟨some ⟨g, 0, none⟩, cap, by rw [h1, e], fun _ => ⟨g, rfl, fun i hi => ?_⟩⟩
    have hi' : i < M.length := by omega
    have k := h3 i hi' hi
    have X : ∀ f v, f < 10 → (cellMn M[i])[f]? = some v → w.cell? ⟨g, i * 10 + f, none⟩ = some v := fun f v hf hv => by
      rw [cell_of_block hg, ← Array.getElem?_toList, ← hv, ← flat_get cellMn 10 cellMn_len M i hi' f hf, ← q4]
      refine (List.getElem?_take_of_lt ?_).symm
      omega
    rw [RS.nd_of hi]
    refine ⟨?_, ?_, ?_, ?_, ?_, ?_, ?_, ?_, ⟨_, X 8 _ (by omega) rfl, k.lefts⟩, ⟨_, X 9 _ (by omega) rfl, k.more⟩⟩
    · rw [← k.u]; exact X 0 _ (by omega) rfl
    · rw [← k.u]; exact X 1 _ (by omega) rfl
    · rw [← k.u]; exact X 2 _ (by omega) rfl
    · rw [← k.u]; exact X 3 _ (by omega) rfl
    · rw [← k.u]; exact X 4 _ (by omega) rfl
    · rw [← k.u]; exact X 5 _ (by omega) rfl
    · rw [← k.par]; exact X 6 _ (by omega) rfl
    · rw [← k.left]; exact X 7 _ (by omega) rfl
/-- A list of numbers, and its cells. -/
theorem SlJ.nums {w : World} {v : Value} {l : List Nat} (h : SlJ w v (ints l)) : ∃ ao cap, v = .slice ao l.length cap ∧ (0 < l.length → ∃ g o, ao = some ⟨g, o, none⟩ ∧ ∀ i (hi : i < l.length), w.cell? ⟨g, o + i, none⟩ = some (iV (l[i] : Int))) := by
  by_cases h0 : l = []
  · subst h0
    obtain ⟨ao, cap, e, _⟩ := h.shape
    exact ⟨ao, cap, e, fun h => by simp at h⟩
  · obtain ⟨g, o, cap, e, _, _, _, hx⟩ := h.row (by simpa using h0)
    refine ⟨some ⟨g, o, none⟩, cap, by simpa using e, fun _ => ⟨g, o, rfl, fun i hi => ?_⟩⟩
    have := hx i (by simpa using hi)
    simpa using this
end Go.Proofs.Ytcolbgbmnmkogab
