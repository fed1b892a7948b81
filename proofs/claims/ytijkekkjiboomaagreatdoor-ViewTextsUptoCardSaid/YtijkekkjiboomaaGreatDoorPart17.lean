/- Views: rows of runs of our own, with their marks; beside a Builder. -/
import Derived.Test.YtijkekkjiboomaaGreatDoorVw4
import Derived.Test.YtijkekkjiboomaaGreatDoorPart16
namespace Go.Proofs.YtijkekkjiboomaaGreatDoor
open Go.RowKit Go.Maps
set_option linter.unusedVariables false
set_option linter.unusedSimpArgs false
set_option maxRecDepth 100000

/-- A row of runs of our own, above n0. -/
structure OutW (n0 : Nat) (w : World) (v : Value) (l : List Rw) : Prop where
  owns : w.ownsRow 0 48 7 v l.length (cellsW l)
  fresh : ∀ k, v.ownBlock = some k → n0 ≤ k
theorem OutW.nil (n0 : Nat) (w : World) : OutW n0 w (.slice none 0 0) [] := ⟨World.ownsRow_nil _ _ _ _, fun k hk => by simp [Value.ownBlock] at hk⟩
theorem OutW.same {n0 : Nat} {w w' : World} {v : Value} {l : List Rw} (h : OutW n0 w v l) (k : ∀ g cur, v.ownBlock = some g → w.heap[g]? = some (.cells cur 48 (0, 0)) → w'.heap[g]? = some (.cells cur 48 (0, 0))) : OutW n0 w' v l := by
  refine ⟨⟨h.owns.1, ?_⟩, h.fresh⟩
  rcases h.owns.2 with e | ⟨g, cap, cur, rfl, hb, hg, r⟩
  · exact .inl e
  · exact .inr ⟨g, cap, cur, rfl, hb, k g cur rfl hg, r⟩
theorem OutW.touch {n0 : Nat} {w w' : World} {v : Value} {l : List Rw} (h : OutW n0 w v l) (t : Touch (fun _ => False) w w') : OutW n0 w' v l := h.same fun g cur _ hg => (t.block g (lt_of_heap hg) id).trans hg
theorem keepB_cells {B b k : Nat} {by0 : List UInt8} {w w' : World} {cur : Array Value} {T : TypeId} (hT : T ≠ 60) (hU : T ≠ 5) (h : w.heap[k]? = some (.cells cur T (0, 0))) (hb : BldF B b by0 w) (t : BKeep B b w w') : w'.heap[k]? = some (.cells cur T (0, 0)) := by
  refine t.others k _ h (fun e => ?_) (fun c fz e => ?_)
  · obtain ⟨p, x, hx⟩ := BldF.block hb
    simp only [Option.some.injEq] at e
    rw [e, hx] at h
    simp only [Option.some.injEq, Obj.cells.injEq] at h
    exact hT h.2.1.symm
  · simp only [Obj.cells.injEq] at e
    exact hU e.2.1
/-- A Builder stands, whatever is done to rows of runs. -/
theorem BldF.rowsW {B b : Nat} {l : List UInt8} {w w' : World} (h : BldF B b l w) (k : Go.Lib.OthersKept 48 none w w') : BldF B b l w' := by
  have hg : ∀ p, Go.Lib.BuilderAtF 60 5 B b p (Go.Lib.byteCells l) w → Go.Lib.BuilderAtF 60 5 B b p (Go.Lib.byteCells l) w' := by
    rintro p ⟨hB, v, hb, hown, hne⟩
    refine ⟨hB, v, k b _ hb (by simp) (fun c fz e => by simp at e), ⟨hown.1, ?_⟩, hne⟩
    rcases hown.2 with h | ⟨g, cap, cur, fz, rfl, hbg, hgg, r⟩
    · exact .inl h
    · exact .inr ⟨g, cap, cur, fz, rfl, hbg, k g _ hgg (by simp) (fun c fz e => by simp at e), r⟩
  rcases h with h | h
  · exact .inl (hg _ h)
  · exact .inr (hg _ h)
theorem OutW.shape {n0 : Nat} {w : World} {v : Value} {l : List Rw} (h : OutW n0 w v l) : ∃ ao cap, v = .slice ao l.length cap ∧ (0 < l.length → ∃ g, ao = some ⟨g, 0, none⟩ ∧ n0 ≤ g ∧ ∃ cur, w.heap[g]? = some (.cells cur 48 (0, 0)) ∧ l.length * 7 ≤ cur.size) := by
  rcases h.owns.2 with ⟨e, h0⟩ | ⟨g, cap, cur, e, hb, hg, q1, q2, q3, q4⟩
  · exact ⟨none, 0, by rw [e, h0], fun h => by omega⟩
  · exact ⟨_, cap, e, fun _ => ⟨g, rfl, h.fresh g (by rw [e]; rfl), cur, hg, by rw [q3]; exact Nat.mul_le_mul_right _ q1⟩⟩
/-- An append of one, out of a new block. -/
theorem OutW.app1 {n0 : Nat} {wx : World} {v : Value} {a : List Rw} (h : OutW n0 wx v a) (hn : n0 ≤ wx.heap.size) (r : Rw) (hlen : a.length ≤ 1073741824) :
    ∃ v' w', (Builtin.append_ #[22, 22] 22 #[v, .slice (some ⟨wx.heap.size, 0, none⟩) 1 1]).run Tryz.prog (wx.alloc (rwO r)) = .ok v' w' ∧ OutW n0 w' v' (a ++ [r]) ∧ (∀ k, k < wx.heap.size → v.ownBlock ≠ some k → w'.heap[k]? = wx.heap[k]?) ∧ Go.Lib.OthersKept 48 none wx w' ∧ (∀ B, B ≤ n0 → Below B wx w') ∧ wx.heap.size ≤ w'.heap.size := by
  have t : Touch (fun _ => False) wx (wx.alloc (rwO r)) := (Touch.refl _ _).alloc _
  obtain ⟨v', w', hr, ho, hg, hb⟩ := run_appendW (wx.alloc (rwO r)) v a (h.touch t).owns (some ⟨wx.heap.size, 0, none⟩) 1 1 [r] rfl (fun h => by cases h) (LiesW.new wx r) (by simp; omega)
  have hold : ∀ k, k < wx.heap.size → v.ownBlock ≠ some k → w'.heap[k]? = wx.heap[k]? := fun k hk hne => by
    rw [hg.block k (by simp; omega) (fun e => hne e.symm)]
    exact Below.heap_alloc _ _ _ hk
  refine ⟨v', w', hr, ⟨ho, fun k hk => ?_⟩, hold, fun k o hk _ hx => ?_, fun B hB => ?_, ?_⟩
  · rcases hb with e | e
    · exact h.fresh k (e ▸ hk)
    · rw [hk] at e; simp at e; omega
  · rw [hold k (lt_of_heap hk) (fun e => ?_)]
    · exact hk
    · rcases h.owns.2 with ⟨e', _⟩ | ⟨g, cap, cur, e', _, hgg, _⟩
      · rw [e'] at e; simp [Value.ownBlock] at e
      · rw [e'] at e
        simp only [Value.ownBlock, Option.some.injEq] at e
        subst e
        rw [hk] at hgg
        exact hx _ _ (Option.some.inj hgg)
  · refine ⟨hg.os, hg.tape, hg.output, Nat.le_trans (by simp) hg.size, fun k hk => hold k (by omega) (fun e => ?_)⟩
    have := h.fresh k e
    omega
  · exact Nat.le_trans (by simp) hg.size
abbrev Rw.text (r : Rw) (tx : ByteArray) : Rw := ⟨tx, r.em, r.vk, r.vn, r.vf, r.vs, r.ms⟩
theorem cellsW_text (init : List Rw) (last : Rw) (tx : ByteArray) : (cellsW (init ++ [last])).set (init.length * 7) (.string tx) = cellsW (init ++ [last.text tx]) := by
  rw [cellsW_append, cellsW_append, List.set_append_right _ _ (by rw [cellsW_len]; omega), cellsW_len, Nat.sub_self]
  rfl
/-- The last one's text laid anew. -/
theorem OutW.setText {n0 : Nat} {w : World} {init : List Rw} {last : Rw} {g cap : Nat} (h : OutW n0 w (.slice (some ⟨g, 0, none⟩) (init ++ [last]).length cap) (init ++ [last])) (tx : ByteArray) :
    OutW n0 (w.setCell ⟨g, init.length * 7, none⟩ (.string tx)) (.slice (some ⟨g, 0, none⟩) (init ++ [last]).length cap) (init ++ [last.text tx]) := by
  have hl : (init ++ [last.text tx]).length = (init ++ [last]).length := by simp
  refine ⟨?_, h.fresh⟩
  rcases h.owns.2 with ⟨e, _⟩ | ⟨g', cap', cur, e, hb, hg, q1, q2, q3, q4⟩
  · simp at e
  · simp only [Value.slice.injEq, Option.some.injEq, Addr.mk.injEq] at e
    obtain ⟨⟨rfl, _, _⟩, _, rfl⟩ := e
    rw [hl]
    refine ⟨by rw [cellsW_len, hl], .inr ⟨g, cap, cur.setIfInBounds (init.length * 7) (.string tx), rfl, hb, heap_setCell_same _ _ _ _ hg, q1, q2, by simpa using q3, ?_⟩⟩
    rw [← cellsW_text, ← q4, Array.toList_setIfInBounds, List.take_set]
theorem others_setW {w : World} {g i : Nat} {cur : Array Value} {x : Value} (h : w.heap[g]? = some (.cells cur 48 (0, 0))) : Go.Lib.OthersKept 48 none w (w.setCell ⟨g, i, none⟩ x) := fun k o hk _ hx => by
  rw [Below.heap_setCell _ _ _ _ (fun e => ?_)]
  · exact hk
  · simp only at e
    subst e
    rw [hk] at h
    exact hx _ _ (Option.some.inj h)
theorem bytes_app (a b : ByteArray) : (⟨(a.data.toList ++ b.data.toList).toArray⟩ : ByteArray) = a ++ b := by
  apply ByteArray.ext
  apply Array.ext'
  simp [ByteArray.data_append]
/-- Marks of our own. -/
structure OwnM (n0 : Nat) (w : World) (v : Value) (l : List Mk) : Prop where
  owns : w.ownsRow 0 45 5 v l.length (cellsY l)
  fresh : ∀ k, v.ownBlock = some k → n0 ≤ k
theorem OwnM.same {n0 : Nat} {w w' : World} {v : Value} {l : List Mk} (h : OwnM n0 w v l) (k : ∀ (g : Nat) (cur : Array Value), w.heap[g]? = some (.cells cur 45 (0, 0)) → w'.heap[g]? = some (.cells cur 45 (0, 0))) : OwnM n0 w' v l := by
  refine ⟨⟨h.owns.1, ?_⟩, h.fresh⟩
  rcases h.owns.2 with e | ⟨g, cap, cur, rfl, hb, hg, r⟩
  · exact .inl e
  · exact .inr ⟨g, cap, cur, rfl, hb, k g cur hg, r⟩
theorem OwnM.sl {n0 : Nat} {w : World} {v : Value} {l : List Mk} (h : OwnM n0 w v l) : SlY w v l := by
  rcases h.owns.2 with ⟨e, h0⟩ | ⟨g, cap, cur, e, hb, hg, q1, q2, q3, q4⟩
  · have : l = [] := List.length_eq_zero_iff.1 (by omega)
    subst this
    rw [e]; exact SlY.nil w
  · refine ⟨_, cap, e, (fun h => by cases h), q1, q2, .inr ⟨g, 0, rfl, fun j u hu => ?_⟩⟩
    rw [← q4, List.getElem?_take] at hu
    split at hu
    · rw [cell_of_block hg, Nat.zero_add, ← Array.getElem?_toList]; exact hu
    · cases hu
theorem OutW.sl {n0 : Nat} {w : World} {v : Value} {l : List Rw} (h : OutW n0 w v l) : SlW w v l := by
  rcases h.owns.2 with ⟨e, h0⟩ | ⟨g, cap, cur, e, hb, hg, q1, q2, q3, q4⟩
  · have : l = [] := List.length_eq_zero_iff.1 (by omega)
    subst this
    rw [e]; exact SlW.nil w
  · refine ⟨_, cap, e, (fun h => by cases h), q1, q2, .inr ⟨g, 0, rfl, fun j u hu => ?_⟩⟩
    rw [← q4, List.getElem?_take] at hu
    split at hu
    · rw [cell_of_block hg, Nat.zero_add, ← Array.getElem?_toList]; exact hu
    · cases hu
/-- What lies as r is the run x, its marks our own. -/
structure MtO (n0 : Nat) (w : World) (r : Rw) (x : Rn) : Prop where
  tx : r.tx = x.tx
  em : r.em = x.em
  v : r.vv = x.v
  ml : OwnM n0 w r.ms.val x.ml
def AllO (n0 : Nat) (w : World) : List Rw → List Rn → Prop
  | [], [] => True
  | r :: raw, x :: L => MtO n0 w r x ∧ AllO n0 w raw L
  | [], _ :: _ => False
  | _ :: _, [] => False
theorem AllO.len {n0 : Nat} {w : World} : ∀ {raw : List Rw} {L : List Rn}, AllO n0 w raw L → raw.length = L.length
  | [], [], _ => rfl
  | r :: raw, x :: L, h => by rw [List.length_cons, List.length_cons, AllO.len h.2]
theorem AllO.mono {n0 : Nat} {w w' : World} (k : ∀ (g : Nat) (cur : Array Value), w.heap[g]? = some (.cells cur 45 (0, 0)) → w'.heap[g]? = some (.cells cur 45 (0, 0))) : ∀ {raw : List Rw} {L : List Rn}, AllO n0 w raw L → AllO n0 w' raw L
  | [], [], _ => trivial
  | r :: raw, x :: L, h => ⟨⟨h.1.tx, h.1.em, h.1.v, h.1.ml.same k⟩, AllO.mono k h.2⟩
theorem AllO.mt {n0 : Nat} {w : World} : ∀ {raw : List Rw} {L : List Rn}, AllO n0 w raw L → AllMt w raw L
  | [], [], _ => trivial
  | r :: raw, x :: L, h => ⟨⟨h.1.tx, h.1.em, h.1.v, h.1.ml.sl⟩, AllO.mt h.2⟩
theorem AllO.append {n0 : Nat} {w : World} : ∀ {a : List Rw} {A : List Rn} {b : List Rw} {B : List Rn}, AllO n0 w a A → AllO n0 w b B → AllO n0 w (a ++ b) (A ++ B)
  | [], [], _, _, _, h => h
  | r :: a, x :: A, _, _, h, k => ⟨h.1, AllO.append h.2 k⟩
theorem AllO.split {n0 : Nat} {w : World} : ∀ {raw : List Rw} {A B : List Rn}, AllO n0 w raw (A ++ B) → ∃ a b, raw = a ++ b ∧ AllO n0 w a A ∧ AllO n0 w b B
  | raw, [], B, h => ⟨[], raw, rfl, trivial, h⟩
  | r :: raw, x :: A, B, h => by
    obtain ⟨a, b, e, h1, h2⟩ := AllO.split (A := A) h.2
    exact ⟨r :: a, b, by rw [e]; rfl, ⟨h.1, h1⟩, h2⟩
theorem AllO.one {n0 : Nat} {w : World} {raw : List Rw} {x : Rn} (h : AllO n0 w raw [x]) : ∃ r, raw = [r] ∧ MtO n0 w r x := by
  match raw, h with
  | [r], h => exact ⟨r, rfl, h.1⟩
/-- A list of runs of our own, and a Builder that holds these bytes beside it. -/
structure Co (w : World) (out : List Rn) (bs : List UInt8) (v : Value) (W : World) : Prop where
  below : Below w.heap.size w W
  row : ∃ raw, OutW w.heap.size W v raw ∧ AllO w.heap.size W raw out
  bld : BldF w.heap.size w.heap.size bs W
theorem Co.touch {w W W' : World} {out : List Rn} {bs : List UInt8} {v : Value} (h : Co w out bs v W) (t : Touch (fun _ => False) W W') : Co w out bs v W' := by
  obtain ⟨raw, h1, h2⟩ := h.row
  exact ⟨h.below.trans (t.below h.below.size fun _ _ => id), ⟨raw, h1.touch t, h2.mono fun g cur hg => (t.block _ (lt_of_heap hg) id).trans hg⟩, h.bld.touch t⟩
theorem Co.keepB {w W W' : World} {out : List Rn} {bs bs' : List UInt8} {v : Value} (h : Co w out bs v W) (k : BKeep w.heap.size w.heap.size W W') (hb : BldF w.heap.size w.heap.size bs' W') : Co w out bs' v W' := by
  obtain ⟨raw, h1, h2⟩ := h.row
  exact ⟨h.below.trans k.below, ⟨raw, h1.same fun g cur _ hg => keepB_cells (by decide) (by decide) hg h.bld k, h2.mono fun g cur hg => keepB_cells (by decide) (by decide) hg h.bld k⟩, hb⟩
theorem Co.sl {w W : World} {out : List Rn} {bs : List UInt8} {v : Value} (h : Co w out bs v W) : SlRn W v out := by
  obtain ⟨raw, h1, h2⟩ := h.row
  exact ⟨raw, h1.sl, h2.mt⟩
/-- One more run. -/
theorem Co.app {w W : World} {out : List Rn} {bs : List UInt8} {v : Value} (h : Co w out bs v W) (r : Rw) (x : Rn) (hr : MtO w.heap.size W r x) (hlen : out.length ≤ 1048576) :
    ∃ g n c W', (Builtin.append_ #[22, 22] 22 #[v, .slice (some ⟨W.heap.size, 0, none⟩) 1 1]).run Tryz.prog (W.alloc (rwO r)) = .ok (.slice (some ⟨g, 0, none⟩) n c) W' ∧ n = out.length + 1 ∧ Co w (out ++ [x]) bs (.slice (some ⟨g, 0, none⟩) n c) W' ∧ (∀ k, w.heap.size ≤ k → k < W.heap.size → v.ownBlock ≠ some k → W'.heap[k]? = W.heap[k]?) := by
  obtain ⟨raw, h1, h2⟩ := h.row
  have hl := h2.len
  obtain ⟨v', W', hrun, hO, hold, hoth, hbel, hsz⟩ := h1.app1 h.below.size r (by omega)
  obtain ⟨ao, cap, e, hh⟩ := hO.shape
  obtain ⟨g, rfl, -, -⟩ := hh (by simp)
  have hm : ∀ (k : Nat) (cur : Array Value), W.heap[k]? = some (.cells cur 45 (0, 0)) → W'.heap[k]? = some (.cells cur 45 (0, 0)) := fun k cur hk => hoth k _ hk (by simp) (fun c fz e => by simp at e)
  refine ⟨g, _, cap, W', by rw [hrun, e], by rw [← hl]; simp, ⟨h.below.trans (hbel _ (Nat.le_refl _)), ⟨raw ++ [r], by rw [← e]; exact hO, (h2.mono hm).append ⟨⟨hr.tx, hr.em, hr.v, hr.ml.same hm⟩, trivial⟩⟩, h.bld.rowsW hoth⟩, fun k _ hk hne => hold k hk hne⟩
theorem Co.shape {w W : World} {out : List Rn} {bs : List UInt8} {v : Value} (h : Co w out bs v W) : ∃ ao cap, v = .slice ao out.length cap ∧ (0 < out.length → ∃ g, ao = some ⟨g, 0, none⟩ ∧ w.heap.size ≤ g ∧ ∃ cur, W.heap[g]? = some (.cells cur 48 (0, 0)) ∧ out.length * 7 ≤ cur.size) := by
  obtain ⟨raw, h1, h2⟩ := h.row
  obtain ⟨ao, cap, e, hh⟩ := h1.shape
  rw [h2.len] at e hh
  exact ⟨ao, cap, e, hh⟩
/-- The last one's text laid anew. -/
theorem Co.text {w W : World} {init : List Rn} {last : Rn} {bs : List UInt8} {g n c : Nat} (h : Co w (init ++ [last]) bs (.slice (some ⟨g, 0, none⟩) n c) W) (tx : ByteArray) :
    (∃ old, W.cell? ⟨g, init.length * 7, none⟩ = some old) ∧ W.frozen? ⟨g, init.length * 7, none⟩ = false ∧ Co w (init ++ [⟨tx, last.em, last.v, last.ml⟩]) bs (.slice (some ⟨g, 0, none⟩) n c) (W.setCell ⟨g, init.length * 7, none⟩ (.string tx)) := by
  obtain ⟨raw, h1, h2⟩ := h.row
  obtain ⟨ri, rl, rfl, m1, m2⟩ := h2.split
  obtain ⟨r, rfl, m3⟩ := m2.one
  obtain ⟨ao, cap, e, hh⟩ := h1.shape
  obtain ⟨g', e', hg, cur, hcur, hsz⟩ := hh (by simp)
  simp only [Value.slice.injEq] at e
  obtain ⟨e1, rfl, rfl⟩ := e
  rw [e'] at e1
  simp only [Option.some.injEq, Addr.mk.injEq] at e1
  obtain ⟨rfl, -⟩ := e1
  have hil : ri.length = init.length := m1.len
  have hlt : init.length * 7 < cur.size := by simp at hsz; omega
  have hs := h1.setText tx
  rw [hil] at hs
  refine ⟨⟨cur[init.length * 7], by rw [cell_of_block hcur]; simp [hlt]⟩, free_of_block hcur, ?_⟩
  have hoth := others_setW (i := init.length * 7) (x := .string tx) hcur
  have hm : ∀ (k : Nat) (cur : Array Value), W.heap[k]? = some (.cells cur 45 (0, 0)) → (W.setCell ⟨g, init.length * 7, none⟩ (.string tx)).heap[k]? = some (.cells cur 45 (0, 0)) := fun k cur hk => hoth k _ hk (by simp) (fun c fz e => by simp at e)
  refine ⟨h.below.setCell (p := ⟨g, init.length * 7, none⟩) hg _, ⟨ri ++ [r.text tx], hs, (m1.mono hm).append ⟨⟨rfl, m3.em, m3.v, m3.ml.same hm⟩, trivial⟩⟩, h.bld.rowsW hoth⟩
end Go.Proofs.YtijkekkjiboomaaGreatDoor

/- Views: Clean. -/
namespace Go.Proofs.YtijkekkjiboomaaGreatDoor
open Go.RowKit Go.Maps
set_option linter.unusedVariables false
set_option linter.unusedSimpArgs false
set_option maxRecDepth 100000

/-- How great a list is. -/
def tot (L : List Rn) : Nat := (L.map fun r => r.tx.size + r.ml.length + 1).sum
theorem tot_cons (r : Rn) (L : List Rn) : tot (r :: L) = r.tx.size + r.ml.length + 1 + tot L := by simp [tot]
theorem tot_append (a b : List Rn) : tot (a ++ b) = tot a + tot b := by simp [tot]
theorem tot_len (L : List Rn) : L.length ≤ tot L := by
  induction L with
  | nil => exact Nat.zero_le _
  | cons r L ih => rw [tot_cons, List.length_cons]; omega
theorem tot_mem {L : List Rn} {r : Rn} (h : r ∈ L) : r.tx.size + r.ml.length + 1 ≤ tot L := by
  induction L with
  | nil => cases h
  | cons x L ih =>
    rw [tot_cons]
    rcases List.mem_cons.1 h with e | e
    · rw [e]; omega
    · have := ih e; omega
theorem tot_small {L : List Rn} (h : tot L ≤ 1048576) : Small L := fun x hx => by have := tot_mem hx; omega
def lastTx (l : List Rn) : List UInt8 := match l.getLast? with
  | none => []
  | some a => a.tx.data.toList
theorem lastTx_snoc (l : List Rn) (r : Rn) : lastTx (l ++ [r]) = r.tx.data.toList := by unfold lastTx; simp
def bare0 (x : Rn) : Rn := ⟨⟨#[]⟩, x.em, if x.em = true then vClean x.v else vz, x.ml.map mkN⟩
def midL (out : List Rn) (x : Rn) : List Rn := if goesV out x = true then out else out ++ [bare0 x]
theorem mid_step (out : List Rn) (x : Rn) (h0 : x.len ≠ 0) : ∃ init last, midL out x = init ++ [last] ∧ (x.em = true → clP out x = midL out x) ∧ (x.em = false → clP out x = init ++ [last.more x.tx]) := by
  have eN : ∀ (hg : ¬ goesV out x = true), ∃ init last, midL out x = init ++ [last] ∧ (x.em = true → out ++ [bareT x] = midL out x) ∧ (x.em = false → out ++ [bareT x] = init ++ [last.more x.tx]) := fun hg => by
    unfold midL
    rw [if_neg hg]
    refine ⟨out, bare0 x, rfl, fun he => ?_, fun he => ?_⟩
    · unfold bareT bare0; rw [if_pos he]
    · have e1 : (⟨#[]⟩ : ByteArray) ++ x.tx = x.tx := by apply ByteArray.ext; simp [ByteArray.data_append]
      unfold bareT bare0 Rn.more
      rw [if_neg (by rw [he]; simp), e1]
  unfold clP
  rw [if_neg h0]
  rcases getLast_cases out with ⟨e, e1⟩ | ⟨pre, a, e, e1, e2⟩
  · rw [e1]
    exact eN (by unfold goesV; rw [e1]; simp)
  · rw [e1, e2]
    simp only
    by_cases hc : canJ a x = true
    · rw [if_pos hc]
      have hg : goesV out x = true := by unfold goesV; rw [e1]; exact hc
      refine ⟨pre, a, by unfold midL; rw [if_pos hg, e], fun he => ?_, fun _ => rfl⟩
      unfold canJ at hc
      rw [he] at hc; simp at hc
    · rw [if_neg hc]
      exact eN (by unfold goesV; rw [e1]; exact hc)
def outP (L : List Rn) (i : Nat) : List Rn := (L.take i).foldl clP []
theorem outP_succ {L : List Rn} {i : Nat} (h : i < L.length) : outP L (i + 1) = clP (outP L i) L[i] := by
  unfold outP
  rw [List.take_succ_eq_append_getElem h, List.foldl_append]; rfl
theorem clP_tot (out : List Rn) (x : Rn) : tot (clP out x) ≤ tot out + (x.tx.size + x.ml.length + 1) := by
  have hb : tot (out ++ [bareT x]) ≤ tot out + (x.tx.size + x.ml.length + 1) := by
    rw [tot_append, tot_cons]
    have : (bareT x).tx.size ≤ x.tx.size := by
      unfold bareT
      split
      · exact Nat.zero_le _
      · exact Nat.le_refl _
    have e : tot [] = 0 := rfl
    have e2 : (bareT x).ml.length = x.ml.length := by unfold bareT; simp
    omega
  unfold clP
  split
  · omega
  · rcases getLast_cases out with ⟨e, e1⟩ | ⟨pre, a, e, e1, e2⟩
    · rw [e1]; exact hb
    · rw [e1, e2]
      simp only
      split
      · have e3 : (a.more x.tx).tx.size = a.tx.size + x.tx.size := by show (a.tx ++ x.tx).size = _; simp [ByteArray.size_append]
        have e4 : tot out = tot pre + (a.tx.size + a.ml.length + 1) := by rw [e, tot_append, tot_cons]; rfl
        have e5 : (a.more x.tx).ml.length = a.ml.length := rfl
        rw [tot_append, tot_cons, e3, e4, e5]
        have e : tot [] = 0 := rfl
        omega
      · exact hb
theorem outP_tot (L : List Rn) : ∀ i, tot (outP L i) ≤ tot (L.take i)
  | 0 => by simp [outP, tot]
  | i + 1 => by
    have ih := outP_tot L i
    by_cases h : i < L.length
    · rw [outP_succ h, List.take_succ_eq_append_getElem h, tot_append, tot_cons]
      have := clP_tot (outP L i) L[i]
      have e : tot [] = 0 := rfl
      omega
    · have e : L.take (i + 1) = L.take i := by rw [List.take_of_length_le (by omega), List.take_of_length_le (by omega)]
      unfold outP
      rw [e]
      exact ih
theorem tot_take (L : List Rn) (i : Nat) : tot (L.take i) ≤ tot L := by
  have := tot_append (L.take i) (L.drop i)
  rw [List.take_append_drop] at this
  omega
theorem cleanP_tot (L : List Rn) : tot (cleanP L) ≤ tot L := by
  have := outP_tot L L.length
  rw [List.take_length] at this
  unfold outP at this
  rwa [List.take_length] at this
theorem lastTx_len (l : List Rn) : (lastTx l).length ≤ tot l := by
  unfold lastTx
  rcases getLast_cases l with ⟨e, e1⟩ | ⟨pre, a, e, e1, e2⟩
  · rw [e1]; exact Nat.zero_le _
  · rw [e1]
    have := tot_mem (L := l) (r := a) (by rw [e]; simp)
    have e3 : a.tx.data.toList.length = a.tx.size := by simp
    simp only
    omega
theorem outP_ok {L : List Rn} (h : OkL L) (i : Nat) : OkL (outP L i) := (cleanP_cn (l := L.take i) fun r hr => h r (List.mem_of_mem_take hr)).okL
theorem below_touch {w w' : World} (h : Below w.heap.size w w') : Touch (fun _ => False) w w' := ⟨h.os, h.tape, h.output, h.size, fun k hk _ => h.block k hk⟩
theorem Co.lt {w W : World} {out : List Rn} {bs : List UInt8} {v : Value} (h : Co w out bs v W) {g : Nat} (hg : v.ownBlock = some g) : g < W.heap.size := by
  obtain ⟨raw, h1, h2⟩ := h.row
  rcases h1.owns.2 with ⟨e, _⟩ | ⟨g', cap', cur, e, _, hgg, _⟩
  · rw [e] at hg; simp [Value.ownBlock] at hg
  · rw [e] at hg
    simp only [Value.ownBlock, Option.some.injEq] at hg
    subst hg
    exact lt_of_heap hgg
end Go.Proofs.YtijkekkjiboomaaGreatDoor
