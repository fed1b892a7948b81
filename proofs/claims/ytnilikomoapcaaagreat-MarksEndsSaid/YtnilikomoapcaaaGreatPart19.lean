/- Slices of marks: how they lie, are cut, grow. -/
import Derived.Test.YtnilikomoapcaaaGreatPart17
import Derived.Test.YtnilikomoapcaaaGreatPart18
import Derived.Test.YtnilikomoapcaaaGreatPart8
import Derived.Maps.AppendAt
import Derived.Laws.OwnMore
import Derived.Shelf.GgSortFunc.RowK
import Derived.Laws.MakeOwn
namespace Go.Proofs.YtnilikomoapcaaaGreat
open Go.RowKit Go.Maps
set_option linter.unusedVariables false
set_option linter.unusedSimpArgs false

/-- A mark. -/
structure Mk where
  ky : ByteArray
  vk : Int
  vn : Int
  vf : Nat
  vs : ByteArray
deriving Inhabited
abbrev myO (r : Mk) : Obj := .cells #[.string r.ky, .int .i64 r.vk, .int .i64 r.vn, .float .f64 r.vf, .string r.vs] 55
abbrev mk (o : O) : Mk := ⟨o.ky, o.vk, o.vn, refBits o.vf, o.vs⟩
def cellY (r : Mk) : List Value := [.string r.ky, .int .i64 r.vk, .int .i64 r.vn, .float .f64 r.vf, .string r.vs]
def cellsY (l : List Mk) : List Value := l.flatMap cellY
theorem cellsY_cons (r : Mk) (l : List Mk) : cellsY (r :: l) = .string r.ky :: .int .i64 r.vk :: .int .i64 r.vn :: .float .f64 r.vf :: .string r.vs :: cellsY l := rfl
theorem cellsY_append (a b : List Mk) : cellsY (a ++ b) = cellsY a ++ cellsY b := by simp [cellsY]
theorem cellsY_one (l : List Mk) : ∀ u ∈ cellsY l, u.oneCell' = true := by
  intro u hu
  obtain ⟨f, _, hf⟩ := List.mem_flatMap.1 hu
  simp only [cellY, List.mem_cons, List.not_mem_nil, or_false] at hf
  rcases hf with rfl | rfl | rfl | rfl | rfl <;> rfl
theorem cellsY_len (l : List Mk) : (cellsY l).length = l.length * 5 := by
  induction l with
  | nil => rfl
  | cons f r ih => rw [cellsY_cons]; simp only [List.length_cons, ih]; omega
theorem cellsY_get : ∀ (l : List Mk) (j : Nat) (h : j < l.length), (cellsY l)[j * 5]? = some (.string l[j].ky) ∧ (cellsY l)[j * 5 + 1]? = some (.int .i64 l[j].vk) ∧ (cellsY l)[j * 5 + 2]? = some (.int .i64 l[j].vn) ∧ (cellsY l)[j * 5 + 3]? = some (.float .f64 l[j].vf) ∧ (cellsY l)[j * 5 + 4]? = some (.string l[j].vs)
  | f :: r, 0, _ => ⟨rfl, rfl, rfl, rfl, rfl⟩
  | f :: r, j + 1, h => by
    have ih := cellsY_get r j (by simpa using h)
    rw [cellsY_cons, show (j + 1) * 5 = j * 5 + 5 from by omega]
    exact ih
theorem cellsY_set : ∀ (l : List Mk) (j : Nat) (h : j < l.length) (r : Mk), (((((cellsY l).set (j * 5) (.string r.ky)).set (j * 5 + 1) (.int .i64 r.vk)).set (j * 5 + 2) (.int .i64 r.vn)).set (j * 5 + 3) (.float .f64 r.vf)).set (j * 5 + 4) (.string r.vs) = cellsY (l.set j r)
  | f :: l, 0, _, r => rfl
  | f :: l, j + 1, h, r => by
    have ih := cellsY_set l j (by simpa using h) r
    rw [cellsY_cons, List.set_cons_succ, cellsY_cons, ← ih, show (j + 1) * 5 = j * 5 + 5 from by omega]
    rfl
theorem infoY : (Tryz.prog.info? 55).map (fun i => (i.zero, i.size, i.bytes)) = some (some (.agg #[.string ⟨#[]⟩, .int .i64 0, .int .i64 0, .float .f64 0, .string ⟨#[]⟩]), 5, 56) := by kernel_rfl
/-- They lie where a slice of that address begins. -/
def LiesY (w : World) (ao : Option Addr) (l : List Mk) : Prop := l = [] ∨ ∃ b o, ao = some ⟨b, o, none⟩ ∧ ∀ j u, (cellsY l)[j]? = some u → w.cell? ⟨b, o + j, none⟩ = some u
theorem LiesY.touch {W W' : World} {ao : Option Addr} {b : List Mk} (h : LiesY W ao b) (t : Touch (fun _ => False) W W') : LiesY W' ao b := by
  rcases h with h | ⟨b, o, e, h⟩
  · exact .inl h
  · refine .inr ⟨b, o, e, fun j u hu => ?_⟩
    have := h j u hu
    rw [World.cell?_of_block (t.block _ (World.block_lt_of_cell? _ _ this) id)]; exact this
theorem LiesY.new (W : World) (f : Mk) : LiesY (W.alloc (myO f)) (some ⟨W.heap.size, 0, none⟩) [f] := by
  refine .inr ⟨_, _, rfl, fun j u hu => ?_⟩
  rw [Nat.zero_add, cell_of_block (heap_alloc_new W (myO f))]
  have e : cellsY [f] = [.string f.ky, .int .i64 f.vk, .int .i64 f.vn, .float .f64 f.vf, .string f.vs] := rfl
  rw [e] at hu
  simpa using hu
theorem addr_addY (g o j : Nat) : (⟨g, o, none⟩ : Addr).add j = ⟨g, o + j, none⟩ := by
  unfold Addr.add
  split <;> simp_all
/-- v is a slice of l. -/
def SlY (w : World) (v : Value) (l : List Mk) : Prop := ∃ ao cap, v = .slice ao l.length cap ∧ (ao = none → cap = 0) ∧ l.length ≤ cap ∧ cap ≤ 9223372036854775807 ∧ LiesY w ao l
theorem SlY.touch {W W' : World} {v : Value} {l : List Mk} (h : SlY W v l) (t : Touch (fun _ => False) W W') : SlY W' v l := by
  obtain ⟨ao, cap, e, h1, h2, h3, h4⟩ := h
  exact ⟨ao, cap, e, h1, h2, h3, h4.touch t⟩
theorem SlY.nil (w : World) : SlY w (.slice none 0 0) [] := ⟨none, 0, rfl, fun _ => rfl, Nat.le_refl _, by omega, .inl rfl⟩
/-- Its cells, where there are any. -/
theorem SlY.row {w : World} {v : Value} {l : List Mk} (h : SlY w v l) (hne : l ≠ []) : ∃ b o cap, v = .slice (some ⟨b, o, none⟩) l.length cap ∧ l.length ≤ cap ∧ cap ≤ 9223372036854775807 ∧ b < w.heap.size ∧ ∀ j (h : j < l.length), w.cell? ⟨b, o + j * 5, none⟩ = some (.string l[j].ky) ∧ w.cell? ⟨b, o + j * 5 + 1, none⟩ = some (.int .i64 l[j].vk) ∧ w.cell? ⟨b, o + j * 5 + 2, none⟩ = some (.int .i64 l[j].vn) ∧ w.cell? ⟨b, o + j * 5 + 3, none⟩ = some (.float .f64 l[j].vf) ∧ w.cell? ⟨b, o + j * 5 + 4, none⟩ = some (.string l[j].vs) := by
  obtain ⟨ao, cap, e, h1, h2, h3, h4⟩ := h
  rcases h4 with h4 | ⟨b, o, rfl, hc⟩
  · exact absurd h4 hne
  · have hx : ∀ j (h : j < l.length), w.cell? ⟨b, o + j * 5, none⟩ = some (.string l[j].ky) ∧ w.cell? ⟨b, o + j * 5 + 1, none⟩ = some (.int .i64 l[j].vk) ∧ w.cell? ⟨b, o + j * 5 + 2, none⟩ = some (.int .i64 l[j].vn) ∧ w.cell? ⟨b, o + j * 5 + 3, none⟩ = some (.float .f64 l[j].vf) ∧ w.cell? ⟨b, o + j * 5 + 4, none⟩ = some (.string l[j].vs) := fun j hj => by
      obtain ⟨a0, a1, a2, a3, a4⟩ := cellsY_get l j hj
      exact ⟨hc _ _ a0, hc _ _ a1, hc _ _ a2, hc _ _ a3, hc _ _ a4⟩
    refine ⟨b, o, cap, e, h2, h3, ?_, hx⟩
    have hp : 0 < l.length := List.length_pos_iff.2 hne
    exact World.block_lt_of_cell? _ _ (hx 0 hp).1
theorem SlY.shape {w : World} {v : Value} {l : List Mk} (h : SlY w v l) : ∃ ao cap, v = .slice ao l.length cap ∧ (ao = none → cap = 0) ∧ l.length ≤ cap ∧ cap ≤ 9223372036854775807 := by
  obtain ⟨ao, cap, e, h1, h2, h3, h4⟩ := h
  exact ⟨ao, cap, e, h1, h2, h3⟩
theorem SlY.from {w : World} {ao : Option Addr} {n cap : Nat} {l : List Mk} (h : SlY w (.slice ao n cap) l) (c : Nat) (hc : c ≤ l.length) : SlY w (.slice (if cap = c then ao else ao.map (·.add (c * 5))) (n - c) (cap - c)) (l.drop c) := by
  obtain ⟨ao', cap', e, h1, h2, h3, h4⟩ := h
  simp only [Value.slice.injEq] at e
  obtain ⟨rfl, rfl, rfl⟩ := e
  refine ⟨_, _, by rw [List.length_drop], ?_, by rw [List.length_drop]; omega, by omega, ?_⟩
  · intro e
    split at e
    · have := h1 e; omega
    · rw [Option.map_eq_none_iff] at e
      have := h1 e; omega
  · by_cases hd : l.drop c = []
    · exact .inl hd
    · have hlt : c < l.length := by
        rcases Nat.lt_or_ge c l.length with x | x
        · exact x
        · exact absurd (List.drop_of_length_le x) hd
      rcases h4 with h4 | ⟨b, o, rfl, hx⟩
      · subst h4; simp at hlt
      · rw [if_neg (by omega), Option.map_some, addr_addY]
        refine .inr ⟨b, o + c * 5, rfl, fun j u hu => ?_⟩
        have e2 : cellsY l = cellsY (l.take c) ++ cellsY (l.drop c) := by rw [← cellsY_append, List.take_append_drop]
        have hlen : (cellsY (l.take c)).length = c * 5 := by rw [cellsY_len, List.length_take]; omega
        have : (cellsY l)[c * 5 + j]? = some u := by
          rw [e2, List.getElem?_append_right (by omega), hlen, Nat.add_sub_cancel_left]; exact hu
        have := hx _ u this
        rw [Nat.add_assoc]; exact this
theorem SlY.upto {w : World} {ao : Option Addr} {n cap : Nat} {l : List Mk} (h : SlY w (.slice ao n cap) l) (c : Nat) (hc : c ≤ l.length) : SlY w (.slice ao c cap) (l.take c) := by
  obtain ⟨ao', cap', e, h1, h2, h3, h4⟩ := h
  simp only [Value.slice.injEq] at e
  obtain ⟨rfl, rfl, rfl⟩ := e
  have hlen : (l.take c).length = c := by rw [List.length_take]; omega
  refine ⟨_, _, by rw [hlen], h1, by omega, h3, ?_⟩
  rcases h4 with h4 | ⟨b, o, rfl, hx⟩
  · exact .inl (by rw [h4]; simp)
  · refine .inr ⟨b, o, rfl, fun j u hu => hx j u ?_⟩
    have e2 : cellsY l = cellsY (l.take c) ++ cellsY (l.drop c) := by rw [← cellsY_append, List.take_append_drop]
    rw [e2, List.getElem?_append_left (by rw [List.getElem?_eq_some_iff] at hu; exact hu.1)]; exact hu
theorem sliceY_from (vo : Option Addr) (n cap c : Nat) (h : c ≤ n) (W : World) : (Instr.slice 45 (.slice vo n cap) (some (.int .i64 (c : Int))) none none).run Tryz.prog W = .ok (.slice (if cap = c then vo else vo.map (·.add (c * 5))) (n - c) (cap - c)) W := by
  have h1 : (c : Int) ≤ (n : Int) := by omega
  have hu := Tryz.underlying45
  obtain ⟨i0, hi, hz0, hz1, hz2⟩ := info_parts infoY
  simp [Instr.slice, run_underlying hu, Instr.sliceBounds, run_sliceBound, h1, sizeOf, typeInfo, hi, hz1]
theorem sliceY_to (vo : Option Addr) (n cap c : Nat) (h : c ≤ cap) (W : World) : (Instr.slice 45 (.slice vo n cap) none (some (.int .i64 (c : Int))) none).run Tryz.prog W = .ok (.slice vo c cap) W := by
  have h1 : (c : Int) ≤ (cap : Int) := by omega
  have hu := Tryz.underlying45
  have ha : ∀ a : Addr, a.add 0 = a := fun a => by cases a; simp [Addr.add]
  obtain ⟨i0, hi, hz0, hz1, hz2⟩ := info_parts infoY
  simp [Instr.slice, run_underlying hu, Instr.sliceBounds, run_sliceBound, h1, sizeOf, typeInfo, hi, ha]

theorem ownY_touch {S : Nat → Prop} {w w' : World} {v : Value} {n : Nat} {xs : List Value} (h : w.ownsRow 0 55 5 v n xs) (t : Touch S w w') (hs : ∀ k, v.ownBlock = some k → ¬ S k) : w'.ownsRow 0 55 5 v n xs := by
  refine ⟨h.1, ?_⟩
  rcases h.2 with h | ⟨g, cap, cur, rfl, hb, hg, r⟩
  · exact .inl h
  · exact .inr ⟨g, cap, cur, rfl, hb, (t.block g (lt_of_heap hg) (hs g rfl)).trans hg, r⟩
/-- A slice that was made since W, of the cells xs. -/
structure OwnY (W w : World) (v : Value) (n : Nat) (xs : List Value) : Prop where
  owns : w.ownsRow 0 55 5 v n xs
  touch : Touch (fun _ => False) W w
  fresh : ∀ k, v.ownBlock = some k → W.heap.size ≤ k
abbrev NewY (W w : World) (v : Value) (l : List Mk) : Prop := OwnY W w v l.length (cellsY l)
theorem NewY.nil (W w : World) (t : Touch (fun _ => False) W w) : NewY W w (.slice none 0 0) [] := ⟨World.ownsRow_nil _ _ _ _, t, fun k hk => by simp [Value.ownBlock] at hk⟩
theorem OwnY.on {W w w' : World} {v : Value} {n : Nat} {xs : List Value} (h : OwnY W w v n xs) (t : Touch (fun _ => False) w w') : OwnY W w' v n xs :=
  ⟨ownY_touch h.owns t (fun _ _ => id), h.touch.trans t, h.fresh⟩
/-- It was made since any world ahead, too. -/
theorem OwnY.since {W0 W w : World} {v : Value} {n : Nat} {xs : List Value} (h : OwnY W w v n xs) (t : Touch (fun _ => False) W0 W) : OwnY W0 w v n xs :=
  ⟨h.owns, t.trans h.touch, fun k hk => Nat.le_trans t.size (h.fresh k hk)⟩
theorem NewY.sl {W w : World} {v : Value} {l : List Mk} (h : NewY W w v l) : SlY w v l := by
  rcases h.owns.2 with ⟨e, h0⟩ | ⟨g, cap, cur, e, hb, hg, q1, q2, q3, q4⟩
  · have : l = [] := List.length_eq_zero_iff.1 (by omega)
    subst this
    rw [e]; exact SlY.nil w
  · refine ⟨_, cap, e, (fun h => by cases h), q1, q2, .inr ⟨g, 0, rfl, fun j u hu => ?_⟩⟩
    rw [← q4, List.getElem?_take] at hu
    split at hu
    · rw [cell_of_block hg, Nat.zero_add, ← Array.getElem?_toList]; exact hu
    · cases hu
theorem run_appendY (w : World) (v : Value) (a : List Mk) (hown : w.ownsRow 0 55 5 v a.length (cellsY a)) (ao : Option Addr) (n cap : Nat) (b : List Mk) (hn : n = b.length) (hno : ao = none → cap = 0) (hL : LiesY w ao b) (hlen : a.length + b.length ≤ 1073741825) :
    ∃ v' w', (Builtin.append_ #[45, 45] 45 #[v, .slice ao n cap]).run Tryz.prog w = .ok v' w' ∧ w'.ownsRow 0 55 5 v' (a ++ b).length (cellsY (a ++ b)) ∧ w.grownBy w' v.ownBlock ∧ (v'.ownBlock = v.ownBlock ∨ v'.ownBlock = some w.heap.size) := by
  subst hn
  obtain ⟨i0, hi, hz0, hz1, hz2⟩ := info_parts infoY
  cases ao with
  | none =>
    have hb : b = [] := by
      rcases hL with h | ⟨b', o, e, _⟩
      · exact h
      · cases e
    subst hb
    have hc := hno rfl
    subst hc
    refine ⟨v, w, run_append_owned_none w 0 45 45 55 i0 5 Tryz.underlying45 hi v a.length (cellsY a) hown, ?_, World.grownBy.refl w _, .inl rfl⟩
    rw [List.append_nil]; exact hown
  | some ad =>
    have hcl : ∀ j u, (cellsY b)[j]? = some u → w.cell? (ad.add j) = some u := by
      rcases hL with h | ⟨b', o, e, h⟩
      · subst h; intro j u hu; simp [cellsY] at hu
      · cases e; intro j u hu; rw [addr_addY]; exact h j u hu
    obtain ⟨v', w', hrun, hown', hg, _, hat⟩ := run_append_own_at w 0 45 45 55 i0 _ 5 56 Tryz.underlying45 hi hz0 hz1 hz2 rfl (by decide) v a.length (cellsY a) hown ad b.length cap (cellsY b) (cellsY_len b) hcl (cellsY_one b) (by unfold maxLen; omega) (by omega) (Nat.zero_le _)
    refine ⟨v', w', hrun, ?_, hg, hat⟩
    rw [cellsY_append, List.length_append]; exact hown'
theorem NewY.app {W wx : World} {v : Value} {a : List Mk} (h : NewY W wx v a) (ao : Option Addr) (n cap : Nat) (b : List Mk) (hn : n = b.length) (hno : ao = none → cap = 0) (hL : LiesY wx ao b) (hlen : a.length + b.length ≤ 1073741825) :
    ∃ v' w', (Builtin.append_ #[45, 45] 45 #[v, .slice ao n cap]).run Tryz.prog wx = .ok v' w' ∧ NewY W w' v' (a ++ b) ∧ wx.grownBy w' v.ownBlock := by
  obtain ⟨v', w', hr, ho, hg, hb⟩ := run_appendY wx v a h.owns ao n cap b hn hno hL hlen
  refine ⟨v', w', hr, ⟨ho, ?_, fun k hk => ?_⟩, hg⟩
  · exact h.touch.then ((Touch.refl (fun i => v.ownBlock = some i) wx).grown hg (fun i e _ => e)) fun i hi e => absurd hi (Nat.not_lt.2 (h.fresh i e))
  · rcases hb with e | e
    · exact h.fresh k (e ▸ hk)
    · rw [hk] at e; have := h.touch.size; simp at e; omega
/-- An append of one, out of a new block. -/
theorem NewY.app1 {W wx : World} {v : Value} {a : List Mk} (h : NewY W wx v a) (r : Mk) (hlen : a.length ≤ 1073741824) :
    ∃ v' w', (Builtin.append_ #[45, 45] 45 #[v, .slice (some ⟨wx.heap.size, 0, none⟩) 1 1]).run Tryz.prog (wx.alloc (myO r)) = .ok v' w' ∧ NewY W w' v' (a ++ [r]) ∧ (wx.alloc (myO r)).grownBy w' v.ownBlock :=
  NewY.app (h.on ((Touch.refl _ wx).alloc _)) (some ⟨wx.heap.size, 0, none⟩) 1 1 [r] rfl (fun h => by cases h) (LiesY.new wx r) (by simp; omega)
theorem wpList_append_runY {w w' : World} {ops : Array Oper} {rest : List Oper} {o : Oper} {a : Act} {Q : Exit → Act → World → Prop} (hgd : o.guard = none) (s x : Operand)
    (ho : o.op = .call { callee := .builtin .append, args := #[s, x], argTypes := #[45, 45] }) (v y v' : Value) (hs : a.eval s = v) (hx : a.eval x = y)
    (hrun : (Builtin.append_ #[45, 45] o.type #[v, y]).run Tryz.prog w = .ok v' w') (h : wpList Tryz.prog ops Q rest (a.put o.dst v') w') : wpList Tryz.prog ops Q (o :: rest) a w := by
  refine wpList_plain hgd fun K' hK' => ?_
  unfold Oper.wp
  simp [execOp, ho, resolve, invoke, builtin, hs, hx, hrun, Result.andThen]
  exact hK' _ _ h
/-- A cell of it laid anew. -/
theorem OwnY.set {W w : World} {v : Value} {n : Nat} {xs : List Value} (h : OwnY W w v n xs) {g cap : Nat} (e : v = .slice (some ⟨g, 0, none⟩) n cap) (i : Nat) (hi : i < n * 5) (y : Value) (hy : y.oneCell' = true) : OwnY W (w.setCell ⟨g, i, none⟩ y) v n (xs.set i y) := by
  have hf : W.heap.size ≤ g := h.fresh g (by rw [e]; rfl)
  have h1 := h.owns.1
  rcases h.owns.2 with ⟨e', h0⟩ | ⟨g', cap', cur, e', hb, hg, q1, q2, q3, q4⟩
  · rw [h0] at hi; omega
  · rw [e] at e'
    simp only [Value.slice.injEq, Option.some.injEq, Addr.mk.injEq] at e'
    obtain ⟨⟨rfl, _, _⟩, _, rfl⟩ := e'
    refine ⟨⟨?_, .inr ⟨g, cap, cur.setIfInBounds i y, e, hb, by rw [heap_setCell_same _ _ _ _ hg], q1, q2, ?_, ?_⟩⟩, h.touch.setCell _ _ (fun hk => absurd hk (Nat.not_lt.2 hf)), h.fresh⟩
    · rw [List.length_set]; exact h1
    · simpa using q3
    · rw [Array.toList_setIfInBounds, ← q4, List.take_set]
theorem OwnY.free {W w : World} {v : Value} {n : Nat} {xs : List Value} (h : OwnY W w v n xs) {g cap : Nat} (e : v = .slice (some ⟨g, 0, none⟩) n cap) (hn : 0 < n) (i : Nat) : w.frozen? ⟨g, i, none⟩ = false := by
  rcases h.owns.2 with ⟨e', h0⟩ | ⟨g', cap', cur, e', hb, hg, q1, q2, q3, q4⟩
  · omega
  · rw [e] at e'
    simp only [Value.slice.injEq, Option.some.injEq, Addr.mk.injEq] at e'
    obtain ⟨⟨rfl, _, _⟩, _, rfl⟩ := e'
    exact free_of_block hg
theorem OwnY.shape {W w : World} {v : Value} {n : Nat} {xs : List Value} (h : OwnY W w v n xs) : ∃ ao cap, v = .slice ao n cap ∧ (0 < n → ∃ g, ao = some ⟨g, 0, none⟩) ∧ n ≤ cap ∧ cap ≤ 9223372036854775807 := by
  rcases h.owns.2 with ⟨e, h0⟩ | ⟨g, cap, cur, e, hb, hg, q1, q2, q3, q4⟩
  · exact ⟨none, 0, by rw [e, h0], fun h => by omega, by omega, by omega⟩
  · exact ⟨_, cap, e, fun _ => ⟨g, rfl⟩, q1, q2⟩
end Go.Proofs.YtnilikomoapcaaaGreat

/- make([][]Mark, n): n slices of none. -/
namespace Go.Proofs.YtnilikomoapcaaaGreat
open Go.RowKit Go.Maps
set_option linter.unusedVariables false
set_option linter.unusedSimpArgs false

theorem infoYs : (Tryz.prog.info? 45).map (fun i => (i.zero, i.size, i.bytes)) = some (some (.slice none 0 0), 1, 24) := by kernel_rfl
theorem madeNone (n : Nat) : madeCells (Value.slice none 0 0).cells n = Array.replicate n (.slice none 0 0) := by
  apply Array.ext
  · simp [madeCells]
  · intro i h1 h2
    simp [madeCells, Value.cells, Nat.mod_one]
theorem make_rows (n : Nat) (hn : n ≤ 1000000) (W : World) : (Instr.makeSlice 43 (.int .i64 (n : Int)) (.int .i64 (n : Int))).run Tryz.prog W = .ok (.slice (some ⟨W.heap.size, 0, none⟩) n n) (W.alloc (.cells (Array.replicate n (.slice none 0 0)) 45)) := by
  obtain ⟨i1, hi1, hz0, hz1, hz2⟩ := info_parts infoYs
  have := run_make W 43 45 i1 (.slice none 0 0) Tryz.underlying43 hi1 hz0 .i64 .i64 (n : Int) (n : Int) (by omega) (by omega) (by rw [hz2]; omega) (by omega)
  rw [this, hz1, Int.toNat_natCast, Nat.mul_one, madeNone]
end Go.Proofs.YtnilikomoapcaaaGreat

/- A row of slices of marks, each of its own, and an append to one of them. -/
namespace Go.Proofs.YtnilikomoapcaaaGreat
open Go.RowKit Go.Maps
set_option linter.unusedVariables false
set_option linter.unusedSimpArgs false

/-- The marks of each place, as All makes them since w: in block g, the slices vs. -/
structure OutM (w W : World) (g n : Nat) (M : Nat → List Mk) (vs : Nat → Value) : Prop where
  blk : ∃ c, W.heap[g]? = some (.cells c 45 (0, 0)) ∧ c.size = n ∧ ∀ i, i < n → c[i]? = some (vs i)
  own : ∀ i, i < n → W.ownsRow 0 55 5 (vs i) (M i).length (cellsY (M i))
  apart : ∀ i j k, i < n → j < n → i ≠ j → (vs i).ownBlock = some k → (vs j).ownBlock ≠ some k
  fresh : ∀ i k, i < n → (vs i).ownBlock = some k → w.heap.size ≤ k ∧ k < W.heap.size
  no : ∀ i, i < n → (vs i).ownBlock ≠ some g
  new : w.heap.size ≤ g
  t : Touch (fun _ => False) w W
theorem OutM.keep {w W W' : World} {g n : Nat} {M : Nat → List Mk} {vs : Nat → Value} (h : OutM w W g n M vs) (t : Touch (fun _ => False) W W') : OutM w W' g n M vs := by
  obtain ⟨c, h1, h2, h3⟩ := h.blk
  exact ⟨⟨c, (t.block _ (lt_of_heap h1) id).trans h1, h2, h3⟩, fun i hi => ownY_touch (h.own i hi) t fun _ _ => id, h.apart, fun i k hi hk => ⟨(h.fresh i k hi hk).1, Nat.lt_of_lt_of_le (h.fresh i k hi hk).2 t.size⟩, h.no, h.new, h.t.trans t⟩
theorem OutM.made (w W : World) (n : Nat) (t : Touch (fun _ => False) w W) : OutM w (W.alloc (.cells (Array.replicate n (.slice none 0 0)) 45)) W.heap.size n (fun _ => []) (fun _ => .slice none 0 0) :=
  ⟨⟨_, heap_alloc_new W _, by simp, fun i hi => by simp [hi]⟩, fun i hi => World.ownsRow_nil _ _ _ _, fun i j k _ _ _ h => by simp [Value.ownBlock] at h, fun i k _ h => by simp [Value.ownBlock] at h, fun i _ h => by simp [Value.ownBlock] at h, t.size, t.trans ((Touch.refl _ _).alloc _)⟩
theorem ownY_lt {W : World} {v : Value} {n k : Nat} {xs : List Value} (h : W.ownsRow 0 55 5 v n xs) (e : v.ownBlock = some k) : k < W.heap.size := by
  rcases h.2 with ⟨rfl, _⟩ | ⟨g, cap, cur, rfl, _, hg, _⟩
  · simp [Value.ownBlock] at e
  · have e' : g = k := by simpa [Value.ownBlock] using e
    rw [← e']; exact lt_of_heap hg
/-- One more mark at a place. -/
theorem OutM.app {w W : World} {g n : Nat} {M : Nat → List Mk} {vs : Nat → Value} (h : OutM w W g n M vs) {i : Nat} (hi : i < n) (m : Mk) (hlen : (M i).length ≤ 1073741824) :
    ∃ v' w', (Builtin.append_ #[45, 45] 45 #[vs i, .slice (some ⟨W.heap.size, 0, none⟩) 1 1]).run Tryz.prog (W.alloc (myO m)) = .ok v' w' ∧ w'.heap[g]? = W.heap[g]? ∧ Touch (fun k => (vs i).ownBlock = some k) W w' ∧
      OutM w (w'.setCell ⟨g, i, none⟩ v') g n (fun k => if k = i then M i ++ [m] else M k) (fun k => if k = i then v' else vs k) := by
  obtain ⟨c, hc1, hc2, hc3⟩ := h.blk
  have hgl := lt_of_heap hc1
  have ta : Touch (fun _ => False) W (W.alloc (myO m)) := (Touch.refl _ _).alloc _
  obtain ⟨v', w', hrun, hown', hg, hb⟩ := run_appendY (W.alloc (myO m)) (vs i) (M i) (ownY_touch (h.own i hi) ta fun _ _ => id) (some ⟨W.heap.size, 0, none⟩) 1 1 [m] rfl (fun h => by cases h) (LiesY.new W m) (by simp; omega)
  have t1 : Touch (fun k => (vs i).ownBlock = some k) W w' := ((Touch.refl _ W).alloc _).grown hg fun i e _ => e
  have hgw : w'.heap[g]? = W.heap[g]? := t1.block g hgl (h.no i hi)
  have hsz : (W.alloc (myO m)).heap.size = W.heap.size + 1 := Array.size_push _
  have hvg : ∀ k, v'.ownBlock = some k → k ≠ g ∧ w.heap.size ≤ k ∧ k < w'.heap.size := fun k hk => by
    have hlt := ownY_lt hown' hk
    rcases hb with e | e
    · rw [e] at hk
      exact ⟨fun e2 => h.no i hi (e2 ▸ hk), (h.fresh i k hi hk).1, hlt⟩
    · rw [hk] at e
      simp only [Option.some.injEq] at e
      have := h.t.size
      exact ⟨by omega, by omega, hlt⟩
  have tg : Touch (fun k => k = g) w' (w'.setCell ⟨g, i, none⟩ v') := (Touch.refl (fun k => k = g) w').setCell ⟨g, i, none⟩ v' fun _ => rfl
  have t2 : Touch (fun k => (vs i).ownBlock = some k ∨ k = g) W (w'.setCell ⟨g, i, none⟩ v') := (t1.mono fun _ _ q => .inl q).trans (tg.mono fun _ _ q => .inr q)
  refine ⟨v', w', hrun, hgw, t1, ⟨?_, ?_, ?_, ?_, ?_, h.new, ?_⟩⟩
  · refine ⟨_, heap_setCell_same w' g i v' (hgw.trans hc1), by simpa using hc2, fun k hk => ?_⟩
    rw [Array.getElem?_setIfInBounds]
    by_cases e : i = k
    · subst e; simp [hc2, hi]
    · have e2 : ¬ k = i := fun q => e q.symm
      rw [if_neg e, hc3 k hk]
      simp only [e2, if_false]
  · intro k hk
    by_cases e : k = i
    · subst e
      simp only [if_true]
      exact ownY_touch hown' tg fun b hb2 e2 => (hvg b hb2).1 e2
    · simp only [e, if_false]
      exact ownY_touch (h.own k hk) t2 fun b hb2 e2 => by
        rcases e2 with e2 | e2
        · exact h.apart i k b hi hk (fun q => e q.symm) e2 hb2
        · exact h.no k hk (e2 ▸ hb2)
  · intro a b k ha hb2 hab hk
    have hnew : ∀ j, j < n → j ≠ i → v'.ownBlock = some k → (vs j).ownBlock ≠ some k := fun j hj hji hv q => by
      rcases hb with e | e
      · rw [e] at hv
        exact h.apart i j k hi hj (fun q => hji q.symm) hv q
      · rw [hv] at e
        simp only [Option.some.injEq] at e
        have := (h.fresh j k hj q).2
        omega
    by_cases ea : a = i
    · subst ea
      have eb : ¬ b = a := fun q => hab q.symm
      simp only [if_true] at hk
      simp only [eb, if_false]
      exact hnew b hb2 eb hk
    · simp only [ea, if_false] at hk
      by_cases eb : b = i
      · subst eb
        simp only [if_true]
        exact fun q => hnew a ha ea q hk
      · simp only [eb, if_false]
        exact h.apart a b k ha hb2 hab hk
  · intro a k ha hk
    rw [size_setCell]
    by_cases ea : a = i
    · subst ea
      simp only [if_true] at hk
      exact ⟨(hvg k hk).2.1, (hvg k hk).2.2⟩
    · simp only [ea, if_false] at hk
      exact ⟨(h.fresh a k ha hk).1, Nat.lt_of_lt_of_le (h.fresh a k ha hk).2 t1.size⟩
  · intro a ha hk
    by_cases ea : a = i
    · subst ea
      simp only [if_true] at hk
      exact (hvg g hk).1 rfl
    · simp only [ea, if_false] at hk
      exact h.no a ha hk
  · refine h.t.then t2 fun k hk e => ?_
    rcases e with e | e
    · have := (h.fresh i k hi e).1
      omega
    · have := h.new
      omega
end Go.Proofs.YtnilikomoapcaaaGreat
