/- Slices of turns: how they lie, are cut, grow. -/
import Derived.Test.YtdblfabbmpdoiaaGreatIdA
import Derived.Maps.AppendAt
import Derived.Laws.OwnMore
import Derived.Shelf.GgSortFunc.RowK
namespace Go.Proofs.YtdblfabbmpdoiaaGreat
open Go.RowKit Go.Maps
set_option linter.unusedVariables false
set_option linter.unusedSimpArgs false

def cellT (r : Tn) : List Value := [.int .u64 r.c, .int .u64 r.f, .int .u64 r.t, .int .u64 r.n]
def cellsT (l : List Tn) : List Value := l.flatMap cellT
theorem cellsT_cons (r : Tn) (l : List Tn) : cellsT (r :: l) = .int .u64 r.c :: .int .u64 r.f :: .int .u64 r.t :: .int .u64 r.n :: cellsT l := rfl
theorem cellsT_append (a b : List Tn) : cellsT (a ++ b) = cellsT a ++ cellsT b := by simp [cellsT]
theorem cellsT_one (l : List Tn) : ∀ u ∈ cellsT l, u.oneCell' = true := by
  intro u hu
  obtain ⟨f, _, hf⟩ := List.mem_flatMap.1 hu
  simp only [cellT, List.mem_cons, List.not_mem_nil, or_false] at hf
  rcases hf with rfl | rfl | rfl | rfl <;> rfl
theorem cellsT_len (l : List Tn) : (cellsT l).length = l.length * 4 := by
  induction l with
  | nil => rfl
  | cons f r ih => rw [cellsT_cons]; simp only [List.length_cons, ih]; omega
theorem cellsT_get : ∀ (l : List Tn) (j : Nat) (h : j < l.length), (cellsT l)[j * 4]? = some (.int .u64 l[j].c) ∧ (cellsT l)[j * 4 + 1]? = some (.int .u64 l[j].f) ∧ (cellsT l)[j * 4 + 2]? = some (.int .u64 l[j].t) ∧ (cellsT l)[j * 4 + 3]? = some (.int .u64 l[j].n)
  | f :: r, 0, _ => ⟨rfl, rfl, rfl, rfl⟩
  | f :: r, j + 1, h => by
    have ih := cellsT_get r j (by simpa using h)
    rw [cellsT_cons, show (j + 1) * 4 = j * 4 + 4 from by omega]
    exact ih
theorem cellsT_set : ∀ (l : List Tn) (j : Nat) (h : j < l.length) (r : Tn), ((((cellsT l).set (j * 4) (.int .u64 r.c)).set (j * 4 + 1) (.int .u64 r.f)).set (j * 4 + 2) (.int .u64 r.t)).set (j * 4 + 3) (.int .u64 r.n) = cellsT (l.set j r)
  | f :: l, 0, _, r => rfl
  | f :: l, j + 1, h, r => by
    have ih := cellsT_set l j (by simpa using h) r
    rw [cellsT_cons, List.set_cons_succ, cellsT_cons, ← ih, show (j + 1) * 4 = j * 4 + 4 from by omega]
    rfl
/-- One field laid anew. -/
theorem cellsT_to : ∀ (l : List Tn) (j : Nat) (h : j < l.length) (y : Int), (cellsT l).set (j * 4 + 2) (.int .u64 y) = cellsT (l.set j ⟨l[j].c, l[j].f, y, l[j].n⟩)
  | f :: l, 0, _, y => rfl
  | f :: l, j + 1, h, y => by
    have ih := cellsT_to l j (by simpa using h) y
    have hj : j < l.length := by simpa using h
    have e : (f :: l).set (j + 1) ⟨(f :: l)[j + 1].c, (f :: l)[j + 1].f, y, (f :: l)[j + 1].n⟩ = f :: l.set j ⟨l[j].c, l[j].f, y, l[j].n⟩ := rfl
    rw [e, cellsT_cons, cellsT_cons, ← ih, show (j + 1) * 4 = j * 4 + 4 from by omega]
    rfl
theorem infoT : (Tryz.prog.info? 111).map (fun i => (i.zero, i.size, i.bytes)) = some (some (.agg #[.int .u64 0, .int .u64 0, .int .u64 0, .int .u64 0]), 4, 32) := by kernel_rfl
/-- They lie where a slice of that address begins. -/
def LiesT (w : World) (ao : Option Addr) (l : List Tn) : Prop := l = [] ∨ ∃ b o, ao = some ⟨b, o, none⟩ ∧ ∀ j u, (cellsT l)[j]? = some u → w.cell? ⟨b, o + j, none⟩ = some u
theorem LiesT.touch {W W' : World} {ao : Option Addr} {b : List Tn} (h : LiesT W ao b) (t : Touch (fun _ => False) W W') : LiesT W' ao b := by
  rcases h with h | ⟨b, o, e, h⟩
  · exact .inl h
  · refine .inr ⟨b, o, e, fun j u hu => ?_⟩
    have := h j u hu
    rw [World.cell?_of_block (t.block _ (World.block_lt_of_cell? _ _ this) id)]; exact this
theorem LiesT.new (W : World) (f : Tn) : LiesT (W.alloc (tnO f)) (some ⟨W.heap.size, 0, none⟩) [f] := by
  refine .inr ⟨_, _, rfl, fun j u hu => ?_⟩
  rw [Nat.zero_add, cell_of_block (heap_alloc_new W (tnO f))]
  have e : cellsT [f] = [.int .u64 f.c, .int .u64 f.f, .int .u64 f.t, .int .u64 f.n] := rfl
  rw [e] at hu
  simpa using hu
theorem addr_addT (g o j : Nat) : (⟨g, o, none⟩ : Addr).add j = ⟨g, o + j, none⟩ := by
  unfold Addr.add
  split <;> simp_all
/-- v is a slice of l. -/
def SlT (w : World) (v : Value) (l : List Tn) : Prop := ∃ ao cap, v = .slice ao l.length cap ∧ (ao = none → cap = 0) ∧ l.length ≤ cap ∧ cap ≤ 9223372036854775807 ∧ LiesT w ao l
theorem SlT.touch {W W' : World} {v : Value} {l : List Tn} (h : SlT W v l) (t : Touch (fun _ => False) W W') : SlT W' v l := by
  obtain ⟨ao, cap, e, h1, h2, h3, h4⟩ := h
  exact ⟨ao, cap, e, h1, h2, h3, h4.touch t⟩
theorem SlT.nil (w : World) : SlT w (.slice none 0 0) [] := ⟨none, 0, rfl, fun _ => rfl, Nat.le_refl _, by omega, .inl rfl⟩
/-- Its cells, where there are any. -/
theorem SlT.row {w : World} {v : Value} {l : List Tn} (h : SlT w v l) (hne : l ≠ []) : ∃ b o cap, v = .slice (some ⟨b, o, none⟩) l.length cap ∧ l.length ≤ cap ∧ cap ≤ 9223372036854775807 ∧ b < w.heap.size ∧ ∀ j (h : j < l.length), w.cell? ⟨b, o + j * 4, none⟩ = some (.int .u64 l[j].c) ∧ w.cell? ⟨b, o + j * 4 + 1, none⟩ = some (.int .u64 l[j].f) ∧ w.cell? ⟨b, o + j * 4 + 2, none⟩ = some (.int .u64 l[j].t) ∧ w.cell? ⟨b, o + j * 4 + 3, none⟩ = some (.int .u64 l[j].n) := by
  obtain ⟨ao, cap, e, h1, h2, h3, h4⟩ := h
  rcases h4 with h4 | ⟨b, o, rfl, hc⟩
  · exact absurd h4 hne
  · have hx : ∀ j (h : j < l.length), w.cell? ⟨b, o + j * 4, none⟩ = some (.int .u64 l[j].c) ∧ w.cell? ⟨b, o + j * 4 + 1, none⟩ = some (.int .u64 l[j].f) ∧ w.cell? ⟨b, o + j * 4 + 2, none⟩ = some (.int .u64 l[j].t) ∧ w.cell? ⟨b, o + j * 4 + 3, none⟩ = some (.int .u64 l[j].n) := fun j hj => by
      obtain ⟨a0, a1, a2, a3⟩ := cellsT_get l j hj
      exact ⟨hc _ _ a0, hc _ _ a1, hc _ _ a2, hc _ _ a3⟩
    refine ⟨b, o, cap, e, h2, h3, ?_, hx⟩
    have hp : 0 < l.length := List.length_pos_iff.2 hne
    exact World.block_lt_of_cell? _ _ (hx 0 hp).1
theorem SlT.shape {w : World} {v : Value} {l : List Tn} (h : SlT w v l) : ∃ ao cap, v = .slice ao l.length cap ∧ (ao = none → cap = 0) ∧ l.length ≤ cap ∧ cap ≤ 9223372036854775807 := by
  obtain ⟨ao, cap, e, h1, h2, h3, h4⟩ := h
  exact ⟨ao, cap, e, h1, h2, h3⟩
theorem SlT.from {w : World} {ao : Option Addr} {n cap : Nat} {l : List Tn} (h : SlT w (.slice ao n cap) l) (c : Nat) (hc : c ≤ l.length) : SlT w (.slice (if cap = c then ao else ao.map (·.add (c * 4))) (n - c) (cap - c)) (l.drop c) := by
  obtain ⟨ao', cap', e, h1, h2, h3, h4⟩ := h
  simp only [Value.slice.injEq] at e
  obtain ⟨rfl, rfl, rfl⟩ := e
  refine ⟨_, _, by rw [List.length_drop], ?_, by rw [List.length_drop]; omega, by omega, ?_⟩
  · intro e
    split at e
    · have := h1 e; omega
    · rw [Option.map_eq_none_iff] at e
      have := h1 e; omega
  · by_cases hd : l.drop c = []
    · exact .inl hd
    · have hlt : c < l.length := by
        rcases Nat.lt_or_ge c l.length with x | x
        · exact x
        · exact absurd (List.drop_of_length_le x) hd
      rcases h4 with h4 | ⟨b, o, rfl, hx⟩
      · subst h4; simp at hlt
      · rw [if_neg (by omega), Option.map_some, addr_addT]
        refine .inr ⟨b, o + c * 4, rfl, fun j u hu => ?_⟩
        have e2 : cellsT l = cellsT (l.take c) ++ cellsT (l.drop c) := by rw [← cellsT_append, List.take_append_drop]
        have hlen : (cellsT (l.take c)).length = c * 4 := by rw [cellsT_len, List.length_take]; omega
        have : (cellsT l)[c * 4 + j]? = some u := by
          rw [e2, List.getElem?_append_right (by omega), hlen, Nat.add_sub_cancel_left]; exact hu
        have := hx _ u this
        rw [Nat.add_assoc]; exact this
theorem SlT.upto {w : World} {ao : Option Addr} {n cap : Nat} {l : List Tn} (h : SlT w (.slice ao n cap) l) (c : Nat) (hc : c ≤ l.length) : SlT w (.slice ao c cap) (l.take c) := by
  obtain ⟨ao', cap', e, h1, h2, h3, h4⟩ := h
  simp only [Value.slice.injEq] at e
  obtain ⟨rfl, rfl, rfl⟩ := e
  have hlen : (l.take c).length = c := by rw [List.length_take]; omega
  refine ⟨_, _, by rw [hlen], h1, by omega, h3, ?_⟩
  rcases h4 with h4 | ⟨b, o, rfl, hx⟩
  · exact .inl (by rw [h4]; simp)
  · refine .inr ⟨b, o, rfl, fun j u hu => hx j u ?_⟩
    have e2 : cellsT l = cellsT (l.take c) ++ cellsT (l.drop c) := by rw [← cellsT_append, List.take_append_drop]
    rw [e2, List.getElem?_append_left (by rw [List.getElem?_eq_some_iff] at hu; exact hu.1)]; exact hu
theorem sliceT_from (vo : Option Addr) (n cap c : Nat) (h : c ≤ n) (W : World) : (Instr.slice 95 (.slice vo n cap) (some (.int .i64 (c : Int))) none none).run Tryz.prog W = .ok (.slice (if cap = c then vo else vo.map (·.add (c * 4))) (n - c) (cap - c)) W := by
  have h1 : (c : Int) ≤ (n : Int) := by omega
  have hu := Tryz.underlying95
  obtain ⟨i0, hi, hz0, hz1, hz2⟩ := info_parts infoT
  simp [Instr.slice, run_underlying hu, Instr.sliceBounds, run_sliceBound, h1, sizeOf, typeInfo, hi, hz1]
theorem sliceT_to (vo : Option Addr) (n cap c : Nat) (h : c ≤ cap) (W : World) : (Instr.slice 95 (.slice vo n cap) none (some (.int .i64 (c : Int))) none).run Tryz.prog W = .ok (.slice vo c cap) W := by
  have h1 : (c : Int) ≤ (cap : Int) := by omega
  have hu := Tryz.underlying95
  have ha : ∀ a : Addr, a.add 0 = a := fun a => by cases a; simp [Addr.add]
  obtain ⟨i0, hi, hz0, hz1, hz2⟩ := info_parts infoT
  simp [Instr.slice, run_underlying hu, Instr.sliceBounds, run_sliceBound, h1, sizeOf, typeInfo, hi, ha]

theorem ownT_touch {S : Nat → Prop} {w w' : World} {v : Value} {n : Nat} {xs : List Value} (h : w.ownsRow 0 111 4 v n xs) (t : Touch S w w') (hs : ∀ k, v.ownBlock = some k → ¬ S k) : w'.ownsRow 0 111 4 v n xs := by
  refine ⟨h.1, ?_⟩
  rcases h.2 with h | ⟨g, cap, cur, rfl, hb, hg, r⟩
  · exact .inl h
  · exact .inr ⟨g, cap, cur, rfl, hb, (t.block g (lt_of_heap hg) (hs g rfl)).trans hg, r⟩
/-- A slice that was made since W, of the cells xs. -/
structure OwnT (W w : World) (v : Value) (n : Nat) (xs : List Value) : Prop where
  owns : w.ownsRow 0 111 4 v n xs
  touch : Touch (fun _ => False) W w
  fresh : ∀ k, v.ownBlock = some k → W.heap.size ≤ k
abbrev NewT (W w : World) (v : Value) (l : List Tn) : Prop := OwnT W w v l.length (cellsT l)
theorem NewT.nil (W w : World) (t : Touch (fun _ => False) W w) : NewT W w (.slice none 0 0) [] := ⟨World.ownsRow_nil _ _ _ _, t, fun k hk => by simp [Value.ownBlock] at hk⟩
theorem OwnT.on {W w w' : World} {v : Value} {n : Nat} {xs : List Value} (h : OwnT W w v n xs) (t : Touch (fun _ => False) w w') : OwnT W w' v n xs :=
  ⟨ownT_touch h.owns t (fun _ _ => id), h.touch.trans t, h.fresh⟩
/-- It was made since any world ahead, too. -/
theorem OwnT.since {W0 W w : World} {v : Value} {n : Nat} {xs : List Value} (h : OwnT W w v n xs) (t : Touch (fun _ => False) W0 W) : OwnT W0 w v n xs :=
  ⟨h.owns, t.trans h.touch, fun k hk => Nat.le_trans t.size (h.fresh k hk)⟩
theorem NewT.sl {W w : World} {v : Value} {l : List Tn} (h : NewT W w v l) : SlT w v l := by
  rcases h.owns.2 with ⟨e, h0⟩ | ⟨g, cap, cur, e, hb, hg, q1, q2, q3, q4⟩
  · have : l = [] := List.length_eq_zero_iff.1 (by omega)
    subst this
    rw [e]; exact SlT.nil w
  · refine ⟨_, cap, e, (fun h => by cases h), q1, q2, .inr ⟨g, 0, rfl, fun j u hu => ?_⟩⟩
    rw [← q4, List.getElem?_take] at hu
    split at hu
    · rw [cell_of_block hg, Nat.zero_add, ← Array.getElem?_toList]; exact hu
    · cases hu
theorem run_appendT (w : World) (v : Value) (a : List Tn) (hown : w.ownsRow 0 111 4 v a.length (cellsT a)) (ao : Option Addr) (n cap : Nat) (b : List Tn) (hn : n = b.length) (hno : ao = none → cap = 0) (hL : LiesT w ao b) (hlen : a.length + b.length ≤ 1073741825) :
    ∃ v' w', (Builtin.append_ #[95, 95] 95 #[v, .slice ao n cap]).run Tryz.prog w = .ok v' w' ∧ w'.ownsRow 0 111 4 v' (a ++ b).length (cellsT (a ++ b)) ∧ w.grownBy w' v.ownBlock ∧ (v'.ownBlock = v.ownBlock ∨ v'.ownBlock = some w.heap.size) := by
  subst hn
  obtain ⟨i0, hi, hz0, hz1, hz2⟩ := info_parts infoT
  cases ao with
  | none =>
    have hb : b = [] := by
      rcases hL with h | ⟨b', o, e, _⟩
      · exact h
      · cases e
    subst hb
    have hc := hno rfl
    subst hc
    refine ⟨v, w, run_append_owned_none w 0 95 95 111 i0 4 Tryz.underlying95 hi v a.length (cellsT a) hown, ?_, World.grownBy.refl w _, .inl rfl⟩
    rw [List.append_nil]; exact hown
  | some ad =>
    have hcl : ∀ j u, (cellsT b)[j]? = some u → w.cell? (ad.add j) = some u := by
      rcases hL with h | ⟨b', o, e, h⟩
      · subst h; intro j u hu; simp [cellsT] at hu
      · cases e; intro j u hu; rw [addr_addT]; exact h j u hu
    obtain ⟨v', w', hrun, hown', hg, _, hat⟩ := run_append_own_at w 0 95 95 111 i0 _ 4 32 Tryz.underlying95 hi hz0 hz1 hz2 rfl (by decide) v a.length (cellsT a) hown ad b.length cap (cellsT b) (cellsT_len b) hcl (cellsT_one b) (by unfold maxLen; omega) (by omega) (Nat.zero_le _)
    refine ⟨v', w', hrun, ?_, hg, hat⟩
    rw [cellsT_append, List.length_append]; exact hown'
theorem NewT.app {W wx : World} {v : Value} {a : List Tn} (h : NewT W wx v a) (ao : Option Addr) (n cap : Nat) (b : List Tn) (hn : n = b.length) (hno : ao = none → cap = 0) (hL : LiesT wx ao b) (hlen : a.length + b.length ≤ 1073741825) :
    ∃ v' w', (Builtin.append_ #[95, 95] 95 #[v, .slice ao n cap]).run Tryz.prog wx = .ok v' w' ∧ NewT W w' v' (a ++ b) ∧ wx.grownBy w' v.ownBlock := by
  obtain ⟨v', w', hr, ho, hg, hb⟩ := run_appendT wx v a h.owns ao n cap b hn hno hL hlen
  refine ⟨v', w', hr, ⟨ho, ?_, fun k hk => ?_⟩, hg⟩
  · exact h.touch.then ((Touch.refl (fun i => v.ownBlock = some i) wx).grown hg (fun i e _ => e)) fun i hi e => absurd hi (Nat.not_lt.2 (h.fresh i e))
  · rcases hb with e | e
    · exact h.fresh k (e ▸ hk)
    · rw [hk] at e; have := h.touch.size; simp at e; omega
/-- An append of one, out of a new block. -/
theorem NewT.app1 {W wx : World} {v : Value} {a : List Tn} (h : NewT W wx v a) (r : Tn) (hlen : a.length ≤ 1073741824) :
    ∃ v' w', (Builtin.append_ #[95, 95] 95 #[v, .slice (some ⟨wx.heap.size, 0, none⟩) 1 1]).run Tryz.prog (wx.alloc (tnO r)) = .ok v' w' ∧ NewT W w' v' (a ++ [r]) ∧ (wx.alloc (tnO r)).grownBy w' v.ownBlock :=
  NewT.app (h.on ((Touch.refl _ wx).alloc _)) (some ⟨wx.heap.size, 0, none⟩) 1 1 [r] rfl (fun h => by cases h) (LiesT.new wx r) (by simp; omega)
theorem wpList_append_runT {w w' : World} {ops : Array Oper} {rest : List Oper} {o : Oper} {a : Act} {Q : Exit → Act → World → Prop} (hgd : o.guard = none) (s x : Operand)
    (ho : o.op = .call { callee := .builtin .append, args := #[s, x], argTypes := #[95, 95] }) (v y v' : Value) (hs : a.eval s = v) (hx : a.eval x = y)
    (hrun : (Builtin.append_ #[95, 95] o.type #[v, y]).run Tryz.prog w = .ok v' w') (h : wpList Tryz.prog ops Q rest (a.put o.dst v') w') : wpList Tryz.prog ops Q (o :: rest) a w := by
  refine wpList_plain hgd fun K' hK' => ?_
  unfold Oper.wp
  simp [execOp, ho, resolve, invoke, builtin, hs, hx, hrun, Result.andThen]
  exact hK' _ _ h
/-- A cell of it laid anew. -/
theorem OwnT.set {W w : World} {v : Value} {n : Nat} {xs : List Value} (h : OwnT W w v n xs) {g cap : Nat} (e : v = .slice (some ⟨g, 0, none⟩) n cap) (i : Nat) (hi : i < n * 4) (y : Value) (hy : y.oneCell' = true) : OwnT W (w.setCell ⟨g, i, none⟩ y) v n (xs.set i y) := by
  have hf : W.heap.size ≤ g := h.fresh g (by rw [e]; rfl)
  have h1 := h.owns.1
  rcases h.owns.2 with ⟨e', h0⟩ | ⟨g', cap', cur, e', hb, hg, q1, q2, q3, q4⟩
  · rw [h0] at hi; omega
  · rw [e] at e'
    simp only [Value.slice.injEq, Option.some.injEq, Addr.mk.injEq] at e'
    obtain ⟨⟨rfl, _, _⟩, _, rfl⟩ := e'
    refine ⟨⟨?_, .inr ⟨g, cap, cur.setIfInBounds i y, e, hb, by rw [heap_setCell_same _ _ _ _ hg], q1, q2, ?_, ?_⟩⟩, h.touch.setCell _ _ (fun hk => absurd hk (Nat.not_lt.2 hf)), h.fresh⟩
    · rw [List.length_set]; exact h1
    · simpa using q3
    · rw [Array.toList_setIfInBounds, ← q4, List.take_set]
theorem OwnT.free {W w : World} {v : Value} {n : Nat} {xs : List Value} (h : OwnT W w v n xs) {g cap : Nat} (e : v = .slice (some ⟨g, 0, none⟩) n cap) (hn : 0 < n) (i : Nat) : w.frozen? ⟨g, i, none⟩ = false := by
  rcases h.owns.2 with ⟨e', h0⟩ | ⟨g', cap', cur, e', hb, hg, q1, q2, q3, q4⟩
  · omega
  · rw [e] at e'
    simp only [Value.slice.injEq, Option.some.injEq, Addr.mk.injEq] at e'
    obtain ⟨⟨rfl, _, _⟩, _, rfl⟩ := e'
    exact free_of_block hg
theorem OwnT.shape {W w : World} {v : Value} {n : Nat} {xs : List Value} (h : OwnT W w v n xs) : ∃ ao cap, v = .slice ao n cap ∧ (0 < n → ∃ g, ao = some ⟨g, 0, none⟩) ∧ n ≤ cap ∧ cap ≤ 9223372036854775807 := by
  rcases h.owns.2 with ⟨e, h0⟩ | ⟨g, cap, cur, e, hb, hg, q1, q2, q3, q4⟩
  · exact ⟨none, 0, by rw [e, h0], fun h => by omega, by omega, by omega⟩
  · exact ⟨_, cap, e, fun _ => ⟨g, rfl⟩, q1, q2⟩
end Go.Proofs.YtdblfabbmpdoiaaGreat
