/- Slices of ranges: how they lie, are cut, grow. -/
import Derived.Test.YtodpdcflbnomgaaGreatPart2
import Derived.Maps.AppendAt
import Derived.Laws.OwnMore
import Derived.Shelf.GgSortFunc.RowK
namespace Go.Proofs.YtodpdcflbnomgaaGreat
open Go.RowKit Go.Maps
set_option linter.unusedVariables false
set_option linter.unusedSimpArgs false

def cellR (r : Rg) : List Value := [.int .u64 r.c, .int .u64 r.f, .int .u64 r.t]
def cellsR (l : List Rg) : List Value := l.flatMap cellR
theorem cellsR_cons (r : Rg) (l : List Rg) : cellsR (r :: l) = .int .u64 r.c :: .int .u64 r.f :: .int .u64 r.t :: cellsR l := rfl
theorem cellsR_append (a b : List Rg) : cellsR (a ++ b) = cellsR a ++ cellsR b := by simp [cellsR]
theorem cellsR_one (l : List Rg) : ∀ u ∈ cellsR l, u.oneCell' = true := by
  intro u hu
  obtain ⟨f, _, hf⟩ := List.mem_flatMap.1 hu
  simp only [cellR, List.mem_cons, List.not_mem_nil, or_false] at hf
  rcases hf with rfl | rfl | rfl <;> rfl
theorem cellsR_len (l : List Rg) : (cellsR l).length = l.length * 3 := by
  induction l with
  | nil => rfl
  | cons f r ih => rw [cellsR_cons]; simp only [List.length_cons, ih]; omega
theorem cellsR_get : ∀ (l : List Rg) (j : Nat) (h : j < l.length), (cellsR l)[j * 3]? = some (.int .u64 l[j].c) ∧ (cellsR l)[j * 3 + 1]? = some (.int .u64 l[j].f) ∧ (cellsR l)[j * 3 + 2]? = some (.int .u64 l[j].t)
  | f :: r, 0, _ => ⟨rfl, rfl, rfl⟩
  | f :: r, j + 1, h => by
    have ih := cellsR_get r j (by simpa using h)
    rw [cellsR_cons, show (j + 1) * 3 = j * 3 + 3 from by omega]
    exact ih
theorem cellsR_set : ∀ (l : List Rg) (j : Nat) (h : j < l.length) (r : Rg), (((cellsR l).set (j * 3) (.int .u64 r.c)).set (j * 3 + 1) (.int .u64 r.f)).set (j * 3 + 2) (.int .u64 r.t) = cellsR (l.set j r)
  | f :: l, 0, _, r => rfl
  | f :: l, j + 1, h, r => by
    have ih := cellsR_set l j (by simpa using h) r
    rw [cellsR_cons, List.set_cons_succ, cellsR_cons, ← ih, show (j + 1) * 3 = j * 3 + 3 from by omega]
    rfl
/-- One field laid anew. -/
theorem cellsR_to : ∀ (l : List Rg) (j : Nat) (h : j < l.length) (y : Int), (cellsR l).set (j * 3 + 2) (.int .u64 y) = cellsR (l.set j ⟨l[j].c, l[j].f, y⟩)
  | f :: l, 0, _, y => rfl
  | f :: l, j + 1, h, y => by
    have ih := cellsR_to l j (by simpa using h) y
    have hj : j < l.length := by simpa using h
    have e : (f :: l).set (j + 1) ⟨(f :: l)[j + 1].c, (f :: l)[j + 1].f, y⟩ = f :: l.set j ⟨l[j].c, l[j].f, y⟩ := rfl
    rw [e, cellsR_cons, cellsR_cons, ← ih, show (j + 1) * 3 = j * 3 + 3 from by omega]
    rfl
theorem infoR : (Tryz.prog.info? 47).map (fun i => (i.zero, i.size, i.bytes)) = some (some (.agg #[.int .u64 0, .int .u64 0, .int .u64 0]), 3, 24) := by kernel_rfl
/-- They lie where a slice of that address begins. -/
def LiesR (w : World) (ao : Option Addr) (l : List Rg) : Prop := l = [] ∨ ∃ b o, ao = some ⟨b, o, none⟩ ∧ ∀ j u, (cellsR l)[j]? = some u → w.cell? ⟨b, o + j, none⟩ = some u
theorem LiesR.touch {W W' : World} {ao : Option Addr} {b : List Rg} (h : LiesR W ao b) (t : Touch (fun _ => False) W W') : LiesR W' ao b := by
  rcases h with h | ⟨b, o, e, h⟩
  · exact .inl h
  · refine .inr ⟨b, o, e, fun j u hu => ?_⟩
    have := h j u hu
    rw [World.cell?_of_block (t.block _ (World.block_lt_of_cell? _ _ this) id)]; exact this
theorem LiesR.new (W : World) (f : Rg) : LiesR (W.alloc (rgO f)) (some ⟨W.heap.size, 0, none⟩) [f] := by
  refine .inr ⟨_, _, rfl, fun j u hu => ?_⟩
  rw [Nat.zero_add, cell_of_block (heap_alloc_new W (rgO f))]
  have e : cellsR [f] = [.int .u64 f.c, .int .u64 f.f, .int .u64 f.t] := rfl
  rw [e] at hu
  simpa using hu
theorem addr_addR (g o j : Nat) : (⟨g, o, none⟩ : Addr).add j = ⟨g, o + j, none⟩ := by
  unfold Addr.add
  split <;> simp_all
/-- v is a slice of l. -/
def SlR (w : World) (v : Value) (l : List Rg) : Prop := ∃ ao cap, v = .slice ao l.length cap ∧ (ao = none → cap = 0) ∧ l.length ≤ cap ∧ cap ≤ 9223372036854775807 ∧ LiesR w ao l
theorem SlR.touch {W W' : World} {v : Value} {l : List Rg} (h : SlR W v l) (t : Touch (fun _ => False) W W') : SlR W' v l := by
  obtain ⟨ao, cap, e, h1, h2, h3, h4⟩ := h
  exact ⟨ao, cap, e, h1, h2, h3, h4.touch t⟩
theorem SlR.nil (w : World) : SlR w (.slice none 0 0) [] := ⟨none, 0, rfl, fun _ => rfl, Nat.le_refl _, by omega, .inl rfl⟩
/-- Its cells, where there are any. -/
theorem SlR.row {w : World} {v : Value} {l : List Rg} (h : SlR w v l) (hne : l ≠ []) : ∃ b o cap, v = .slice (some ⟨b, o, none⟩) l.length cap ∧ l.length ≤ cap ∧ cap ≤ 9223372036854775807 ∧ b < w.heap.size ∧ ∀ j (h : j < l.length), w.cell? ⟨b, o + j * 3, none⟩ = some (.int .u64 l[j].c) ∧ w.cell? ⟨b, o + j * 3 + 1, none⟩ = some (.int .u64 l[j].f) ∧ w.cell? ⟨b, o + j * 3 + 2, none⟩ = some (.int .u64 l[j].t) := by
  obtain ⟨ao, cap, e, h1, h2, h3, h4⟩ := h
  rcases h4 with h4 | ⟨b, o, rfl, hc⟩
  · exact absurd h4 hne
  · have hx : ∀ j (h : j < l.length), w.cell? ⟨b, o + j * 3, none⟩ = some (.int .u64 l[j].c) ∧ w.cell? ⟨b, o + j * 3 + 1, none⟩ = some (.int .u64 l[j].f) ∧ w.cell? ⟨b, o + j * 3 + 2, none⟩ = some (.int .u64 l[j].t) := fun j hj => by
      obtain ⟨a0, a1, a2⟩ := cellsR_get l j hj
      exact ⟨hc _ _ a0, hc _ _ a1, hc _ _ a2⟩
    refine ⟨b, o, cap, e, h2, h3, ?_, hx⟩
    have hp : 0 < l.length := List.length_pos_iff.2 hne
    exact World.block_lt_of_cell? _ _ (hx 0 hp).1
theorem SlR.shape {w : World} {v : Value} {l : List Rg} (h : SlR w v l) : ∃ ao cap, v = .slice ao l.length cap ∧ (ao = none → cap = 0) ∧ l.length ≤ cap ∧ cap ≤ 9223372036854775807 := by
  obtain ⟨ao, cap, e, h1, h2, h3, h4⟩ := h
  exact ⟨ao, cap, e, h1, h2, h3⟩
theorem SlR.from {w : World} {ao : Option Addr} {n cap : Nat} {l : List Rg} (h : SlR w (.slice ao n cap) l) (c : Nat) (hc : c ≤ l.length) : SlR w (.slice (if cap = c then ao else ao.map (·.add (c * 3))) (n - c) (cap - c)) (l.drop c) := by
  obtain ⟨ao', cap', e, h1, h2, h3, h4⟩ := h
  simp only [Value.slice.injEq] at e
  obtain ⟨rfl, rfl, rfl⟩ := e
  refine ⟨_, _, by rw [List.length_drop], ?_, by rw [List.length_drop]; omega, by omega, ?_⟩
  · intro e
    split at e
    · have := h1 e; omega
    · rw [Option.map_eq_none_iff] at e
      have := h1 e; omega
  · by_cases hd : l.drop c = []
    · exact .inl hd
    · have hlt : c < l.length := by
        rcases Nat.lt_or_ge c l.length with x | x
        · exact x
        · exact absurd (List.drop_of_length_le x) hd
      rcases h4 with h4 | ⟨b, o, rfl, hx⟩
      · subst h4; simp at hlt
      · rw [if_neg (by omega), Option.map_some, addr_addR]
        refine .inr ⟨b, o + c * 3, rfl, fun j u hu => ?_⟩
        have e2 : cellsR l = cellsR (l.take c) ++ cellsR (l.drop c) := by rw [← cellsR_append, List.take_append_drop]
        have hlen : (cellsR (l.take c)).length = c * 3 := by rw [cellsR_len, List.length_take]; omega
        have : (cellsR l)[c * 3 + j]? = some u := by
          rw [e2, List.getElem?_append_right (by omega), hlen, Nat.add_sub_cancel_left]; exact hu
        have := hx _ u this
        rw [Nat.add_assoc]; exact this
theorem SlR.upto {w : World} {ao : Option Addr} {n cap : Nat} {l : List Rg} (h : SlR w (.slice ao n cap) l) (c : Nat) (hc : c ≤ l.length) : SlR w (.slice ao c cap) (l.take c) := by
  obtain ⟨ao', cap', e, h1, h2, h3, h4⟩ := h
  simp only [Value.slice.injEq] at e
  obtain ⟨rfl, rfl, rfl⟩ := e
  have hlen : (l.take c).length = c := by rw [List.length_take]; omega
  refine ⟨_, _, by rw [hlen], h1, by omega, h3, ?_⟩
  rcases h4 with h4 | ⟨b, o, rfl, hx⟩
  · exact .inl (by rw [h4]; simp)
  · refine .inr ⟨b, o, rfl, fun j u hu => hx j u ?_⟩
    have e2 : cellsR l = cellsR (l.take c) ++ cellsR (l.drop c) := by rw [← cellsR_append, List.take_append_drop]
    rw [e2, List.getElem?_append_left (by rw [List.getElem?_eq_some_iff] at hu; exact hu.1)]; exact hu
theorem sliceR_from (vo : Option Addr) (n cap c : Nat) (h : c ≤ n) (W : World) : (Instr.slice 29 (.slice vo n cap) (some (.int .i64 (c : Int))) none none).run Tryz.prog W = .ok (.slice (if cap = c then vo else vo.map (·.add (c * 3))) (n - c) (cap - c)) W := by
  have h1 : (c : Int) ≤ (n : Int) := by omega
  have hu := Tryz.underlying29
  obtain ⟨i0, hi, hz0, hz1, hz2⟩ := info_parts infoR
  simp [Instr.slice, run_underlying hu, Instr.sliceBounds, run_sliceBound, h1, sizeOf, typeInfo, hi, hz1]
theorem sliceR_to (vo : Option Addr) (n cap c : Nat) (h : c ≤ cap) (W : World) : (Instr.slice 29 (.slice vo n cap) none (some (.int .i64 (c : Int))) none).run Tryz.prog W = .ok (.slice vo c cap) W := by
  have h1 : (c : Int) ≤ (cap : Int) := by omega
  have hu := Tryz.underlying29
  have ha : ∀ a : Addr, a.add 0 = a := fun a => by cases a; simp [Addr.add]
  obtain ⟨i0, hi, hz0, hz1, hz2⟩ := info_parts infoR
  simp [Instr.slice, run_underlying hu, Instr.sliceBounds, run_sliceBound, h1, sizeOf, typeInfo, hi, ha]

theorem ownR_touch {S : Nat → Prop} {w w' : World} {v : Value} {n : Nat} {xs : List Value} (h : w.ownsRow 0 47 3 v n xs) (t : Touch S w w') (hs : ∀ k, v.ownBlock = some k → ¬ S k) : w'.ownsRow 0 47 3 v n xs := by
  refine ⟨h.1, ?_⟩
  rcases h.2 with h | ⟨g, cap, cur, rfl, hb, hg, r⟩
  · exact .inl h
  · exact .inr ⟨g, cap, cur, rfl, hb, (t.block g (lt_of_heap hg) (hs g rfl)).trans hg, r⟩
/-- A slice that was made since W, of the cells xs. -/
structure OwnR (W w : World) (v : Value) (n : Nat) (xs : List Value) : Prop where
  owns : w.ownsRow 0 47 3 v n xs
  touch : Touch (fun _ => False) W w
  fresh : ∀ k, v.ownBlock = some k → W.heap.size ≤ k
abbrev NewR (W w : World) (v : Value) (l : List Rg) : Prop := OwnR W w v l.length (cellsR l)
theorem NewR.nil (W w : World) (t : Touch (fun _ => False) W w) : NewR W w (.slice none 0 0) [] := ⟨World.ownsRow_nil _ _ _ _, t, fun k hk => by simp [Value.ownBlock] at hk⟩
theorem OwnR.on {W w w' : World} {v : Value} {n : Nat} {xs : List Value} (h : OwnR W w v n xs) (t : Touch (fun _ => False) w w') : OwnR W w' v n xs :=
  ⟨ownR_touch h.owns t (fun _ _ => id), h.touch.trans t, h.fresh⟩
/-- It was made since any world ahead, too. -/
theorem OwnR.since {W0 W w : World} {v : Value} {n : Nat} {xs : List Value} (h : OwnR W w v n xs) (t : Touch (fun _ => False) W0 W) : OwnR W0 w v n xs :=
  ⟨h.owns, t.trans h.touch, fun k hk => Nat.le_trans t.size (h.fresh k hk)⟩
theorem NewR.sl {W w : World} {v : Value} {l : List Rg} (h : NewR W w v l) : SlR w v l := by
  rcases h.owns.2 with ⟨e, h0⟩ | ⟨g, cap, cur, e, hb, hg, q1, q2, q3, q4⟩
  · have : l = [] := List.length_eq_zero_iff.1 (by omega)
    subst this
    rw [e]; exact SlR.nil w
  · refine ⟨_, cap, e, (fun h => by cases h), q1, q2, .inr ⟨g, 0, rfl, fun j u hu => ?_⟩⟩
    rw [← q4, List.getElem?_take] at hu
    split at hu
    · rw [cell_of_block hg, Nat.zero_add, ← Array.getElem?_toList]; exact hu
    · cases hu
theorem run_appendR (w : World) (v : Value) (a : List Rg) (hown : w.ownsRow 0 47 3 v a.length (cellsR a)) (ao : Option Addr) (n cap : Nat) (b : List Rg) (hn : n = b.length) (hno : ao = none → cap = 0) (hL : LiesR w ao b) (hlen : a.length + b.length ≤ 1073741825) :
    ∃ v' w', (Builtin.append_ #[29, 29] 29 #[v, .slice ao n cap]).run Tryz.prog w = .ok v' w' ∧ w'.ownsRow 0 47 3 v' (a ++ b).length (cellsR (a ++ b)) ∧ w.grownBy w' v.ownBlock ∧ (v'.ownBlock = v.ownBlock ∨ v'.ownBlock = some w.heap.size) := by
  subst hn
  obtain ⟨i0, hi, hz0, hz1, hz2⟩ := info_parts infoR
  cases ao with
  | none =>
    have hb : b = [] := by
      rcases hL with h | ⟨b', o, e, _⟩
      · exact h
      · cases e
    subst hb
    have hc := hno rfl
    subst hc
    refine ⟨v, w, run_append_owned_none w 0 29 29 47 i0 3 Tryz.underlying29 hi v a.length (cellsR a) hown, ?_, World.grownBy.refl w _, .inl rfl⟩
    rw [List.append_nil]; exact hown
  | some ad =>
    have hcl : ∀ j u, (cellsR b)[j]? = some u → w.cell? (ad.add j) = some u := by
      rcases hL with h | ⟨b', o, e, h⟩
      · subst h; intro j u hu; simp [cellsR] at hu
      · cases e; intro j u hu; rw [addr_addR]; exact h j u hu
    obtain ⟨v', w', hrun, hown', hg, _, hat⟩ := run_append_own_at w 0 29 29 47 i0 _ 3 24 Tryz.underlying29 hi hz0 hz1 hz2 rfl (by decide) v a.length (cellsR a) hown ad b.length cap (cellsR b) (cellsR_len b) hcl (cellsR_one b) (by unfold maxLen; omega) (by omega) (Nat.zero_le _)
    refine ⟨v', w', hrun, ?_, hg, hat⟩
    rw [cellsR_append, List.length_append]; exact hown'
theorem NewR.app {W wx : World} {v : Value} {a : List Rg} (h : NewR W wx v a) (ao : Option Addr) (n cap : Nat) (b : List Rg) (hn : n = b.length) (hno : ao = none → cap = 0) (hL : LiesR wx ao b) (hlen : a.length + b.length ≤ 1073741825) :
    ∃ v' w', (Builtin.append_ #[29, 29] 29 #[v, .slice ao n cap]).run Tryz.prog wx = .ok v' w' ∧ NewR W w' v' (a ++ b) ∧ wx.grownBy w' v.ownBlock := by
  obtain ⟨v', w', hr, ho, hg, hb⟩ := run_appendR wx v a h.owns ao n cap b hn hno hL hlen
  refine ⟨v', w', hr, ⟨ho, ?_, fun k hk => ?_⟩, hg⟩
  · exact h.touch.then ((Touch.refl (fun i => v.ownBlock = some i) wx).grown hg (fun i e _ => e)) fun i hi e => absurd hi (Nat.not_lt.2 (h.fresh i e))
  · rcases hb with e | e
    · exact h.fresh k (e ▸ hk)
    · rw [hk] at e; have := h.touch.size; simp at e; omega
/-- An append of one, out of a new block. -/
theorem NewR.app1 {W wx : World} {v : Value} {a : List Rg} (h : NewR W wx v a) (r : Rg) (hlen : a.length ≤ 1073741824) :
    ∃ v' w', (Builtin.append_ #[29, 29] 29 #[v, .slice (some ⟨wx.heap.size, 0, none⟩) 1 1]).run Tryz.prog (wx.alloc (rgO r)) = .ok v' w' ∧ NewR W w' v' (a ++ [r]) ∧ (wx.alloc (rgO r)).grownBy w' v.ownBlock :=
  NewR.app (h.on ((Touch.refl _ wx).alloc _)) (some ⟨wx.heap.size, 0, none⟩) 1 1 [r] rfl (fun h => by cases h) (LiesR.new wx r) (by simp; omega)
theorem wpList_append_runR {w w' : World} {ops : Array Oper} {rest : List Oper} {o : Oper} {a : Act} {Q : Exit → Act → World → Prop} (hgd : o.guard = none) (s x : Operand)
    (ho : o.op = .call { callee := .builtin .append, args := #[s, x], argTypes := #[29, 29] }) (v y v' : Value) (hs : a.eval s = v) (hx : a.eval x = y)
    (hrun : (Builtin.append_ #[29, 29] o.type #[v, y]).run Tryz.prog w = .ok v' w') (h : wpList Tryz.prog ops Q rest (a.put o.dst v') w') : wpList Tryz.prog ops Q (o :: rest) a w := by
  refine wpList_plain hgd fun K' hK' => ?_
  unfold Oper.wp
  simp [execOp, ho, resolve, invoke, builtin, hs, hx, hrun, Result.andThen]
  exact hK' _ _ h
/-- A cell of it laid anew. -/
theorem OwnR.set {W w : World} {v : Value} {n : Nat} {xs : List Value} (h : OwnR W w v n xs) {g cap : Nat} (e : v = .slice (some ⟨g, 0, none⟩) n cap) (i : Nat) (hi : i < n * 3) (y : Value) (hy : y.oneCell' = true) : OwnR W (w.setCell ⟨g, i, none⟩ y) v n (xs.set i y) := by
  have hf : W.heap.size ≤ g := h.fresh g (by rw [e]; rfl)
  have h1 := h.owns.1
  rcases h.owns.2 with ⟨e', h0⟩ | ⟨g', cap', cur, e', hb, hg, q1, q2, q3, q4⟩
  · rw [h0] at hi; omega
  · rw [e] at e'
    simp only [Value.slice.injEq, Option.some.injEq, Addr.mk.injEq] at e'
    obtain ⟨⟨rfl, _, _⟩, _, rfl⟩ := e'
    refine ⟨⟨?_, .inr ⟨g, cap, cur.setIfInBounds i y, e, hb, by rw [heap_setCell_same _ _ _ _ hg], q1, q2, ?_, ?_⟩⟩, h.touch.setCell _ _ (fun hk => absurd hk (Nat.not_lt.2 hf)), h.fresh⟩
    · rw [List.length_set]; exact h1
    · simpa using q3
    · rw [Array.toList_setIfInBounds, ← q4, List.take_set]
theorem OwnR.free {W w : World} {v : Value} {n : Nat} {xs : List Value} (h : OwnR W w v n xs) {g cap : Nat} (e : v = .slice (some ⟨g, 0, none⟩) n cap) (hn : 0 < n) (i : Nat) : w.frozen? ⟨g, i, none⟩ = false := by
  rcases h.owns.2 with ⟨e', h0⟩ | ⟨g', cap', cur, e', hb, hg, q1, q2, q3, q4⟩
  · omega
  · rw [e] at e'
    simp only [Value.slice.injEq, Option.some.injEq, Addr.mk.injEq] at e'
    obtain ⟨⟨rfl, _, _⟩, _, rfl⟩ := e'
    exact free_of_block hg
theorem OwnR.shape {W w : World} {v : Value} {n : Nat} {xs : List Value} (h : OwnR W w v n xs) : ∃ ao cap, v = .slice ao n cap ∧ (0 < n → ∃ g, ao = some ⟨g, 0, none⟩) ∧ n ≤ cap ∧ cap ≤ 9223372036854775807 := by
  rcases h.owns.2 with ⟨e, h0⟩ | ⟨g, cap, cur, e, hb, hg, q1, q2, q3, q4⟩
  · exact ⟨none, 0, by rw [e, h0], fun h => by omega, by omega, by omega⟩
  · exact ⟨_, cap, e, fun _ => ⟨g, rfl⟩, q1, q2⟩
end Go.Proofs.YtodpdcflbnomgaaGreat
