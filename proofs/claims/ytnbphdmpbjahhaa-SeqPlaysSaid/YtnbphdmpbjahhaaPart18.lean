/- Slices of units: how they lie, are cut, grow. -/
import Derived.Test.YtnbphdmpbjahhaaPart9
import Derived.Maps.AppendAt
import Derived.Laws.OwnMore
import Derived.Shelf.GgSortFunc.RowK
import Derived.Test.YtnbphdmpbjahhaaPart16
namespace Go.Proofs.Ytnbphdmpbjahhaa
open Go.RowKit Go.Maps
set_option linter.unusedVariables false
set_option linter.unusedSimpArgs false

abbrev uvO (r : Un) : Obj := .cells #[.int .u64 r.c, .int .u64 r.k, .int .u64 r.lc, .int .u64 r.lk, .int .u64 r.rc, .int .u64 r.rk] 35
def cellV (r : Un) : List Value := [.int .u64 r.c, .int .u64 r.k, .int .u64 r.lc, .int .u64 r.lk, .int .u64 r.rc, .int .u64 r.rk]
def cellsV (l : List Un) : List Value := l.flatMap cellV
theorem cellsV_cons (r : Un) (l : List Un) : cellsV (r :: l) = .int .u64 r.c :: .int .u64 r.k :: .int .u64 r.lc :: .int .u64 r.lk :: .int .u64 r.rc :: .int .u64 r.rk :: cellsV l := rfl
theorem cellsV_append (a b : List Un) : cellsV (a ++ b) = cellsV a ++ cellsV b := by simp [cellsV]
theorem cellsV_one (l : List Un) : ∀ u ∈ cellsV l, u.oneCell' = true := by
  intro u hu
  obtain ⟨f, _, hf⟩ := List.mem_flatMap.1 hu
  simp only [cellV, List.mem_cons, List.not_mem_nil, or_false] at hf
  rcases hf with rfl | rfl | rfl | rfl | rfl | rfl <;> rfl
theorem cellsV_len (l : List Un) : (cellsV l).length = l.length * 6 := by
  induction l with
  | nil => rfl
  | cons f r ih => rw [cellsV_cons]; simp only [List.length_cons, ih]; omega
theorem cellsV_get : ∀ (l : List Un) (j : Nat) (h : j < l.length), (cellsV l)[j * 6]? = some (.int .u64 l[j].c) ∧ (cellsV l)[j * 6 + 1]? = some (.int .u64 l[j].k) ∧ (cellsV l)[j * 6 + 2]? = some (.int .u64 l[j].lc) ∧ (cellsV l)[j * 6 + 3]? = some (.int .u64 l[j].lk) ∧ (cellsV l)[j * 6 + 4]? = some (.int .u64 l[j].rc) ∧ (cellsV l)[j * 6 + 5]? = some (.int .u64 l[j].rk)
  | f :: r, 0, _ => ⟨rfl, rfl, rfl, rfl, rfl, rfl⟩
  | f :: r, j + 1, h => by
    have ih := cellsV_get r j (by simpa using h)
    rw [cellsV_cons, show (j + 1) * 6 = j * 6 + 6 from by omega]
    exact ih
theorem cellsV_set : ∀ (l : List Un) (j : Nat) (h : j < l.length) (r : Un), ((((((cellsV l).set (j * 6) (.int .u64 r.c)).set (j * 6 + 1) (.int .u64 r.k)).set (j * 6 + 2) (.int .u64 r.lc)).set (j * 6 + 3) (.int .u64 r.lk)).set (j * 6 + 4) (.int .u64 r.rc)).set (j * 6 + 5) (.int .u64 r.rk) = cellsV (l.set j r)
  | f :: l, 0, _, r => rfl
  | f :: l, j + 1, h, r => by
    have ih := cellsV_set l j (by simpa using h) r
    rw [cellsV_cons, List.set_cons_succ, cellsV_cons, ← ih, show (j + 1) * 6 = j * 6 + 6 from by omega]
    rfl
theorem infoV : (Try.prog.info? 35).map (fun i => (i.zero, i.size, i.bytes)) = some (some (.agg #[.int .u64 0, .int .u64 0, .int .u64 0, .int .u64 0, .int .u64 0, .int .u64 0]), 6, 48) := by kernel_rfl
/-- They lie where a slice of that address begins. -/
def LiesV (w : World) (ao : Option Addr) (l : List Un) : Prop := l = [] ∨ ∃ b o, ao = some ⟨b, o, none⟩ ∧ ∀ j u, (cellsV l)[j]? = some u → w.cell? ⟨b, o + j, none⟩ = some u
theorem LiesV.touch {W W' : World} {ao : Option Addr} {b : List Un} (h : LiesV W ao b) (t : Touch (fun _ => False) W W') : LiesV W' ao b := by
  rcases h with h | ⟨b, o, e, h⟩
  · exact .inl h
  · refine .inr ⟨b, o, e, fun j u hu => ?_⟩
    have := h j u hu
    rw [World.cell?_of_block (t.block _ (World.block_lt_of_cell? _ _ this) id)]; exact this
theorem LiesV.new (W : World) (f : Un) : LiesV (W.alloc (uvO f)) (some ⟨W.heap.size, 0, none⟩) [f] := by
  refine .inr ⟨_, _, rfl, fun j u hu => ?_⟩
  rw [Nat.zero_add, cell_of_block (heap_alloc_new W (uvO f))]
  have e : cellsV [f] = [.int .u64 f.c, .int .u64 f.k, .int .u64 f.lc, .int .u64 f.lk, .int .u64 f.rc, .int .u64 f.rk] := rfl
  rw [e] at hu
  simpa using hu
theorem addr_addV (g o j : Nat) : (⟨g, o, none⟩ : Addr).add j = ⟨g, o + j, none⟩ := by
  unfold Addr.add
  split <;> simp_all
/-- v is a slice of l. -/
def SlV (w : World) (v : Value) (l : List Un) : Prop := ∃ ao cap, v = .slice ao l.length cap ∧ (ao = none → cap = 0) ∧ l.length ≤ cap ∧ cap ≤ 9223372036854775807 ∧ LiesV w ao l
theorem SlV.touch {W W' : World} {v : Value} {l : List Un} (h : SlV W v l) (t : Touch (fun _ => False) W W') : SlV W' v l := by
  obtain ⟨ao, cap, e, h1, h2, h3, h4⟩ := h
  exact ⟨ao, cap, e, h1, h2, h3, h4.touch t⟩
theorem SlV.nil (w : World) : SlV w (.slice none 0 0) [] := ⟨none, 0, rfl, fun _ => rfl, Nat.le_refl _, by omega, .inl rfl⟩
/-- Its cells, where there are any. -/
theorem SlV.row {w : World} {v : Value} {l : List Un} (h : SlV w v l) (hne : l ≠ []) : ∃ b o cap, v = .slice (some ⟨b, o, none⟩) l.length cap ∧ l.length ≤ cap ∧ cap ≤ 9223372036854775807 ∧ b < w.heap.size ∧ ∀ j (h : j < l.length), w.cell? ⟨b, o + j * 6, none⟩ = some (.int .u64 l[j].c) ∧ w.cell? ⟨b, o + j * 6 + 1, none⟩ = some (.int .u64 l[j].k) ∧ w.cell? ⟨b, o + j * 6 + 2, none⟩ = some (.int .u64 l[j].lc) ∧ w.cell? ⟨b, o + j * 6 + 3, none⟩ = some (.int .u64 l[j].lk) ∧ w.cell? ⟨b, o + j * 6 + 4, none⟩ = some (.int .u64 l[j].rc) ∧ w.cell? ⟨b, o + j * 6 + 5, none⟩ = some (.int .u64 l[j].rk) := by
  obtain ⟨ao, cap, e, h1, h2, h3, h4⟩ := h
  rcases h4 with h4 | ⟨b, o, rfl, hc⟩
  · exact absurd h4 hne
  · have hx : ∀ j (h : j < l.length), w.cell? ⟨b, o + j * 6, none⟩ = some (.int .u64 l[j].c) ∧ w.cell? ⟨b, o + j * 6 + 1, none⟩ = some (.int .u64 l[j].k) ∧ w.cell? ⟨b, o + j * 6 + 2, none⟩ = some (.int .u64 l[j].lc) ∧ w.cell? ⟨b, o + j * 6 + 3, none⟩ = some (.int .u64 l[j].lk) ∧ w.cell? ⟨b, o + j * 6 + 4, none⟩ = some (.int .u64 l[j].rc) ∧ w.cell? ⟨b, o + j * 6 + 5, none⟩ = some (.int .u64 l[j].rk) := fun j hj => by
      obtain ⟨a0, a1, a2, a3, a4, a5⟩ := cellsV_get l j hj
      exact ⟨hc _ _ a0, hc _ _ a1, hc _ _ a2, hc _ _ a3, hc _ _ a4, hc _ _ a5⟩
    refine ⟨b, o, cap, e, h2, h3, ?_, hx⟩
    have hp : 0 < l.length := List.length_pos_iff.2 hne
    exact World.block_lt_of_cell? _ _ (hx 0 hp).1
theorem SlV.shape {w : World} {v : Value} {l : List Un} (h : SlV w v l) : ∃ ao cap, v = .slice ao l.length cap ∧ (ao = none → cap = 0) ∧ l.length ≤ cap ∧ cap ≤ 9223372036854775807 := by
  obtain ⟨ao, cap, e, h1, h2, h3, h4⟩ := h
  exact ⟨ao, cap, e, h1, h2, h3⟩
theorem SlV.from {w : World} {ao : Option Addr} {n cap : Nat} {l : List Un} (h : SlV w (.slice ao n cap) l) (c : Nat) (hc : c ≤ l.length) : SlV w (.slice (if cap = c then ao else ao.map (·.add (c * 6))) (n - c) (cap - c)) (l.drop c) := by
  obtain ⟨ao', cap', e, h1, h2, h3, h4⟩ := h
  simp only [Value.slice.injEq] at e
  obtain ⟨rfl, rfl, rfl⟩ := e
  refine ⟨_, _, by rw [List.length_drop], ?_, by rw [List.length_drop]; omega, by omega, ?_⟩
  · intro e
    split at e
    · have := h1 e; omega
    · rw [Option.map_eq_none_iff] at e
      have := h1 e; omega
  · by_cases hd : l.drop c = []
    · exact .inl hd
    · have hlt : c < l.length := by
        rcases Nat.lt_or_ge c l.length with x | x
        · exact x
        · exact absurd (List.drop_of_length_le x) hd
      rcases h4 with h4 | ⟨b, o, rfl, hx⟩
      · subst h4; simp at hlt
      · rw [if_neg (by omega), Option.map_some, addr_addV]
        refine .inr ⟨b, o + c * 6, rfl, fun j u hu => ?_⟩
        have e2 : cellsV l = cellsV (l.take c) ++ cellsV (l.drop c) := by rw [← cellsV_append, List.take_append_drop]
        have hlen : (cellsV (l.take c)).length = c * 6 := by rw [cellsV_len, List.length_take]; omega
        have : (cellsV l)[c * 6 + j]? = some u := by
          rw [e2, List.getElem?_append_right (by omega), hlen, Nat.add_sub_cancel_left]; exact hu
        have := hx _ u this
        rw [Nat.add_assoc]; exact this
theorem SlV.upto {w : World} {ao : Option Addr} {n cap : Nat} {l : List Un} (h : SlV w (.slice ao n cap) l) (c : Nat) (hc : c ≤ l.length) : SlV w (.slice ao c cap) (l.take c) := by
  obtain ⟨ao', cap', e, h1, h2, h3, h4⟩ := h
  simp only [Value.slice.injEq] at e
  obtain ⟨rfl, rfl, rfl⟩ := e
  have hlen : (l.take c).length = c := by rw [List.length_take]; omega
  refine ⟨_, _, by rw [hlen], h1, by omega, h3, ?_⟩
  rcases h4 with h4 | ⟨b, o, rfl, hx⟩
  · exact .inl (by rw [h4]; simp)
  · refine .inr ⟨b, o, rfl, fun j u hu => hx j u ?_⟩
    have e2 : cellsV l = cellsV (l.take c) ++ cellsV (l.drop c) := by rw [← cellsV_append, List.take_append_drop]
    rw [e2, List.getElem?_append_left (by rw [List.getElem?_eq_some_iff] at hu; exact hu.1)]; exact hu
theorem sliceV_from (vo : Option Addr) (n cap c : Nat) (h : c ≤ n) (W : World) : (Instr.slice 45 (.slice vo n cap) (some (.int .i64 (c : Int))) none none).run Try.prog W = .ok (.slice (if cap = c then vo else vo.map (·.add (c * 6))) (n - c) (cap - c)) W := by
  have h1 : (c : Int) ≤ (n : Int) := by omega
  have hu := Try.underlying45
  obtain ⟨i0, hi, hz0, hz1, hz2⟩ := info_parts infoV
  simp [Instr.slice, run_underlying hu, Instr.sliceBounds, run_sliceBound, h1, sizeOf, typeInfo, hi, hz1]
theorem sliceV_to (vo : Option Addr) (n cap c : Nat) (h : c ≤ cap) (W : World) : (Instr.slice 45 (.slice vo n cap) none (some (.int .i64 (c : Int))) none).run Try.prog W = .ok (.slice vo c cap) W := by
  have h1 : (c : Int) ≤ (cap : Int) := by omega
  have hu := Try.underlying45
  have ha : ∀ a : Addr, a.add 0 = a := fun a => by cases a; simp [Addr.add]
  obtain ⟨i0, hi, hz0, hz1, hz2⟩ := info_parts infoV
  simp [Instr.slice, run_underlying hu, Instr.sliceBounds, run_sliceBound, h1, sizeOf, typeInfo, hi, ha]

theorem ownV_touch {S : Nat → Prop} {w w' : World} {v : Value} {n : Nat} {xs : List Value} (h : w.ownsRow 0 35 6 v n xs) (t : Touch S w w') (hs : ∀ k, v.ownBlock = some k → ¬ S k) : w'.ownsRow 0 35 6 v n xs := by
  refine ⟨h.1, ?_⟩
  rcases h.2 with h | ⟨g, cap, cur, rfl, hb, hg, r⟩
  · exact .inl h
  · exact .inr ⟨g, cap, cur, rfl, hb, (t.block g (lt_of_heap hg) (hs g rfl)).trans hg, r⟩
/-- A slice that was made since W, of the cells xs. -/
structure OwnV (W w : World) (v : Value) (n : Nat) (xs : List Value) : Prop where
  owns : w.ownsRow 0 35 6 v n xs
  touch : Touch (fun _ => False) W w
  fresh : ∀ k, v.ownBlock = some k → W.heap.size ≤ k
abbrev NewV (W w : World) (v : Value) (l : List Un) : Prop := OwnV W w v l.length (cellsV l)
theorem NewV.nil (W w : World) (t : Touch (fun _ => False) W w) : NewV W w (.slice none 0 0) [] := ⟨World.ownsRow_nil _ _ _ _, t, fun k hk => by simp [Value.ownBlock] at hk⟩
theorem OwnV.on {W w w' : World} {v : Value} {n : Nat} {xs : List Value} (h : OwnV W w v n xs) (t : Touch (fun _ => False) w w') : OwnV W w' v n xs :=
  ⟨ownV_touch h.owns t (fun _ _ => id), h.touch.trans t, h.fresh⟩
/-- It was made since any world ahead, too. -/
theorem OwnV.since {W0 W w : World} {v : Value} {n : Nat} {xs : List Value} (h : OwnV W w v n xs) (t : Touch (fun _ => False) W0 W) : OwnV W0 w v n xs :=
  ⟨h.owns, t.trans h.touch, fun k hk => Nat.le_trans t.size (h.fresh k hk)⟩
theorem NewV.sl {W w : World} {v : Value} {l : List Un} (h : NewV W w v l) : SlV w v l := by
  rcases h.owns.2 with ⟨e, h0⟩ | ⟨g, cap, cur, e, hb, hg, q1, q2, q3, q4⟩
  · have : l = [] := List.length_eq_zero_iff.1 (by omega)
    subst this
    rw [e]; exact SlV.nil w
  · refine ⟨_, cap, e, (fun h => by cases h), q1, q2, .inr ⟨g, 0, rfl, fun j u hu => ?_⟩⟩
    rw [← q4, List.getElem?_take] at hu
    split at hu
    · rw [cell_of_block hg, Nat.zero_add, ← Array.getElem?_toList]; exact hu
    · cases hu
theorem run_appendV (w : World) (v : Value) (a : List Un) (hown : w.ownsRow 0 35 6 v a.length (cellsV a)) (ao : Option Addr) (n cap : Nat) (b : List Un) (hn : n = b.length) (hno : ao = none → cap = 0) (hL : LiesV w ao b) (hlen : a.length + b.length ≤ 1073741825) :
    ∃ v' w', (Builtin.append_ #[45, 45] 45 #[v, .slice ao n cap]).run Try.prog w = .ok v' w' ∧ w'.ownsRow 0 35 6 v' (a ++ b).length (cellsV (a ++ b)) ∧ w.grownBy w' v.ownBlock ∧ (v'.ownBlock = v.ownBlock ∨ v'.ownBlock = some w.heap.size) := by
  subst hn
  obtain ⟨i0, hi, hz0, hz1, hz2⟩ := info_parts infoV
  cases ao with
  | none =>
    have hb : b = [] := by
      rcases hL with h | ⟨b', o, e, _⟩
      · exact h
      · cases e
    subst hb
    have hc := hno rfl
    subst hc
    refine ⟨v, w, run_append_owned_none w 0 45 45 35 i0 6 Try.underlying45 hi v a.length (cellsV a) hown, ?_, World.grownBy.refl w _, .inl rfl⟩
    rw [List.append_nil]; exact hown
  | some ad =>
    have hcl : ∀ j u, (cellsV b)[j]? = some u → w.cell? (ad.add j) = some u := by
      rcases hL with h | ⟨b', o, e, h⟩
      · subst h; intro j u hu; simp [cellsV] at hu
      · cases e; intro j u hu; rw [addr_addV]; exact h j u hu
    obtain ⟨v', w', hrun, hown', hg, _, hat⟩ := run_append_own_at w 0 45 45 35 i0 _ 6 48 Try.underlying45 hi hz0 hz1 hz2 rfl (by decide) v a.length (cellsV a) hown ad b.length cap (cellsV b) (cellsV_len b) hcl (cellsV_one b) (by unfold maxLen; omega) (by omega) (Nat.zero_le _)
    refine ⟨v', w', hrun, ?_, hg, hat⟩
    rw [cellsV_append, List.length_append]; exact hown'
theorem NewV.app {W wx : World} {v : Value} {a : List Un} (h : NewV W wx v a) (ao : Option Addr) (n cap : Nat) (b : List Un) (hn : n = b.length) (hno : ao = none → cap = 0) (hL : LiesV wx ao b) (hlen : a.length + b.length ≤ 1073741825) :
    ∃ v' w', (Builtin.append_ #[45, 45] 45 #[v, .slice ao n cap]).run Try.prog wx = .ok v' w' ∧ NewV W w' v' (a ++ b) ∧ wx.grownBy w' v.ownBlock := by
  obtain ⟨v', w', hr, ho, hg, hb⟩ := run_appendV wx v a h.owns ao n cap b hn hno hL hlen
  refine ⟨v', w', hr, ⟨ho, ?_, fun k hk => ?_⟩, hg⟩
  · exact h.touch.then ((Touch.refl (fun i => v.ownBlock = some i) wx).grown hg (fun i e _ => e)) fun i hi e => absurd hi (Nat.not_lt.2 (h.fresh i e))
  · rcases hb with e | e
    · exact h.fresh k (e ▸ hk)
    · rw [hk] at e; have := h.touch.size; simp at e; omega
/-- An append of one, out of a new block. -/
theorem NewV.app1 {W wx : World} {v : Value} {a : List Un} (h : NewV W wx v a) (r : Un) (hlen : a.length ≤ 1073741824) :
    ∃ v' w', (Builtin.append_ #[45, 45] 45 #[v, .slice (some ⟨wx.heap.size, 0, none⟩) 1 1]).run Try.prog (wx.alloc (uvO r)) = .ok v' w' ∧ NewV W w' v' (a ++ [r]) ∧ (wx.alloc (uvO r)).grownBy w' v.ownBlock :=
  NewV.app (h.on ((Touch.refl _ wx).alloc _)) (some ⟨wx.heap.size, 0, none⟩) 1 1 [r] rfl (fun h => by cases h) (LiesV.new wx r) (by simp; omega)
theorem wpList_append_runV {w w' : World} {ops : Array Oper} {rest : List Oper} {o : Oper} {a : Act} {Q : Exit → Act → World → Prop} (hgd : o.guard = none) (s x : Operand)
    (ho : o.op = .call { callee := .builtin .append, args := #[s, x], argTypes := #[45, 45] }) (v y v' : Value) (hs : a.eval s = v) (hx : a.eval x = y)
    (hrun : (Builtin.append_ #[45, 45] o.type #[v, y]).run Try.prog w = .ok v' w') (h : wpList Try.prog ops Q rest (a.put o.dst v') w') : wpList Try.prog ops Q (o :: rest) a w := by
  refine wpList_plain hgd fun K' hK' => ?_
  unfold Oper.wp
  simp [execOp, ho, resolve, invoke, builtin, hs, hx, hrun, Result.andThen]
  exact hK' _ _ h
/-- A cell of it laid anew. -/
theorem OwnV.set {W w : World} {v : Value} {n : Nat} {xs : List Value} (h : OwnV W w v n xs) {g cap : Nat} (e : v = .slice (some ⟨g, 0, none⟩) n cap) (i : Nat) (hi : i < n * 6) (y : Value) (hy : y.oneCell' = true) : OwnV W (w.setCell ⟨g, i, none⟩ y) v n (xs.set i y) := by
  have hf : W.heap.size ≤ g := h.fresh g (by rw [e]; rfl)
  have h1 := h.owns.1
  rcases h.owns.2 with ⟨e', h0⟩ | ⟨g', cap', cur, e', hb, hg, q1, q2, q3, q4⟩
  · rw [h0] at hi; omega
  · rw [e] at e'
    simp only [Value.slice.injEq, Option.some.injEq, Addr.mk.injEq] at e'
    obtain ⟨⟨rfl, _, _⟩, _, rfl⟩ := e'
    refine ⟨⟨?_, .inr ⟨g, cap, cur.setIfInBounds i y, e, hb, by rw [heap_setCell_same _ _ _ _ hg], q1, q2, ?_, ?_⟩⟩, h.touch.setCell _ _ (fun hk => absurd hk (Nat.not_lt.2 hf)), h.fresh⟩
    · rw [List.length_set]; exact h1
    · simpa using q3
    · rw [Array.toList_setIfInBounds, ← q4, List.take_set]
theorem OwnV.free {W w : World} {v : Value} {n : Nat} {xs : List Value} (h : OwnV W w v n xs) {g cap : Nat} (e : v = .slice (some ⟨g, 0, none⟩) n cap) (hn : 0 < n) (i : Nat) : w.frozen? ⟨g, i, none⟩ = false := by
  rcases h.owns.2 with ⟨e', h0⟩ | ⟨g', cap', cur, e', hb, hg, q1, q2, q3, q4⟩
  · omega
  · rw [e] at e'
    simp only [Value.slice.injEq, Option.some.injEq, Addr.mk.injEq] at e'
    obtain ⟨⟨rfl, _, _⟩, _, rfl⟩ := e'
    exact free_of_block hg
theorem OwnV.shape {W w : World} {v : Value} {n : Nat} {xs : List Value} (h : OwnV W w v n xs) : ∃ ao cap, v = .slice ao n cap ∧ (0 < n → ∃ g, ao = some ⟨g, 0, none⟩) ∧ n ≤ cap ∧ cap ≤ 9223372036854775807 := by
  rcases h.owns.2 with ⟨e, h0⟩ | ⟨g, cap, cur, e, hb, hg, q1, q2, q3, q4⟩
  · exact ⟨none, 0, by rw [e, h0], fun h => by omega, by omega, by omega⟩
  · exact ⟨_, cap, e, fun _ => ⟨g, rfl⟩, q1, q2⟩
end Go.Proofs.Ytnbphdmpbjahhaa

/- Package seq: where a sequence's units are, as a list (no Go in it). -/
namespace Go.Proofs.Ytnbphdmpbjahhaa
set_option linter.unusedVariables false
set_option linter.unusedSimpArgs false

/-- The spots of so many units from one on. -/
def spotsFrom (x : Sp) (n : Nat) : List Sp := (List.range n).map fun j : Nat => ⟨x.run, x.pos + (j : Int)⟩
theorem spotsFrom_len (x : Sp) (n : Nat) : (spotsFrom x n).length = n := by simp [spotsFrom]
theorem spotsFrom_get (x : Sp) (n j : Nat) (h : j < n) : (spotsFrom x n)[j]? = some ⟨x.run, x.pos + (j : Int)⟩ := by
  simp [spotsFrom, h]
theorem spotsFrom_add (x : Sp) (a b : Nat) : spotsFrom x (a + b) = spotsFrom x a ++ spotsFrom ⟨x.run, x.pos + (a : Int)⟩ b := by
  unfold spotsFrom
  rw [List.range_add, List.map_append, List.map_map]
  congr 1
  apply List.map_congr_left
  intro j _
  simp only [Function.comp, Sp.mk.injEq, true_and]
  omega
theorem spotsFrom_mem {x y : Sp} {n : Nat} (h : y ∈ spotsFrom x n) : ∃ j : Nat, j < n ∧ y = ⟨x.run, x.pos + (j : Int)⟩ := by
  unfold spotsFrom at h
  obtain ⟨j, hj, rfl⟩ := List.mem_map.1 h
  exact ⟨j, List.mem_range.1 hj, rfl⟩
/-- A piece's. -/
def SS.pcSp (S : SS) (i : Nat) : List Sp := spotsFrom (S.pc i) (S.len i).toNat
/-- All, as they stand. -/
def SS.spots (S : SS) : List Sp := S.ord.flatMap S.pcSp
theorem flat_sum (S : SS) (hl : ∀ x, 0 ≤ S.len x) : ∀ l : List Nat, ((l.flatMap S.pcSp).length : Int) = sumF S.len l
  | [] => rfl
  | i :: l => by
    have := hl i
    rw [List.flatMap_cons, List.length_append, sumF_cons, ← flat_sum S hl l]
    unfold SS.pcSp
    rw [spotsFrom_len]; omega
theorem Inv.spots_len {S : SS} (h : Inv S) : (S.spots.length : Int) = S.total := flat_sum S h.ordF.long S.ord
theorem atF_get (S : SS) (hl : ∀ x, 0 ≤ S.len x) : ∀ (l : List Nat) (p : Int), 0 ≤ p → p < sumF S.len l → (l.flatMap S.pcSp)[p.toNat]? = some ⟨(S.pc (atF S.len l p).1).run, (S.pc (atF S.len l p).1).pos + (atF S.len l p).2⟩
  | [], p, h0, h1 => by rw [sumF_nil] at h1; omega
  | i :: l, p, h0, h1 => by
    have hi := hl i
    rw [sumF_cons] at h1
    rw [List.flatMap_cons]
    unfold atF
    rw [if_neg (by omega)]
    have hlen : (S.pcSp i).length = (S.len i).toNat := spotsFrom_len _ _
    by_cases hp : p < S.len i
    · rw [if_pos hp, List.getElem?_append_left (by omega)]
      have := spotsFrom_get (S.pc i) (S.len i).toNat p.toNat (by omega)
      unfold SS.pcSp
      rw [this, Int.toNat_of_nonneg h0]
    · rw [if_neg hp, List.getElem?_append_right (by omega), hlen]
      have ih := atF_get S hl l (p - S.len i) (by omega) (by omega)
      rw [← ih]
      congr 1
      omega
theorem Inv.spotAt_get {S : SS} (h : Inv S) (p : Int) (h0 : 0 ≤ p) (h1 : p < S.total) : S.spots[p.toNat]? = some (S.spotAt p) := atF_get S h.ordF.long S.ord p h0 h1
theorem atF_ahead {len : Nat → Int} (hl : ∀ x, 0 ≤ len x) : ∀ (l : List Nat) (p : Int), l.Nodup → 0 ≤ p → p < sumF len l → (atF len l p).1 ∈ l ∧ 0 ≤ (atF len l p).2 ∧ (atF len l p).2 < len (atF len l p).1 ∧ aheadF len l (atF len l p).1 + (atF len l p).2 = p
  | [], p, _, h0, h1 => by rw [sumF_nil] at h1; omega
  | i :: l, p, hn, h0, h1 => by
    rw [sumF_cons] at h1
    unfold atF
    rw [if_neg (by omega)]
    by_cases hp : p < len i
    · rw [if_pos hp]
      refine ⟨by simp, h0, hp, ?_⟩
      have := aheadF_of (len := len) (a := []) (b := l) (i := i) (by simp)
      rw [List.nil_append] at this
      rw [this, sumF_nil]
      show 0 + p = p
      omega
    · rw [if_neg hp]
      obtain ⟨h2, h3, h4, h5⟩ := atF_ahead hl l (p - len i) (List.nodup_cons.1 hn).2 (by omega) (by omega)
      refine ⟨List.mem_cons_of_mem _ h2, h3, h4, ?_⟩
      have hne : i ≠ (atF len l (p - len i)).1 := fun e => (List.nodup_cons.1 hn).1 (by rw [e]; exact h2)
      have e : aheadF len (i :: l) (atF len l (p - len i)).1 = len i + aheadF len l (atF len l (p - len i)).1 := by
        unfold aheadF
        rw [List.takeWhile_cons_of_pos (by simpa using hne), sumF_cons]
      rw [e]; omega
theorem lastF_cut {p : Nat → Bool} {A B : List Nat} (hA : ∀ x ∈ A, p x = true) (hB : ∀ x ∈ B, p x = false) : lastF p (A ++ B) = A.getLastD 0 := by
  unfold lastF
  rw [List.takeWhile_append_of_pos hA]
  have : B.takeWhile p = [] := by
    cases B with
    | nil => rfl
    | cons b B => rw [List.takeWhile_cons_of_neg (by simp [hB b (by simp)])]
  rw [this, List.append_nil]
/-- The piece that has an id is the one that is sought by it. -/
theorem Inv.piece_eq {S : SS} (h : Inv S) {i : Nat} (h1 : 1 ≤ i) (h2 : i < S.pcs.length) {j : Int} (hj0 : 0 ≤ j) (hj : j < S.len i) : S.piece (S.first i).c ((S.first i).k + j) = i := by
  have hm : i ∈ S.idx := (h.idxF.lab i).2 ⟨h1, h2⟩
  obtain ⟨A, B, hAB⟩ := List.append_of_mem hm
  have hs := h.sorted
  rw [hAB] at hs
  obtain ⟨_, s2, s3⟩ := List.pairwise_append.1 hs
  have s4 := (List.pairwise_cons.1 s2).1
  unfold SS.piece
  rw [hAB, show A ++ i :: B = (A ++ [i]) ++ B by simp]
  rw [lastF_cut]
  · exact getLastD_mid A [] i 0
  · intro x hx
    rw [holds_iff]
    rcases List.mem_append.1 hx with hx | hx
    · have hxl : x ∈ S.idx := by rw [hAB]; simp [hx]
      have := (h.idxF.lab x).1 hxl
      have hlx := (h.pcs x (by omega) this.2).2.2.2.1
      rcases s3 x hx i (by simp) with e | ⟨e, e'⟩
      · exact .inl e
      · exact .inr ⟨e, by omega⟩
    · simp only [List.mem_singleton] at hx
      subst hx
      exact .inr ⟨rfl, by omega⟩
  · intro y hy
    cases hh : S.holds (S.first i).c ((S.first i).k + j) y with
    | false => rfl
    | true =>
      rw [holds_iff] at hh
      rcases s4 y hy with e | ⟨e, e'⟩ <;> omega
theorem Inv.find_eq {S : SS} (h : Inv S) {i : Nat} (h1 : 1 ≤ i) (h2 : i < S.pcs.length) {j : Int} (hj0 : 0 ≤ j) (hj : j < S.len i) : S.find (S.first i).c ((S.first i).k + j) = aheadF S.len S.ord i + j ∧ S.spotOf (S.first i).c ((S.first i).k + j) = ⟨(S.pc i).run, (S.pc i).pos + j⟩ := by
  have e := h.piece_eq h1 h2 hj0 hj
  unfold SS.find SS.spotOf
  rw [e, if_neg (by omega)]
  refine ⟨by omega, ?_⟩
  simp only [Sp.mk.injEq, true_and]
  omega
theorem SS.unit_c (S : SS) (x : Sp) : (S.unit x).c = (rn S.runs x.run).first.c := unitR_c _ _
theorem SS.unit_k (S : SS) (x : Sp) : (S.unit x).k = (rn S.runs x.run).first.k + x.pos := unitR_k _ _
/-- A unit's id is found at its place. -/
theorem Inv.find_at {S : SS} (h : Inv S) {m : Nat} {x : Sp} (hm : S.spots[m]? = some x) : S.find (S.unit x).c (S.unit x).k = (m : Int) ∧ S.spotOf (S.unit x).c (S.unit x).k = x := by
  have hlt : (m : Int) < S.total := by
    have := (List.getElem?_eq_some_iff.1 hm).1
    have := h.spots_len
    omega
  have hg := h.spotAt_get (m : Int) (by omega) hlt
  rw [Int.toNat_natCast, hm] at hg
  obtain rfl := Option.some.inj hg
  obtain ⟨a1, a2, a3, a4⟩ := atF_ahead h.ordF.long S.ord (m : Int) h.ordF.nod (by omega) hlt
  have hl := (h.ordF.lab _).1 a1
  have hf := h.find_eq hl.1 hl.2 a2 a3
  have ec : (S.unit (S.spotAt m)).c = (S.first (atF S.len S.ord m).1).c := by unfold SS.first; rw [SS.unit_c, SS.unit_c]; rfl
  have ek : (S.unit (S.spotAt m)).k = (S.first (atF S.len S.ord m).1).k + (atF S.len S.ord m).2 := by
    unfold SS.first
    rw [SS.unit_k, SS.unit_k]
    show (rn S.runs (S.pc (atF S.len S.ord m).1).run).first.k + ((S.pc _).pos + _) = _ + (S.pc _).pos + _
    omega
  rw [ec, ek]
  exact ⟨by rw [hf.1, a4], hf.2⟩
/-- An id that is found is that of the unit there. -/
theorem Inv.at_find {S : SS} (h : Inv S) {c k : Int} (hc : 0 ≤ c) (hk : 0 ≤ k) (hf : S.find c k ≠ -1) : 0 ≤ S.find c k ∧ S.spots[(S.find c k).toNat]? = some (S.spotOf c k) ∧ (S.unit (S.spotOf c k)).c = c ∧ (S.unit (S.spotOf c k)).k = k := by
  have h1 := h.piece_le c k hc hk
  unfold SS.find at hf
  split at hf
  · exact absurd rfl hf
  · next hn =>
    have a : (S.first (S.piece c k)).c = c := Decidable.byContradiction fun e => hn (.inl e)
    have b : ¬ S.len (S.piece c k) ≤ k - (S.first (S.piece c k)).k := fun e => hn (.inr e)
    have hz : S.piece c k ≠ 0 := fun e => by rw [e, h.ordF.zero] at b; rw [e] at h1 a; omega
    have hlt := h.piece_lt c k
    have hk2 : (S.first (S.piece c k)).k + (k - (S.first (S.piece c k)).k) = k := by omega
    have he := h.find_eq (i := S.piece c k) (by omega) hlt (j := k - (S.first (S.piece c k)).k) (by omega) (by omega)
    rw [a, hk2] at he
    have hah := h.ahead_le (S.piece c k)
    obtain ⟨A, B, hAB⟩ := List.append_of_mem ((h.ordF.lab _).2 ⟨by omega, hlt⟩)
    have hnA : S.piece c k ∉ A := fun hx => by
      have hn := h.ordF.nod
      rw [hAB] at hn
      exact (List.nodup_append.1 hn).2.2 _ hx _ (by simp) rfl
    have ha : aheadF S.len S.ord (S.piece c k) = sumF S.len A := by rw [hAB]; exact aheadF_of hnA
    have hfl := flat_sum S h.ordF.long A
    refine ⟨by rw [he.1]; omega, ?_, ?_, ?_⟩
    · rw [he.1, he.2, ha]
      unfold SS.spots
      rw [hAB, List.flatMap_append, List.flatMap_cons, List.getElem?_append_right (by omega), List.getElem?_append_left (by
        show _ < (spotsFrom _ _).length
        rw [spotsFrom_len]; omega)]
      have hi : (sumF S.len A + (k - (S.first (S.piece c k)).k)).toNat - (A.flatMap S.pcSp).length = (k - (S.first (S.piece c k)).k).toNat := by omega
      rw [hi]
      have := spotsFrom_get (S.pc (S.piece c k)) (S.len (S.piece c k)).toNat (k - (S.first (S.piece c k)).k).toNat (by omega)
      unfold SS.pcSp
      rw [this, Int.toNat_of_nonneg (by omega)]
    · rw [he.2, SS.unit_c]
      have : (S.first (S.piece c k)).c = (rn S.runs (S.pc (S.piece c k)).run).first.c := SS.unit_c _ _
      exact this.symm.trans a
    · rw [he.2, SS.unit_k]
      have : (S.first (S.piece c k)).k = (rn S.runs (S.pc (S.piece c k)).run).first.k + (S.pc (S.piece c k)).pos := SS.unit_k _ _
      show (rn S.runs (S.pc (S.piece c k)).run).first.k + ((S.pc _).pos + _) = k
      omega
theorem Inv.hasAny_one {S : SS} (h : Inv S) {c k : Int} (hc : 1 ≤ c) (hk : 0 ≤ k) : S.hasAny c k 1 = true ↔ S.find c k ≠ -1 := by
  have h1 := h.piece_le c k (by omega) hk
  have hah := h.ahead_le (S.piece c k)
  have e : k + (1 - 1) = k := by omega
  unfold SS.hasAny SS.find
  rw [e, decide_eq_true_iff]
  constructor
  · rintro ⟨a, b⟩
    rw [if_neg (by omega)]
    omega
  · intro hf
    split at hf
    · exact absurd rfl hf
    · next hn =>
      have a : (S.first (S.piece c k)).c = c := Decidable.byContradiction fun e => hn (.inl e)
      have b : ¬ S.len (S.piece c k) ≤ k - (S.first (S.piece c k)).k := fun e => hn (.inr e)
      exact ⟨a, by omega⟩
end Go.Proofs.Ytnbphdmpbjahhaa
