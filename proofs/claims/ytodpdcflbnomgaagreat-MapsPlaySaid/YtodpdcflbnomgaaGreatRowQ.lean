/- Slices of entries: how they lie, are cut, grow. -/
import Derived.Test.YtodpdcflbnomgaaGreatRowW
import Derived.Test.YtodpdcflbnomgaaGreatPart2
import Derived.Maps.AppendAt
import Derived.Laws.OwnMore
import Derived.Shelf.GgSortFunc.RowK
namespace Go.Proofs.YtodpdcflbnomgaaGreat
open Go.RowKit Go.Maps
set_option linter.unusedVariables false
set_option linter.unusedSimpArgs false

/-- An entry as it lies. -/
structure Ew where
  ky : ByteArray
  vk : Int
  vn : Int
  vf : Nat
  vs : ByteArray
  ks : Sw
deriving Inhabited
abbrev ewO (r : Ew) : Obj := .cells #[.string r.ky, .int .i64 r.vk, .int .i64 r.vn, .float .f64 r.vf, .string r.vs, .slice r.ks.a r.ks.n r.ks.c] 61
abbrev Ew.val (r : Ew) : Value := .agg #[.string r.ky, .int .i64 r.vk, .int .i64 r.vn, .float .f64 r.vf, .string r.vs, .slice r.ks.a r.ks.n r.ks.c]
def cellQ (r : Ew) : List Value := [.string r.ky, .int .i64 r.vk, .int .i64 r.vn, .float .f64 r.vf, .string r.vs, .slice r.ks.a r.ks.n r.ks.c]
def cellsQ (l : List Ew) : List Value := l.flatMap cellQ
theorem cellsQ_cons (r : Ew) (l : List Ew) : cellsQ (r :: l) = .string r.ky :: .int .i64 r.vk :: .int .i64 r.vn :: .float .f64 r.vf :: .string r.vs :: .slice r.ks.a r.ks.n r.ks.c :: cellsQ l := rfl
theorem cellsQ_append (a b : List Ew) : cellsQ (a ++ b) = cellsQ a ++ cellsQ b := by simp [cellsQ]
theorem cellsQ_one (l : List Ew) : ∀ u ∈ cellsQ l, u.oneCell' = true := by
  intro u hu
  obtain ⟨f, _, hf⟩ := List.mem_flatMap.1 hu
  simp only [cellQ, List.mem_cons, List.not_mem_nil, or_false] at hf
  rcases hf with rfl | rfl | rfl | rfl | rfl | rfl <;> rfl
theorem cellsQ_len (l : List Ew) : (cellsQ l).length = l.length * 6 := by
  induction l with
  | nil => rfl
  | cons f r ih => rw [cellsQ_cons]; simp only [List.length_cons, ih]; omega
theorem cellsQ_get : ∀ (l : List Ew) (j : Nat) (h : j < l.length), (cellsQ l)[j * 6]? = some (.string l[j].ky) ∧ (cellsQ l)[j * 6 + 1]? = some (.int .i64 l[j].vk) ∧ (cellsQ l)[j * 6 + 2]? = some (.int .i64 l[j].vn) ∧ (cellsQ l)[j * 6 + 3]? = some (.float .f64 l[j].vf) ∧ (cellsQ l)[j * 6 + 4]? = some (.string l[j].vs) ∧ (cellsQ l)[j * 6 + 5]? = some (.slice l[j].ks.a l[j].ks.n l[j].ks.c)
  | f :: r, 0, _ => ⟨rfl, rfl, rfl, rfl, rfl, rfl⟩
  | f :: r, j + 1, h => by
    have ih := cellsQ_get r j (by simpa using h)
    rw [cellsQ_cons, show (j + 1) * 6 = j * 6 + 6 from by omega]
    exact ih
theorem cellsQ_set : ∀ (l : List Ew) (j : Nat) (h : j < l.length) (r : Ew), ((((((cellsQ l).set (j * 6) (.string r.ky)).set (j * 6 + 1) (.int .i64 r.vk)).set (j * 6 + 2) (.int .i64 r.vn)).set (j * 6 + 3) (.float .f64 r.vf)).set (j * 6 + 4) (.string r.vs)).set (j * 6 + 5) (.slice r.ks.a r.ks.n r.ks.c) = cellsQ (l.set j r)
  | f :: l, 0, _, r => rfl
  | f :: l, j + 1, h, r => by
    have ih := cellsQ_set l j (by simpa using h) r
    rw [cellsQ_cons, List.set_cons_succ, cellsQ_cons, ← ih, show (j + 1) * 6 = j * 6 + 6 from by omega]
    rfl
theorem infoQ : (Tryz.prog.info? 61).map (fun i => (i.zero, i.size, i.bytes)) = some (some (.agg #[.string ⟨#[]⟩, .int .i64 0, .int .i64 0, .float .f64 0, .string ⟨#[]⟩, .slice none 0 0]), 6, 80) := by kernel_rfl
/-- They lie where a slice of that address begins. -/
def LiesQ (w : World) (ao : Option Addr) (l : List Ew) : Prop := l = [] ∨ ∃ b o, ao = some ⟨b, o, none⟩ ∧ ∀ j u, (cellsQ l)[j]? = some u → w.cell? ⟨b, o + j, none⟩ = some u
theorem LiesQ.touch {W W' : World} {ao : Option Addr} {b : List Ew} (h : LiesQ W ao b) (t : Touch (fun _ => False) W W') : LiesQ W' ao b := by
  rcases h with h | ⟨b, o, e, h⟩
  · exact .inl h
  · refine .inr ⟨b, o, e, fun j u hu => ?_⟩
    have := h j u hu
    rw [World.cell?_of_block (t.block _ (World.block_lt_of_cell? _ _ this) id)]; exact this
theorem LiesQ.new (W : World) (f : Ew) : LiesQ (W.alloc (ewO f)) (some ⟨W.heap.size, 0, none⟩) [f] := by
  refine .inr ⟨_, _, rfl, fun j u hu => ?_⟩
  rw [Nat.zero_add, cell_of_block (heap_alloc_new W (ewO f))]
  have e : cellsQ [f] = [.string f.ky, .int .i64 f.vk, .int .i64 f.vn, .float .f64 f.vf, .string f.vs, .slice f.ks.a f.ks.n f.ks.c] := rfl
  rw [e] at hu
  simpa using hu
theorem addr_addQ (g o j : Nat) : (⟨g, o, none⟩ : Addr).add j = ⟨g, o + j, none⟩ := by
  unfold Addr.add
  split <;> simp_all
/-- v is a slice of l. -/
def SlQ (w : World) (v : Value) (l : List Ew) : Prop := ∃ ao cap, v = .slice ao l.length cap ∧ (ao = none → cap = 0) ∧ l.length ≤ cap ∧ cap ≤ 9223372036854775807 ∧ LiesQ w ao l
theorem SlQ.touch {W W' : World} {v : Value} {l : List Ew} (h : SlQ W v l) (t : Touch (fun _ => False) W W') : SlQ W' v l := by
  obtain ⟨ao, cap, e, h1, h2, h3, h4⟩ := h
  exact ⟨ao, cap, e, h1, h2, h3, h4.touch t⟩
theorem SlQ.nil (w : World) : SlQ w (.slice none 0 0) [] := ⟨none, 0, rfl, fun _ => rfl, Nat.le_refl _, by omega, .inl rfl⟩
/-- Its cells, where there are any. -/
theorem SlQ.row {w : World} {v : Value} {l : List Ew} (h : SlQ w v l) (hne : l ≠ []) : ∃ b o cap, v = .slice (some ⟨b, o, none⟩) l.length cap ∧ l.length ≤ cap ∧ cap ≤ 9223372036854775807 ∧ b < w.heap.size ∧ ∀ j (h : j < l.length), w.cell? ⟨b, o + j * 6, none⟩ = some (.string l[j].ky) ∧ w.cell? ⟨b, o + j * 6 + 1, none⟩ = some (.int .i64 l[j].vk) ∧ w.cell? ⟨b, o + j * 6 + 2, none⟩ = some (.int .i64 l[j].vn) ∧ w.cell? ⟨b, o + j * 6 + 3, none⟩ = some (.float .f64 l[j].vf) ∧ w.cell? ⟨b, o + j * 6 + 4, none⟩ = some (.string l[j].vs) ∧ w.cell? ⟨b, o + j * 6 + 5, none⟩ = some (.slice l[j].ks.a l[j].ks.n l[j].ks.c) := by
  obtain ⟨ao, cap, e, h1, h2, h3, h4⟩ := h
  rcases h4 with h4 | ⟨b, o, rfl, hc⟩
  · exact absurd h4 hne
  · have hx : ∀ j (h : j < l.length), w.cell? ⟨b, o + j * 6, none⟩ = some (.string l[j].ky) ∧ w.cell? ⟨b, o + j * 6 + 1, none⟩ = some (.int .i64 l[j].vk) ∧ w.cell? ⟨b, o + j * 6 + 2, none⟩ = some (.int .i64 l[j].vn) ∧ w.cell? ⟨b, o + j * 6 + 3, none⟩ = some (.float .f64 l[j].vf) ∧ w.cell? ⟨b, o + j * 6 + 4, none⟩ = some (.string l[j].vs) ∧ w.cell? ⟨b, o + j * 6 + 5, none⟩ = some (.slice l[j].ks.a l[j].ks.n l[j].ks.c) := fun j hj => by
      obtain ⟨a0, a1, a2, a3, a4, a5⟩ := cellsQ_get l j hj
      exact ⟨hc _ _ a0, hc _ _ a1, hc _ _ a2, hc _ _ a3, hc _ _ a4, hc _ _ a5⟩
    refine ⟨b, o, cap, e, h2, h3, ?_, hx⟩
    have hp : 0 < l.length := List.length_pos_iff.2 hne
    exact World.block_lt_of_cell? _ _ (hx 0 hp).1
theorem SlQ.shape {w : World} {v : Value} {l : List Ew} (h : SlQ w v l) : ∃ ao cap, v = .slice ao l.length cap ∧ (ao = none → cap = 0) ∧ l.length ≤ cap ∧ cap ≤ 9223372036854775807 := by
  obtain ⟨ao, cap, e, h1, h2, h3, h4⟩ := h
  exact ⟨ao, cap, e, h1, h2, h3⟩
theorem SlQ.from {w : World} {ao : Option Addr} {n cap : Nat} {l : List Ew} (h : SlQ w (.slice ao n cap) l) (c : Nat) (hc : c ≤ l.length) : SlQ w (.slice (if cap = c then ao else ao.map (·.add (c * 6))) (n - c) (cap - c)) (l.drop c) := by
  obtain ⟨ao', cap', e, h1, h2, h3, h4⟩ := h
  simp only [Value.slice.injEq] at e
  obtain ⟨rfl, rfl, rfl⟩ := e
  refine ⟨_, _, by rw [List.length_drop], ?_, by rw [List.length_drop]; omega, by omega, ?_⟩
  · intro e
    split at e
    · have := h1 e; omega
    · rw [Option.map_eq_none_iff] at e
      have := h1 e; omega
  · by_cases hd : l.drop c = []
    · exact .inl hd
    · have hlt : c < l.length := by
        rcases Nat.lt_or_ge c l.length with x | x
        · exact x
        · exact absurd (List.drop_of_length_le x) hd
      rcases h4 with h4 | ⟨b, o, rfl, hx⟩
      · subst h4; simp at hlt
      · rw [if_neg (by omega), Option.map_some, addr_addQ]
        refine .inr ⟨b, o + c * 6, rfl, fun j u hu => ?_⟩
        have e2 : cellsQ l = cellsQ (l.take c) ++ cellsQ (l.drop c) := by rw [← cellsQ_append, List.take_append_drop]
        have hlen : (cellsQ (l.take c)).length = c * 6 := by rw [cellsQ_len, List.length_take]; omega
        have : (cellsQ l)[c * 6 + j]? = some u := by
          rw [e2, List.getElem?_append_right (by omega), hlen, Nat.add_sub_cancel_left]; exact hu
        have := hx _ u this
        rw [Nat.add_assoc]; exact this
theorem SlQ.upto {w : World} {ao : Option Addr} {n cap : Nat} {l : List Ew} (h : SlQ w (.slice ao n cap) l) (c : Nat) (hc : c ≤ l.length) : SlQ w (.slice ao c cap) (l.take c) := by
  obtain ⟨ao', cap', e, h1, h2, h3, h4⟩ := h
  simp only [Value.slice.injEq] at e
  obtain ⟨rfl, rfl, rfl⟩ := e
  have hlen : (l.take c).length = c := by rw [List.length_take]; omega
  refine ⟨_, _, by rw [hlen], h1, by omega, h3, ?_⟩
  rcases h4 with h4 | ⟨b, o, rfl, hx⟩
  · exact .inl (by rw [h4]; simp)
  · refine .inr ⟨b, o, rfl, fun j u hu => hx j u ?_⟩
    have e2 : cellsQ l = cellsQ (l.take c) ++ cellsQ (l.drop c) := by rw [← cellsQ_append, List.take_append_drop]
    rw [e2, List.getElem?_append_left (by rw [List.getElem?_eq_some_iff] at hu; exact hu.1)]; exact hu
theorem sliceQ_from (vo : Option Addr) (n cap c : Nat) (h : c ≤ n) (W : World) : (Instr.slice 58 (.slice vo n cap) (some (.int .i64 (c : Int))) none none).run Tryz.prog W = .ok (.slice (if cap = c then vo else vo.map (·.add (c * 6))) (n - c) (cap - c)) W := by
  have h1 : (c : Int) ≤ (n : Int) := by omega
  have hu := Tryz.underlying58
  obtain ⟨i0, hi, hz0, hz1, hz2⟩ := info_parts infoQ
  simp [Instr.slice, run_underlying hu, Instr.sliceBounds, run_sliceBound, h1, sizeOf, typeInfo, hi, hz1]
theorem sliceQ_to (vo : Option Addr) (n cap c : Nat) (h : c ≤ cap) (W : World) : (Instr.slice 58 (.slice vo n cap) none (some (.int .i64 (c : Int))) none).run Tryz.prog W = .ok (.slice vo c cap) W := by
  have h1 : (c : Int) ≤ (cap : Int) := by omega
  have hu := Tryz.underlying58
  have ha : ∀ a : Addr, a.add 0 = a := fun a => by cases a; simp [Addr.add]
  obtain ⟨i0, hi, hz0, hz1, hz2⟩ := info_parts infoQ
  simp [Instr.slice, run_underlying hu, Instr.sliceBounds, run_sliceBound, h1, sizeOf, typeInfo, hi, ha]

theorem ownQ_touch {S : Nat → Prop} {w w' : World} {v : Value} {n : Nat} {xs : List Value} (h : w.ownsRow 0 61 6 v n xs) (t : Touch S w w') (hs : ∀ k, v.ownBlock = some k → ¬ S k) : w'.ownsRow 0 61 6 v n xs := by
  refine ⟨h.1, ?_⟩
  rcases h.2 with h | ⟨g, cap, cur, rfl, hb, hg, r⟩
  · exact .inl h
  · exact .inr ⟨g, cap, cur, rfl, hb, (t.block g (lt_of_heap hg) (hs g rfl)).trans hg, r⟩
/-- A slice that was made since W, of the cells xs. -/
structure OwnQ (W w : World) (v : Value) (n : Nat) (xs : List Value) : Prop where
  owns : w.ownsRow 0 61 6 v n xs
  touch : Touch (fun _ => False) W w
  fresh : ∀ k, v.ownBlock = some k → W.heap.size ≤ k
abbrev NewQ (W w : World) (v : Value) (l : List Ew) : Prop := OwnQ W w v l.length (cellsQ l)
theorem NewQ.nil (W w : World) (t : Touch (fun _ => False) W w) : NewQ W w (.slice none 0 0) [] := ⟨World.ownsRow_nil _ _ _ _, t, fun k hk => by simp [Value.ownBlock] at hk⟩
theorem OwnQ.on {W w w' : World} {v : Value} {n : Nat} {xs : List Value} (h : OwnQ W w v n xs) (t : Touch (fun _ => False) w w') : OwnQ W w' v n xs :=
  ⟨ownQ_touch h.owns t (fun _ _ => id), h.touch.trans t, h.fresh⟩
/-- It was made since any world ahead, too. -/
theorem OwnQ.since {W0 W w : World} {v : Value} {n : Nat} {xs : List Value} (h : OwnQ W w v n xs) (t : Touch (fun _ => False) W0 W) : OwnQ W0 w v n xs :=
  ⟨h.owns, t.trans h.touch, fun k hk => Nat.le_trans t.size (h.fresh k hk)⟩
theorem NewQ.sl {W w : World} {v : Value} {l : List Ew} (h : NewQ W w v l) : SlQ w v l := by
  rcases h.owns.2 with ⟨e, h0⟩ | ⟨g, cap, cur, e, hb, hg, q1, q2, q3, q4⟩
  · have : l = [] := List.length_eq_zero_iff.1 (by omega)
    subst this
    rw [e]; exact SlQ.nil w
  · refine ⟨_, cap, e, (fun h => by cases h), q1, q2, .inr ⟨g, 0, rfl, fun j u hu => ?_⟩⟩
    rw [← q4, List.getElem?_take] at hu
    split at hu
    · rw [cell_of_block hg, Nat.zero_add, ← Array.getElem?_toList]; exact hu
    · cases hu
theorem run_appendQ (w : World) (v : Value) (a : List Ew) (hown : w.ownsRow 0 61 6 v a.length (cellsQ a)) (ao : Option Addr) (n cap : Nat) (b : List Ew) (hn : n = b.length) (hno : ao = none → cap = 0) (hL : LiesQ w ao b) (hlen : a.length + b.length ≤ 1073741825) :
    ∃ v' w', (Builtin.append_ #[58, 58] 58 #[v, .slice ao n cap]).run Tryz.prog w = .ok v' w' ∧ w'.ownsRow 0 61 6 v' (a ++ b).length (cellsQ (a ++ b)) ∧ w.grownBy w' v.ownBlock ∧ (v'.ownBlock = v.ownBlock ∨ v'.ownBlock = some w.heap.size) := by
  subst hn
  obtain ⟨i0, hi, hz0, hz1, hz2⟩ := info_parts infoQ
  cases ao with
  | none =>
    have hb : b = [] := by
      rcases hL with h | ⟨b', o, e, _⟩
      · exact h
      · cases e
    subst hb
    have hc := hno rfl
    subst hc
    refine ⟨v, w, run_append_owned_none w 0 58 58 61 i0 6 Tryz.underlying58 hi v a.length (cellsQ a) hown, ?_, World.grownBy.refl w _, .inl rfl⟩
    rw [List.append_nil]; exact hown
  | some ad =>
    have hcl : ∀ j u, (cellsQ b)[j]? = some u → w.cell? (ad.add j) = some u := by
      rcases hL with h | ⟨b', o, e, h⟩
      · subst h; intro j u hu; simp [cellsQ] at hu
      · cases e; intro j u hu; rw [addr_addQ]; exact h j u hu
    obtain ⟨v', w', hrun, hown', hg, _, hat⟩ := run_append_own_at w 0 58 58 61 i0 _ 6 80 Tryz.underlying58 hi hz0 hz1 hz2 rfl (by decide) v a.length (cellsQ a) hown ad b.length cap (cellsQ b) (cellsQ_len b) hcl (cellsQ_one b) (by unfold maxLen; omega) (by omega) (Nat.zero_le _)
    refine ⟨v', w', hrun, ?_, hg, hat⟩
    rw [cellsQ_append, List.length_append]; exact hown'
theorem NewQ.app {W wx : World} {v : Value} {a : List Ew} (h : NewQ W wx v a) (ao : Option Addr) (n cap : Nat) (b : List Ew) (hn : n = b.length) (hno : ao = none → cap = 0) (hL : LiesQ wx ao b) (hlen : a.length + b.length ≤ 1073741825) :
    ∃ v' w', (Builtin.append_ #[58, 58] 58 #[v, .slice ao n cap]).run Tryz.prog wx = .ok v' w' ∧ NewQ W w' v' (a ++ b) ∧ wx.grownBy w' v.ownBlock := by
  obtain ⟨v', w', hr, ho, hg, hb⟩ := run_appendQ wx v a h.owns ao n cap b hn hno hL hlen
  refine ⟨v', w', hr, ⟨ho, ?_, fun k hk => ?_⟩, hg⟩
  · exact h.touch.then ((Touch.refl (fun i => v.ownBlock = some i) wx).grown hg (fun i e _ => e)) fun i hi e => absurd hi (Nat.not_lt.2 (h.fresh i e))
  · rcases hb with e | e
    · exact h.fresh k (e ▸ hk)
    · rw [hk] at e; have := h.touch.size; simp at e; omega
/-- An append of one, out of a new block. -/
theorem NewQ.app1 {W wx : World} {v : Value} {a : List Ew} (h : NewQ W wx v a) (r : Ew) (hlen : a.length ≤ 1073741824) :
    ∃ v' w', (Builtin.append_ #[58, 58] 58 #[v, .slice (some ⟨wx.heap.size, 0, none⟩) 1 1]).run Tryz.prog (wx.alloc (ewO r)) = .ok v' w' ∧ NewQ W w' v' (a ++ [r]) ∧ (wx.alloc (ewO r)).grownBy w' v.ownBlock :=
  NewQ.app (h.on ((Touch.refl _ wx).alloc _)) (some ⟨wx.heap.size, 0, none⟩) 1 1 [r] rfl (fun h => by cases h) (LiesQ.new wx r) (by simp; omega)
theorem wpList_append_runQ {w w' : World} {ops : Array Oper} {rest : List Oper} {o : Oper} {a : Act} {Q : Exit → Act → World → Prop} (hgd : o.guard = none) (s x : Operand)
    (ho : o.op = .call { callee := .builtin .append, args := #[s, x], argTypes := #[58, 58] }) (v y v' : Value) (hs : a.eval s = v) (hx : a.eval x = y)
    (hrun : (Builtin.append_ #[58, 58] o.type #[v, y]).run Tryz.prog w = .ok v' w') (h : wpList Tryz.prog ops Q rest (a.put o.dst v') w') : wpList Tryz.prog ops Q (o :: rest) a w := by
  refine wpList_plain hgd fun K' hK' => ?_
  unfold Oper.wp
  simp [execOp, ho, resolve, invoke, builtin, hs, hx, hrun, Result.andThen]
  exact hK' _ _ h
/-- A cell of it laid anew. -/
theorem OwnQ.set {W w : World} {v : Value} {n : Nat} {xs : List Value} (h : OwnQ W w v n xs) {g cap : Nat} (e : v = .slice (some ⟨g, 0, none⟩) n cap) (i : Nat) (hi : i < n * 6) (y : Value) (hy : y.oneCell' = true) : OwnQ W (w.setCell ⟨g, i, none⟩ y) v n (xs.set i y) := by
  have hf : W.heap.size ≤ g := h.fresh g (by rw [e]; rfl)
  have h1 := h.owns.1
  rcases h.owns.2 with ⟨e', h0⟩ | ⟨g', cap', cur, e', hb, hg, q1, q2, q3, q4⟩
  · rw [h0] at hi; omega
  · rw [e] at e'
    simp only [Value.slice.injEq, Option.some.injEq, Addr.mk.injEq] at e'
    obtain ⟨⟨rfl, _, _⟩, _, rfl⟩ := e'
    refine ⟨⟨?_, .inr ⟨g, cap, cur.setIfInBounds i y, e, hb, by rw [heap_setCell_same _ _ _ _ hg], q1, q2, ?_, ?_⟩⟩, h.touch.setCell _ _ (fun hk => absurd hk (Nat.not_lt.2 hf)), h.fresh⟩
    · rw [List.length_set]; exact h1
    · simpa using q3
    · rw [Array.toList_setIfInBounds, ← q4, List.take_set]
theorem OwnQ.free {W w : World} {v : Value} {n : Nat} {xs : List Value} (h : OwnQ W w v n xs) {g cap : Nat} (e : v = .slice (some ⟨g, 0, none⟩) n cap) (hn : 0 < n) (i : Nat) : w.frozen? ⟨g, i, none⟩ = false := by
  rcases h.owns.2 with ⟨e', h0⟩ | ⟨g', cap', cur, e', hb, hg, q1, q2, q3, q4⟩
  · omega
  · rw [e] at e'
    simp only [Value.slice.injEq, Option.some.injEq, Addr.mk.injEq] at e'
    obtain ⟨⟨rfl, _, _⟩, _, rfl⟩ := e'
    exact free_of_block hg
theorem OwnQ.shape {W w : World} {v : Value} {n : Nat} {xs : List Value} (h : OwnQ W w v n xs) : ∃ ao cap, v = .slice ao n cap ∧ (0 < n → ∃ g, ao = some ⟨g, 0, none⟩) ∧ n ≤ cap ∧ cap ≤ 9223372036854775807 := by
  rcases h.owns.2 with ⟨e, h0⟩ | ⟨g, cap, cur, e, hb, hg, q1, q2, q3, q4⟩
  · exact ⟨none, 0, by rw [e, h0], fun h => by omega, by omega, by omega⟩
  · exact ⟨_, cap, e, fun _ => ⟨g, rfl⟩, q1, q2⟩
end Go.Proofs.YtodpdcflbnomgaaGreat
