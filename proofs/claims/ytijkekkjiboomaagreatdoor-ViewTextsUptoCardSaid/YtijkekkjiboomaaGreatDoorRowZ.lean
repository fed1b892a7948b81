/- Slices of strings: how they lie, are cut, grow. -/
import Derived.Test.YtijkekkjiboomaaGreatDoorPart2
import Derived.Maps.AppendAt
import Derived.Laws.OwnMore
import Derived.Shelf.GgSortFunc.RowK
namespace Go.Proofs.YtijkekkjiboomaaGreatDoor
open Go.RowKit Go.Maps
set_option linter.unusedVariables false
set_option linter.unusedSimpArgs false

abbrev zO (r : ByteArray) : Obj := .cells #[.string r] 9
def cellZ (r : ByteArray) : List Value := [.string r]
def cellsZ (l : List ByteArray) : List Value := l.flatMap cellZ
theorem cellsZ_cons (r : ByteArray) (l : List ByteArray) : cellsZ (r :: l) = .string r :: cellsZ l := rfl
theorem cellsZ_append (a b : List ByteArray) : cellsZ (a ++ b) = cellsZ a ++ cellsZ b := by simp [cellsZ]
theorem cellsZ_one (l : List ByteArray) : ∀ u ∈ cellsZ l, u.oneCell' = true := by
  intro u hu
  obtain ⟨f, _, hf⟩ := List.mem_flatMap.1 hu
  simp only [cellZ, List.mem_cons, List.not_mem_nil, or_false] at hf
  rcases hf with rfl <;> rfl
theorem cellsZ_len (l : List ByteArray) : (cellsZ l).length = l.length * 1 := by
  induction l with
  | nil => rfl
  | cons f r ih => rw [cellsZ_cons]; simp only [List.length_cons, ih]; omega
theorem cellsZ_get : ∀ (l : List ByteArray) (j : Nat) (h : j < l.length), (cellsZ l)[j * 1]? = some (.string l[j])
  | f :: r, 0, _ => rfl
  | f :: r, j + 1, h => by
    have ih := cellsZ_get r j (by simpa using h)
    rw [cellsZ_cons, show (j + 1) * 1 = j * 1 + 1 from by omega]
    exact ih
theorem cellsZ_set : ∀ (l : List ByteArray) (j : Nat) (h : j < l.length) (r : ByteArray), (cellsZ l).set (j * 1) (.string r) = cellsZ (l.set j r)
  | f :: l, 0, _, r => rfl
  | f :: l, j + 1, h, r => by
    have ih := cellsZ_set l j (by simpa using h) r
    rw [cellsZ_cons, List.set_cons_succ, cellsZ_cons, ← ih, show (j + 1) * 1 = j * 1 + 1 from by omega]
    rfl
theorem infoZ : (Tryz.prog.info? 9).map (fun i => (i.zero, i.size, i.bytes)) = some (some (.string ⟨#[]⟩), 1, 16) := by kernel_rfl
/-- They lie where a slice of that address begins. -/
def LiesZ (w : World) (ao : Option Addr) (l : List ByteArray) : Prop := l = [] ∨ ∃ b o, ao = some ⟨b, o, none⟩ ∧ (∃ c, w.heap[b]? = some (.cells c 9 (0, 0))) ∧ ∀ j u, (cellsZ l)[j]? = some u → w.cell? ⟨b, o + j, none⟩ = some u
theorem LiesZ.touch {W W' : World} {ao : Option Addr} {b : List ByteArray} (h : LiesZ W ao b) (t : Touch (fun _ => False) W W') : LiesZ W' ao b := by
  rcases h with h | ⟨b, o, e, ⟨c, hT⟩, h⟩
  · exact .inl h
  · refine .inr ⟨b, o, e, ⟨c, (t.block _ (Array.getElem?_eq_some_iff.1 hT).1 id).trans hT⟩, fun j u hu => ?_⟩
    have := h j u hu
    rw [World.cell?_of_block (t.block _ (World.block_lt_of_cell? _ _ this) id)]; exact this
theorem LiesZ.new (W : World) (f : ByteArray) : LiesZ (W.alloc (zO f)) (some ⟨W.heap.size, 0, none⟩) [f] := by
  refine .inr ⟨_, _, rfl, ⟨_, heap_alloc_new W (zO f)⟩, fun j u hu => ?_⟩
  rw [Nat.zero_add, cell_of_block (heap_alloc_new W (zO f))]
  have e : cellsZ [f] = [.string f] := rfl
  rw [e] at hu
  simpa using hu
theorem addr_addZ (g o j : Nat) : (⟨g, o, none⟩ : Addr).add j = ⟨g, o + j, none⟩ := by
  unfold Addr.add
  split <;> simp_all
/-- v is a slice of l. -/
def SlZ (w : World) (v : Value) (l : List ByteArray) : Prop := ∃ ao cap, v = .slice ao l.length cap ∧ (ao = none → cap = 0) ∧ l.length ≤ cap ∧ cap ≤ 9223372036854775807 ∧ LiesZ w ao l
theorem SlZ.touch {W W' : World} {v : Value} {l : List ByteArray} (h : SlZ W v l) (t : Touch (fun _ => False) W W') : SlZ W' v l := by
  obtain ⟨ao, cap, e, h1, h2, h3, h4⟩ := h
  exact ⟨ao, cap, e, h1, h2, h3, h4.touch t⟩
theorem SlZ.nil (w : World) : SlZ w (.slice none 0 0) [] := ⟨none, 0, rfl, fun _ => rfl, Nat.le_refl _, by omega, .inl rfl⟩
/-- Its cells, where there are any. -/
theorem SlZ.row {w : World} {v : Value} {l : List ByteArray} (h : SlZ w v l) (hne : l ≠ []) : ∃ b o cap, v = .slice (some ⟨b, o, none⟩) l.length cap ∧ l.length ≤ cap ∧ cap ≤ 9223372036854775807 ∧ b < w.heap.size ∧ ∀ j (h : j < l.length), w.cell? ⟨b, o + j * 1, none⟩ = some (.string l[j]) := by
  obtain ⟨ao, cap, e, h1, h2, h3, h4⟩ := h
  rcases h4 with h4 | ⟨b, o, rfl, _, hc⟩
  · exact absurd h4 hne
  · have hx : ∀ j (h : j < l.length), w.cell? ⟨b, o + j * 1, none⟩ = some (.string l[j]) := fun j hj => by
      have a0 := cellsZ_get l j hj
      exact hc _ _ a0
    refine ⟨b, o, cap, e, h2, h3, ?_, hx⟩
    have hp : 0 < l.length := List.length_pos_iff.2 hne
    exact World.block_lt_of_cell? _ _ (hx 0 hp)
theorem SlZ.shape {w : World} {v : Value} {l : List ByteArray} (h : SlZ w v l) : ∃ ao cap, v = .slice ao l.length cap ∧ (ao = none → cap = 0) ∧ l.length ≤ cap ∧ cap ≤ 9223372036854775807 := by
  obtain ⟨ao, cap, e, h1, h2, h3, h4⟩ := h
  exact ⟨ao, cap, e, h1, h2, h3⟩
theorem SlZ.from {w : World} {ao : Option Addr} {n cap : Nat} {l : List ByteArray} (h : SlZ w (.slice ao n cap) l) (c : Nat) (hc : c ≤ l.length) : SlZ w (.slice (if cap = c then ao else ao.map (·.add (c * 1))) (n - c) (cap - c)) (l.drop c) := by
  obtain ⟨ao', cap', e, h1, h2, h3, h4⟩ := h
  simp only [Value.slice.injEq] at e
  obtain ⟨rfl, rfl, rfl⟩ := e
  refine ⟨_, _, by rw [List.length_drop], ?_, by rw [List.length_drop]; omega, by omega, ?_⟩
  · intro e
    split at e
    · have := h1 e; omega
    · rw [Option.map_eq_none_iff] at e
      have := h1 e; omega
  · by_cases hd : l.drop c = []
    · exact .inl hd
    · have hlt : c < l.length := by
        rcases Nat.lt_or_ge c l.length with x | x
        · exact x
        · exact absurd (List.drop_of_length_le x) hd
      rcases h4 with h4 | ⟨b, o, rfl, hT, hx⟩
      · subst h4; simp at hlt
      · rw [if_neg (by omega), Option.map_some, addr_addZ]
        refine .inr ⟨b, o + c * 1, rfl, hT, fun j u hu => ?_⟩
        have e2 : cellsZ l = cellsZ (l.take c) ++ cellsZ (l.drop c) := by rw [← cellsZ_append, List.take_append_drop]
        have hlen : (cellsZ (l.take c)).length = c * 1 := by rw [cellsZ_len, List.length_take]; omega
        have : (cellsZ l)[c * 1 + j]? = some u := by
          rw [e2, List.getElem?_append_right (by omega), hlen, Nat.add_sub_cancel_left]; exact hu
        have := hx _ u this
        rw [Nat.add_assoc]; exact this
theorem SlZ.upto {w : World} {ao : Option Addr} {n cap : Nat} {l : List ByteArray} (h : SlZ w (.slice ao n cap) l) (c : Nat) (hc : c ≤ l.length) : SlZ w (.slice ao c cap) (l.take c) := by
  obtain ⟨ao', cap', e, h1, h2, h3, h4⟩ := h
  simp only [Value.slice.injEq] at e
  obtain ⟨rfl, rfl, rfl⟩ := e
  have hlen : (l.take c).length = c := by rw [List.length_take]; omega
  refine ⟨_, _, by rw [hlen], h1, by omega, h3, ?_⟩
  rcases h4 with h4 | ⟨b, o, rfl, hT, hx⟩
  · exact .inl (by rw [h4]; simp)
  · refine .inr ⟨b, o, rfl, hT, fun j u hu => hx j u ?_⟩
    have e2 : cellsZ l = cellsZ (l.take c) ++ cellsZ (l.drop c) := by rw [← cellsZ_append, List.take_append_drop]
    rw [e2, List.getElem?_append_left (by rw [List.getElem?_eq_some_iff] at hu; exact hu.1)]; exact hu
theorem sliceZ_from (vo : Option Addr) (n cap c : Nat) (h : c ≤ n) (W : World) : (Instr.slice 62 (.slice vo n cap) (some (.int .i64 (c : Int))) none none).run Tryz.prog W = .ok (.slice (if cap = c then vo else vo.map (·.add (c * 1))) (n - c) (cap - c)) W := by
  have h1 : (c : Int) ≤ (n : Int) := by omega
  have hu := Tryz.underlying62
  obtain ⟨i0, hi, hz0, hz1, hz2⟩ := info_parts infoZ
  simp [Instr.slice, run_underlying hu, Instr.sliceBounds, run_sliceBound, h1, sizeOf, typeInfo, hi, hz1]
theorem sliceZ_to (vo : Option Addr) (n cap c : Nat) (h : c ≤ cap) (W : World) : (Instr.slice 62 (.slice vo n cap) none (some (.int .i64 (c : Int))) none).run Tryz.prog W = .ok (.slice vo c cap) W := by
  have h1 : (c : Int) ≤ (cap : Int) := by omega
  have hu := Tryz.underlying62
  have ha : ∀ a : Addr, a.add 0 = a := fun a => by cases a; simp [Addr.add]
  obtain ⟨i0, hi, hz0, hz1, hz2⟩ := info_parts infoZ
  simp [Instr.slice, run_underlying hu, Instr.sliceBounds, run_sliceBound, h1, sizeOf, typeInfo, hi, ha]

theorem ownZ_touch {S : Nat → Prop} {w w' : World} {v : Value} {n : Nat} {xs : List Value} (h : w.ownsRow 0 9 1 v n xs) (t : Touch S w w') (hs : ∀ k, v.ownBlock = some k → ¬ S k) : w'.ownsRow 0 9 1 v n xs := by
  refine ⟨h.1, ?_⟩
  rcases h.2 with h | ⟨g, cap, cur, rfl, hb, hg, r⟩
  · exact .inl h
  · exact .inr ⟨g, cap, cur, rfl, hb, (t.block g (lt_of_heap hg) (hs g rfl)).trans hg, r⟩
/-- A slice that was made since W, of the cells xs. -/
structure OwnZ (W w : World) (v : Value) (n : Nat) (xs : List Value) : Prop where
  owns : w.ownsRow 0 9 1 v n xs
  touch : Touch (fun _ => False) W w
  fresh : ∀ k, v.ownBlock = some k → W.heap.size ≤ k
abbrev NewZ (W w : World) (v : Value) (l : List ByteArray) : Prop := OwnZ W w v l.length (cellsZ l)
theorem NewZ.nil (W w : World) (t : Touch (fun _ => False) W w) : NewZ W w (.slice none 0 0) [] := ⟨World.ownsRow_nil _ _ _ _, t, fun k hk => by simp [Value.ownBlock] at hk⟩
theorem OwnZ.on {W w w' : World} {v : Value} {n : Nat} {xs : List Value} (h : OwnZ W w v n xs) (t : Touch (fun _ => False) w w') : OwnZ W w' v n xs :=
  ⟨ownZ_touch h.owns t (fun _ _ => id), h.touch.trans t, h.fresh⟩
/-- It was made since any world ahead, too. -/
theorem OwnZ.since {W0 W w : World} {v : Value} {n : Nat} {xs : List Value} (h : OwnZ W w v n xs) (t : Touch (fun _ => False) W0 W) : OwnZ W0 w v n xs :=
  ⟨h.owns, t.trans h.touch, fun k hk => Nat.le_trans t.size (h.fresh k hk)⟩
theorem NewZ.sl {W w : World} {v : Value} {l : List ByteArray} (h : NewZ W w v l) : SlZ w v l := by
  rcases h.owns.2 with ⟨e, h0⟩ | ⟨g, cap, cur, e, hb, hg, q1, q2, q3, q4⟩
  · have : l = [] := List.length_eq_zero_iff.1 (by omega)
    subst this
    rw [e]; exact SlZ.nil w
  · refine ⟨_, cap, e, (fun h => by cases h), q1, q2, .inr ⟨g, 0, rfl, ⟨_, hg⟩, fun j u hu => ?_⟩⟩
    rw [← q4, List.getElem?_take] at hu
    split at hu
    · rw [cell_of_block hg, Nat.zero_add, ← Array.getElem?_toList]; exact hu
    · cases hu
theorem run_appendZ (w : World) (v : Value) (a : List ByteArray) (hown : w.ownsRow 0 9 1 v a.length (cellsZ a)) (ao : Option Addr) (n cap : Nat) (b : List ByteArray) (hn : n = b.length) (hno : ao = none → cap = 0) (hL : LiesZ w ao b) (hlen : a.length + b.length ≤ 1073741825) :
    ∃ v' w', (Builtin.append_ #[62, 62] 62 #[v, .slice ao n cap]).run Tryz.prog w = .ok v' w' ∧ w'.ownsRow 0 9 1 v' (a ++ b).length (cellsZ (a ++ b)) ∧ w.grownBy w' v.ownBlock ∧ (v'.ownBlock = v.ownBlock ∨ v'.ownBlock = some w.heap.size) := by
  subst hn
  obtain ⟨i0, hi, hz0, hz1, hz2⟩ := info_parts infoZ
  cases ao with
  | none =>
    have hb : b = [] := by
      rcases hL with h | ⟨b', o, e, _⟩
      · exact h
      · cases e
    subst hb
    have hc := hno rfl
    subst hc
    refine ⟨v, w, run_append_owned_none w 0 62 62 9 i0 1 Tryz.underlying62 hi v a.length (cellsZ a) hown, ?_, World.grownBy.refl w _, .inl rfl⟩
    rw [List.append_nil]; exact hown
  | some ad =>
    have hcl : ∀ j u, (cellsZ b)[j]? = some u → w.cell? (ad.add j) = some u := by
      rcases hL with h | ⟨b', o, e, _, h⟩
      · subst h; intro j u hu; simp [cellsZ] at hu
      · cases e; intro j u hu; rw [addr_addZ]; exact h j u hu
    obtain ⟨v', w', hrun, hown', hg, _, hat⟩ := run_append_own_at w 0 62 62 9 i0 _ 1 16 Tryz.underlying62 hi hz0 hz1 hz2 rfl (by decide) v a.length (cellsZ a) hown ad b.length cap (cellsZ b) (cellsZ_len b) hcl (cellsZ_one b) (by unfold maxLen; omega) (by omega) (Nat.zero_le _)
    refine ⟨v', w', hrun, ?_, hg, hat⟩
    rw [cellsZ_append, List.length_append]; exact hown'
theorem NewZ.app {W wx : World} {v : Value} {a : List ByteArray} (h : NewZ W wx v a) (ao : Option Addr) (n cap : Nat) (b : List ByteArray) (hn : n = b.length) (hno : ao = none → cap = 0) (hL : LiesZ wx ao b) (hlen : a.length + b.length ≤ 1073741825) :
    ∃ v' w', (Builtin.append_ #[62, 62] 62 #[v, .slice ao n cap]).run Tryz.prog wx = .ok v' w' ∧ NewZ W w' v' (a ++ b) ∧ wx.grownBy w' v.ownBlock := by
  obtain ⟨v', w', hr, ho, hg, hb⟩ := run_appendZ wx v a h.owns ao n cap b hn hno hL hlen
  refine ⟨v', w', hr, ⟨ho, ?_, fun k hk => ?_⟩, hg⟩
  · exact h.touch.then ((Touch.refl (fun i => v.ownBlock = some i) wx).grown hg (fun i e _ => e)) fun i hi e => absurd hi (Nat.not_lt.2 (h.fresh i e))
  · rcases hb with e | e
    · exact h.fresh k (e ▸ hk)
    · rw [hk] at e; have := h.touch.size; simp at e; omega
/-- An append of one, out of a new block. -/
theorem NewZ.app1 {W wx : World} {v : Value} {a : List ByteArray} (h : NewZ W wx v a) (r : ByteArray) (hlen : a.length ≤ 1073741824) :
    ∃ v' w', (Builtin.append_ #[62, 62] 62 #[v, .slice (some ⟨wx.heap.size, 0, none⟩) 1 1]).run Tryz.prog (wx.alloc (zO r)) = .ok v' w' ∧ NewZ W w' v' (a ++ [r]) ∧ (wx.alloc (zO r)).grownBy w' v.ownBlock :=
  NewZ.app (h.on ((Touch.refl _ wx).alloc _)) (some ⟨wx.heap.size, 0, none⟩) 1 1 [r] rfl (fun h => by cases h) (LiesZ.new wx r) (by simp; omega)
theorem wpList_append_runZ {w w' : World} {ops : Array Oper} {rest : List Oper} {o : Oper} {a : Act} {Q : Exit → Act → World → Prop} (hgd : o.guard = none) (s x : Operand)
    (ho : o.op = .call { callee := .builtin .append, args := #[s, x], argTypes := #[62, 62] }) (v y v' : Value) (hs : a.eval s = v) (hx : a.eval x = y)
    (hrun : (Builtin.append_ #[62, 62] o.type #[v, y]).run Tryz.prog w = .ok v' w') (h : wpList Tryz.prog ops Q rest (a.put o.dst v') w') : wpList Tryz.prog ops Q (o :: rest) a w := by
  refine wpList_plain hgd fun K' hK' => ?_
  unfold Oper.wp
  simp [execOp, ho, resolve, invoke, builtin, hs, hx, hrun, Result.andThen]
  exact hK' _ _ h
/-- A cell of it laid anew. -/
theorem OwnZ.set {W w : World} {v : Value} {n : Nat} {xs : List Value} (h : OwnZ W w v n xs) {g cap : Nat} (e : v = .slice (some ⟨g, 0, none⟩) n cap) (i : Nat) (hi : i < n * 1) (y : Value) (hy : y.oneCell' = true) : OwnZ W (w.setCell ⟨g, i, none⟩ y) v n (xs.set i y) := by
  have hf : W.heap.size ≤ g := h.fresh g (by rw [e]; rfl)
  have h1 := h.owns.1
  rcases h.owns.2 with ⟨e', h0⟩ | ⟨g', cap', cur, e', hb, hg, q1, q2, q3, q4⟩
  · rw [h0] at hi; omega
  · rw [e] at e'
    simp only [Value.slice.injEq, Option.some.injEq, Addr.mk.injEq] at e'
    obtain ⟨⟨rfl, _, _⟩, _, rfl⟩ := e'
    refine ⟨⟨?_, .inr ⟨g, cap, cur.setIfInBounds i y, e, hb, by rw [heap_setCell_same _ _ _ _ hg], q1, q2, ?_, ?_⟩⟩, h.touch.setCell _ _ (fun hk => absurd hk (Nat.not_lt.2 hf)), h.fresh⟩
    · rw [List.length_set]; exact h1
    · simpa using q3
    · rw [Array.toList_setIfInBounds, ← q4, List.take_set]
theorem OwnZ.free {W w : World} {v : Value} {n : Nat} {xs : List Value} (h : OwnZ W w v n xs) {g cap : Nat} (e : v = .slice (some ⟨g, 0, none⟩) n cap) (hn : 0 < n) (i : Nat) : w.frozen? ⟨g, i, none⟩ = false := by
  rcases h.owns.2 with ⟨e', h0⟩ | ⟨g', cap', cur, e', hb, hg, q1, q2, q3, q4⟩
  · omega
  · rw [e] at e'
    simp only [Value.slice.injEq, Option.some.injEq, Addr.mk.injEq] at e'
    obtain ⟨⟨rfl, _, _⟩, _, rfl⟩ := e'
    exact free_of_block hg
theorem OwnZ.shape {W w : World} {v : Value} {n : Nat} {xs : List Value} (h : OwnZ W w v n xs) : ∃ ao cap, v = .slice ao n cap ∧ (0 < n → ∃ g, ao = some ⟨g, 0, none⟩) ∧ n ≤ cap ∧ cap ≤ 9223372036854775807 := by
  rcases h.owns.2 with ⟨e, h0⟩ | ⟨g, cap, cur, e, hb, hg, q1, q2, q3, q4⟩
  · exact ⟨none, 0, by rw [e, h0], fun h => by omega, by omega, by omega⟩
  · exact ⟨_, cap, e, fun _ => ⟨g, rfl⟩, q1, q2⟩
end Go.Proofs.YtijkekkjiboomaaGreatDoor
