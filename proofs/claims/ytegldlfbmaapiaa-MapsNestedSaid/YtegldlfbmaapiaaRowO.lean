/- Slices of operations: how they lie, are cut, grow. -/
import Derived.Test.YtegldlfbmaapiaaPart2
import Derived.Deep.MidRow
import Derived.Maps.AppendAt
import Derived.Laws.OwnMore
import Derived.Shelf.GgSortFunc.RowK
namespace Go.Proofs.Ytegldlfbmaapiaa
open Go.RowKit Go.Maps
set_option linter.unusedVariables false
set_option linter.unusedSimpArgs false

abbrev zeroO : O := ⟨0, 0, 0, 0, 0, 0, 0, 0, ⟨#[]⟩, 0, 0, 0, ⟨#[]⟩, ⟨#[]⟩, 0, 0, 0, 0, false, 0, 0, false⟩
def cellP (r : O) : List Value := r.vals.toList
def cellsP (l : List O) : List Value := l.flatMap cellP
theorem cellsP_cons (r : O) (l : List O) : cellsP (r :: l) = cellP r ++ cellsP l := rfl
theorem cellP_len (r : O) : (cellP r).length = 22 := rfl
theorem cellsP_append (a b : List O) : cellsP (a ++ b) = cellsP a ++ cellsP b := by simp [cellsP]
theorem cellsP_one (l : List O) : ∀ u ∈ cellsP l, u.oneCell' = true := by
  intro u hu
  obtain ⟨f, _, hf⟩ := List.mem_flatMap.1 hu
  have h : (cellP f).all (·.oneCell') = true := by kernel_rfl
  exact List.all_eq_true.1 h u hf
theorem cellsP_len (l : List O) : (cellsP l).length = l.length * 22 := by
  induction l with
  | nil => rfl
  | cons f r ih => rw [cellsP_cons]; simp only [List.length_append, List.length_cons, ih, cellP_len]; omega
theorem cellsP_get : ∀ (l : List O) (j : Nat) (h : j < l.length) (i : Nat), i < 22 → (cellsP l)[j * 22 + i]? = (cellP l[j])[i]?
  | f :: r, 0, _, i, hi => by
    rw [cellsP_cons, List.getElem?_append_left (by rw [cellP_len]; omega)]
    simp
  | f :: r, j + 1, h, i, hi => by
    have ih := cellsP_get r j (by simpa using h) i hi
    rw [cellsP_cons, List.getElem?_append_right (by rw [cellP_len]; omega), cellP_len, show (j + 1) * 22 + i - 22 = j * 22 + i from by omega, ih]
    rfl
theorem infoP : (Try.prog.info? 41).map (fun i => (i.zero, i.size, i.bytes)) = some (some zeroO.val, 22, 200) := by kernel_rfl
/-- They lie where a slice of that address begins. -/
def LiesP (w : World) (ao : Option Addr) (l : List O) : Prop := l = [] ∨ ∃ b o, ao = some ⟨b, o, none⟩ ∧ ∀ j u, (cellsP l)[j]? = some u → w.cell? ⟨b, o + j, none⟩ = some u
theorem LiesP.touch {W W' : World} {ao : Option Addr} {b : List O} (h : LiesP W ao b) (t : Touch (fun _ => False) W W') : LiesP W' ao b := by
  rcases h with h | ⟨b, o, e, h⟩
  · exact .inl h
  · refine .inr ⟨b, o, e, fun j u hu => ?_⟩
    have := h j u hu
    rw [World.cell?_of_block (t.block _ (World.block_lt_of_cell? _ _ this) id)]; exact this
theorem LiesP.new (W : World) (f : O) : LiesP (W.alloc (opO f)) (some ⟨W.heap.size, 0, none⟩) [f] := by
  refine .inr ⟨W.heap.size, 0, rfl, fun j u hu => ?_⟩
  rw [Nat.zero_add, cell_of_block (heap_alloc_new W (opO f))]
  have e : cellsP [f] = f.vals.toList := by simp [cellsP, cellP]
  rw [e] at hu
  simpa using hu
theorem addr_addP (g o j : Nat) : (⟨g, o, none⟩ : Addr).add j = ⟨g, o + j, none⟩ := by
  unfold Addr.add
  split <;> simp_all
/-- v is a slice of l. -/
def SlP (w : World) (v : Value) (l : List O) : Prop := ∃ ao cap, v = .slice ao l.length cap ∧ (ao = none → cap = 0) ∧ l.length ≤ cap ∧ cap ≤ 9223372036854775807 ∧ LiesP w ao l
theorem SlP.touch {W W' : World} {v : Value} {l : List O} (h : SlP W v l) (t : Touch (fun _ => False) W W') : SlP W' v l := by
  obtain ⟨ao, cap, e, h1, h2, h3, h4⟩ := h
  exact ⟨ao, cap, e, h1, h2, h3, h4.touch t⟩
theorem SlP.nil (w : World) : SlP w (.slice none 0 0) [] := ⟨none, 0, rfl, fun _ => rfl, Nat.le_refl _, by omega, .inl rfl⟩
theorem SlP.row {w : World} {v : Value} {l : List O} (h : SlP w v l) (hne : l ≠ []) : ∃ b o cap, v = .slice (some ⟨b, o, none⟩) l.length cap ∧ l.length ≤ cap ∧ cap ≤ 9223372036854775807 ∧ ∀ j (h : j < l.length), w.rangeAt b (o + j * 22) l[j].vals.toList := by
  obtain ⟨ao, cap, rfl, h1, h2, h3, h4⟩ := h
  rcases h4 with e | ⟨b, o, rfl, hc⟩
  · exact absurd e hne
  · refine ⟨b, o, cap, rfl, h2, h3, fun j hj i u hu => ?_⟩
    have hi : i < 22 := (List.getElem?_eq_some_iff.1 hu).1
    have := cellsP_get l j hj i hi
    have e := hc (j * 22 + i) u (by rw [this]; exact hu)
    rw [Nat.add_assoc]; exact e
theorem SlP.shape {w : World} {v : Value} {l : List O} (h : SlP w v l) : ∃ ao cap, v = .slice ao l.length cap ∧ (ao = none → cap = 0) ∧ l.length ≤ cap ∧ cap ≤ 9223372036854775807 := by
  obtain ⟨ao, cap, e, h1, h2, h3, h4⟩ := h
  exact ⟨ao, cap, e, h1, h2, h3⟩
theorem SlP.from {w : World} {ao : Option Addr} {n cap : Nat} {l : List O} (h : SlP w (.slice ao n cap) l) (c : Nat) (hc : c ≤ l.length) : SlP w (.slice (if cap = c then ao else ao.map (·.add (c * 22))) (n - c) (cap - c)) (l.drop c) := by
  obtain ⟨ao', cap', e, h1, h2, h3, h4⟩ := h
  simp only [Value.slice.injEq] at e
  obtain ⟨rfl, rfl, rfl⟩ := e
  refine ⟨_, _, by rw [List.length_drop], ?_, by rw [List.length_drop]; omega, by omega, ?_⟩
  · intro e
    split at e
    · have := h1 e; omega
    · rw [Option.map_eq_none_iff] at e
      have := h1 e; omega
  · by_cases hd : l.drop c = []
    · exact .inl hd
    · have hlt : c < l.length := by
        rcases Nat.lt_or_ge c l.length with x | x
        · exact x
        · exact absurd (List.drop_of_length_le x) hd
      rcases h4 with h4 | ⟨b, o, rfl, hx⟩
      · subst h4; simp at hlt
      · rw [if_neg (by omega), Option.map_some, addr_addP]
        refine .inr ⟨b, o + c * 22, rfl, fun j u hu => ?_⟩
        have e2 : cellsP l = cellsP (l.take c) ++ cellsP (l.drop c) := by rw [← cellsP_append, List.take_append_drop]
        have hlen : (cellsP (l.take c)).length = c * 22 := by rw [cellsP_len, List.length_take]; omega
        have : (cellsP l)[c * 22 + j]? = some u := by
          rw [e2, List.getElem?_append_right (by omega), hlen, Nat.add_sub_cancel_left]; exact hu
        have := hx _ u this
        rw [Nat.add_assoc]; exact this
theorem SlP.upto {w : World} {ao : Option Addr} {n cap : Nat} {l : List O} (h : SlP w (.slice ao n cap) l) (c : Nat) (hc : c ≤ l.length) : SlP w (.slice ao c cap) (l.take c) := by
  obtain ⟨ao', cap', e, h1, h2, h3, h4⟩ := h
  simp only [Value.slice.injEq] at e
  obtain ⟨rfl, rfl, rfl⟩ := e
  have hlen : (l.take c).length = c := by rw [List.length_take]; omega
  refine ⟨_, _, by rw [hlen], h1, by omega, h3, ?_⟩
  rcases h4 with h4 | ⟨b, o, rfl, hx⟩
  · exact .inl (by rw [h4]; simp)
  · refine .inr ⟨b, o, rfl, fun j u hu => hx j u ?_⟩
    have e2 : cellsP l = cellsP (l.take c) ++ cellsP (l.drop c) := by rw [← cellsP_append, List.take_append_drop]
    rw [e2, List.getElem?_append_left (by rw [List.getElem?_eq_some_iff] at hu; exact hu.1)]; exact hu
theorem sliceP_from (vo : Option Addr) (n cap c : Nat) (h : c ≤ n) (W : World) : (Instr.slice 74 (.slice vo n cap) (some (.int .i64 (c : Int))) none none).run Try.prog W = .ok (.slice (if cap = c then vo else vo.map (·.add (c * 22))) (n - c) (cap - c)) W := by
  have h1 : (c : Int) ≤ (n : Int) := by omega
  have hu := Try.underlying74
  obtain ⟨i0, hi, hz0, hz1, hz2⟩ := info_parts infoP
  simp [Instr.slice, run_underlying hu, Instr.sliceBounds, run_sliceBound, h1, sizeOf, typeInfo, hi, hz1]
theorem sliceP_to (vo : Option Addr) (n cap c : Nat) (h : c ≤ cap) (W : World) : (Instr.slice 74 (.slice vo n cap) none (some (.int .i64 (c : Int))) none).run Try.prog W = .ok (.slice vo c cap) W := by
  have h1 : (c : Int) ≤ (cap : Int) := by omega
  have hu := Try.underlying74
  have ha : ∀ a : Addr, a.add 0 = a := fun a => by cases a; simp [Addr.add]
  obtain ⟨i0, hi, hz0, hz1, hz2⟩ := info_parts infoP
  simp [Instr.slice, run_underlying hu, Instr.sliceBounds, run_sliceBound, h1, sizeOf, typeInfo, hi, ha]

theorem ownP_touch {S : Nat → Prop} {w w' : World} {v : Value} {n : Nat} {xs : List Value} (h : w.ownsRow 0 41 22 v n xs) (t : Touch S w w') (hs : ∀ k, v.ownBlock = some k → ¬ S k) : w'.ownsRow 0 41 22 v n xs := by
  refine ⟨h.1, ?_⟩
  rcases h.2 with h | ⟨g, cap, cur, rfl, hb, hg, r⟩
  · exact .inl h
  · exact .inr ⟨g, cap, cur, rfl, hb, (t.block g (lt_of_heap hg) (hs g rfl)).trans hg, r⟩
/-- A slice that was made since W, of the cells xs. -/
structure OwnP (W w : World) (v : Value) (n : Nat) (xs : List Value) : Prop where
  owns : w.ownsRow 0 41 22 v n xs
  touch : Touch (fun _ => False) W w
  fresh : ∀ k, v.ownBlock = some k → W.heap.size ≤ k
abbrev NewP (W w : World) (v : Value) (l : List O) : Prop := OwnP W w v l.length (cellsP l)
theorem NewP.nil (W w : World) (t : Touch (fun _ => False) W w) : NewP W w (.slice none 0 0) [] := ⟨World.ownsRow_nil _ _ _ _, t, fun k hk => by simp [Value.ownBlock] at hk⟩
theorem OwnP.on {W w w' : World} {v : Value} {n : Nat} {xs : List Value} (h : OwnP W w v n xs) (t : Touch (fun _ => False) w w') : OwnP W w' v n xs :=
  ⟨ownP_touch h.owns t (fun _ _ => id), h.touch.trans t, h.fresh⟩
/-- It was made since any world ahead, too. -/
theorem OwnP.since {W0 W w : World} {v : Value} {n : Nat} {xs : List Value} (h : OwnP W w v n xs) (t : Touch (fun _ => False) W0 W) : OwnP W0 w v n xs :=
  ⟨h.owns, t.trans h.touch, fun k hk => Nat.le_trans t.size (h.fresh k hk)⟩
theorem NewP.sl {W w : World} {v : Value} {l : List O} (h : NewP W w v l) : SlP w v l := by
  rcases h.owns.2 with ⟨e, h0⟩ | ⟨g, cap, cur, e, hb, hg, q1, q2, q3, q4⟩
  · have : l = [] := List.length_eq_zero_iff.1 (by omega)
    subst this
    rw [e]; exact SlP.nil w
  · refine ⟨_, cap, e, (fun h => by cases h), q1, q2, .inr ⟨g, 0, rfl, fun j u hu => ?_⟩⟩
    rw [← q4, List.getElem?_take] at hu
    split at hu
    · rw [cell_of_block hg, Nat.zero_add, ← Array.getElem?_toList]; exact hu
    · cases hu
theorem run_appendP (w : World) (v : Value) (a : List O) (hown : w.ownsRow 0 41 22 v a.length (cellsP a)) (ao : Option Addr) (n cap : Nat) (b : List O) (hn : n = b.length) (hno : ao = none → cap = 0) (hL : LiesP w ao b) (hlen : a.length + b.length ≤ 1073741825) :
    ∃ v' w', (Builtin.append_ #[74, 74] 74 #[v, .slice ao n cap]).run Try.prog w = .ok v' w' ∧ w'.ownsRow 0 41 22 v' (a ++ b).length (cellsP (a ++ b)) ∧ w.grownBy w' v.ownBlock ∧ (v'.ownBlock = v.ownBlock ∨ v'.ownBlock = some w.heap.size) := by
  subst hn
  obtain ⟨i0, hi, hz0, hz1, hz2⟩ := info_parts infoP
  cases ao with
  | none =>
    have hb : b = [] := by
      rcases hL with h | ⟨b', o, e, _⟩
      · exact h
      · cases e
    subst hb
    have hc := hno rfl
    subst hc
    refine ⟨v, w, run_append_owned_none w 0 74 74 41 i0 22 Try.underlying74 hi v a.length (cellsP a) hown, ?_, World.grownBy.refl w _, .inl rfl⟩
    rw [List.append_nil]; exact hown
  | some ad =>
    have hcl : ∀ j u, (cellsP b)[j]? = some u → w.cell? (ad.add j) = some u := by
      rcases hL with h | ⟨b', o, e, h⟩
      · subst h; intro j u hu; simp [cellsP] at hu
      · cases e; intro j u hu; rw [addr_addP]; exact h j u hu
    obtain ⟨v', w', hrun, hown', hg, _, hat⟩ := run_append_own_at w 0 74 74 41 i0 _ 22 200 Try.underlying74 hi hz0 hz1 hz2 rfl (by decide) v a.length (cellsP a) hown ad b.length cap (cellsP b) (cellsP_len b) hcl (cellsP_one b) (by unfold maxLen; omega) (by omega) (Nat.zero_le _)
    refine ⟨v', w', hrun, ?_, hg, hat⟩
    rw [cellsP_append, List.length_append]; exact hown'
theorem NewP.app {W wx : World} {v : Value} {a : List O} (h : NewP W wx v a) (ao : Option Addr) (n cap : Nat) (b : List O) (hn : n = b.length) (hno : ao = none → cap = 0) (hL : LiesP wx ao b) (hlen : a.length + b.length ≤ 1073741825) :
    ∃ v' w', (Builtin.append_ #[74, 74] 74 #[v, .slice ao n cap]).run Try.prog wx = .ok v' w' ∧ NewP W w' v' (a ++ b) ∧ wx.grownBy w' v.ownBlock := by
  obtain ⟨v', w', hr, ho, hg, hb⟩ := run_appendP wx v a h.owns ao n cap b hn hno hL hlen
  refine ⟨v', w', hr, ⟨ho, ?_, fun k hk => ?_⟩, hg⟩
  · exact h.touch.then ((Touch.refl (fun i => v.ownBlock = some i) wx).grown hg (fun i e _ => e)) fun i hi e => absurd hi (Nat.not_lt.2 (h.fresh i e))
  · rcases hb with e | e
    · exact h.fresh k (e ▸ hk)
    · rw [hk] at e; have := h.touch.size; simp at e; omega
/-- An append of one, out of a new block. -/
theorem NewP.app1 {W wx : World} {v : Value} {a : List O} (h : NewP W wx v a) (r : O) (hlen : a.length ≤ 1073741824) :
    ∃ v' w', (Builtin.append_ #[74, 74] 74 #[v, .slice (some ⟨wx.heap.size, 0, none⟩) 1 1]).run Try.prog (wx.alloc (opO r)) = .ok v' w' ∧ NewP W w' v' (a ++ [r]) ∧ (wx.alloc (opO r)).grownBy w' v.ownBlock :=
  NewP.app (h.on ((Touch.refl _ wx).alloc _)) (some ⟨wx.heap.size, 0, none⟩) 1 1 [r] rfl (fun h => by cases h) (LiesP.new wx r) (by simp; omega)
theorem wpList_append_runP {w w' : World} {ops : Array Oper} {rest : List Oper} {o : Oper} {a : Act} {Q : Exit → Act → World → Prop} (hgd : o.guard = none) (s x : Operand)
    (ho : o.op = .call { callee := .builtin .append, args := #[s, x], argTypes := #[74, 74] }) (v y v' : Value) (hs : a.eval s = v) (hx : a.eval x = y)
    (hrun : (Builtin.append_ #[74, 74] o.type #[v, y]).run Try.prog w = .ok v' w') (h : wpList Try.prog ops Q rest (a.put o.dst v') w') : wpList Try.prog ops Q (o :: rest) a w := by
  refine wpList_plain hgd fun K' hK' => ?_
  unfold Oper.wp
  simp [execOp, ho, resolve, invoke, builtin, hs, hx, hrun, Result.andThen]
  exact hK' _ _ h
/-- A cell of it laid anew. -/
theorem OwnP.set {W w : World} {v : Value} {n : Nat} {xs : List Value} (h : OwnP W w v n xs) {g cap : Nat} (e : v = .slice (some ⟨g, 0, none⟩) n cap) (i : Nat) (hi : i < n * 22) (y : Value) (hy : y.oneCell' = true) : OwnP W (w.setCell ⟨g, i, none⟩ y) v n (xs.set i y) := by
  have hf : W.heap.size ≤ g := h.fresh g (by rw [e]; rfl)
  have h1 := h.owns.1
  rcases h.owns.2 with ⟨e', h0⟩ | ⟨g', cap', cur, e', hb, hg, q1, q2, q3, q4⟩
  · rw [h0] at hi; omega
  · rw [e] at e'
    simp only [Value.slice.injEq, Option.some.injEq, Addr.mk.injEq] at e'
    obtain ⟨⟨rfl, _, _⟩, _, rfl⟩ := e'
    refine ⟨⟨?_, .inr ⟨g, cap, cur.setIfInBounds i y, e, hb, by rw [heap_setCell_same _ _ _ _ hg], q1, q2, ?_, ?_⟩⟩, h.touch.setCell _ _ (fun hk => absurd hk (Nat.not_lt.2 hf)), h.fresh⟩
    · rw [List.length_set]; exact h1
    · simpa using q3
    · rw [Array.toList_setIfInBounds, ← q4, List.take_set]
theorem OwnP.free {W w : World} {v : Value} {n : Nat} {xs : List Value} (h : OwnP W w v n xs) {g cap : Nat} (e : v = .slice (some ⟨g, 0, none⟩) n cap) (hn : 0 < n) (i : Nat) : w.frozen? ⟨g, i, none⟩ = false := by
  rcases h.owns.2 with ⟨e', h0⟩ | ⟨g', cap', cur, e', hb, hg, q1, q2, q3, q4⟩
  · omega
  · rw [e] at e'
    simp only [Value.slice.injEq, Option.some.injEq, Addr.mk.injEq] at e'
    obtain ⟨⟨rfl, _, _⟩, _, rfl⟩ := e'
    exact free_of_block hg
theorem OwnP.shape {W w : World} {v : Value} {n : Nat} {xs : List Value} (h : OwnP W w v n xs) : ∃ ao cap, v = .slice ao n cap ∧ (0 < n → ∃ g, ao = some ⟨g, 0, none⟩) ∧ n ≤ cap ∧ cap ≤ 9223372036854775807 := by
  rcases h.owns.2 with ⟨e, h0⟩ | ⟨g, cap, cur, e, hb, hg, q1, q2, q3, q4⟩
  · exact ⟨none, 0, by rw [e, h0], fun h => by omega, by omega, by omega⟩
  · exact ⟨_, cap, e, fun _ => ⟨g, rfl⟩, q1, q2⟩
end Go.Proofs.Ytegldlfbmaapiaa
