/- Slices of ids: how they lie, are cut, grow. -/
import Derived.Test.YtnbphdmpbjahhaaPart9
import Derived.Maps.AppendAt
import Derived.Laws.OwnMore
import Derived.Shelf.GgSortFunc.RowK
import Derived.Test.YtnbphdmpbjahhaaOwn1
import Derived.Test.YtnbphdmpbjahhaaOwn3
namespace Go.Proofs.Ytnbphdmpbjahhaa
open Go.RowKit Go.Maps
set_option linter.unusedVariables false
set_option linter.unusedSimpArgs false

structure Ip where
  c : Int
  k : Int
deriving DecidableEq, Inhabited
abbrev ipO (r : Ip) : Obj := .cells #[.int .u64 r.c, .int .u64 r.k] 33
def cellD (r : Ip) : List Value := [.int .u64 r.c, .int .u64 r.k]
def cellsD (l : List Ip) : List Value := l.flatMap cellD
theorem cellsD_cons (r : Ip) (l : List Ip) : cellsD (r :: l) = .int .u64 r.c :: .int .u64 r.k :: cellsD l := rfl
theorem cellsD_append (a b : List Ip) : cellsD (a ++ b) = cellsD a ++ cellsD b := by simp [cellsD]
theorem cellsD_one (l : List Ip) : ∀ u ∈ cellsD l, u.oneCell' = true := by
  intro u hu
  obtain ⟨f, _, hf⟩ := List.mem_flatMap.1 hu
  simp only [cellD, List.mem_cons, List.not_mem_nil, or_false] at hf
  rcases hf with rfl | rfl <;> rfl
theorem cellsD_len (l : List Ip) : (cellsD l).length = l.length * 2 := by
  induction l with
  | nil => rfl
  | cons f r ih => rw [cellsD_cons]; simp only [List.length_cons, ih]; omega
theorem cellsD_get : ∀ (l : List Ip) (j : Nat) (h : j < l.length), (cellsD l)[j * 2]? = some (.int .u64 l[j].c) ∧ (cellsD l)[j * 2 + 1]? = some (.int .u64 l[j].k)
  | f :: r, 0, _ => ⟨rfl, rfl⟩
  | f :: r, j + 1, h => by
    have ih := cellsD_get r j (by simpa using h)
    rw [cellsD_cons, show (j + 1) * 2 = j * 2 + 2 from by omega]
    exact ih
theorem cellsD_set : ∀ (l : List Ip) (j : Nat) (h : j < l.length) (r : Ip), ((cellsD l).set (j * 2) (.int .u64 r.c)).set (j * 2 + 1) (.int .u64 r.k) = cellsD (l.set j r)
  | f :: l, 0, _, r => rfl
  | f :: l, j + 1, h, r => by
    have ih := cellsD_set l j (by simpa using h) r
    rw [cellsD_cons, List.set_cons_succ, cellsD_cons, ← ih, show (j + 1) * 2 = j * 2 + 2 from by omega]
    rfl
/-- One field laid anew. -/
theorem cellsD_to : ∀ (l : List Ip) (j : Nat) (h : j < l.length) (y : Int), (cellsD l).set (j * 2 + 1) (.int .u64 y) = cellsD (l.set j ⟨l[j].c, y⟩)
  | f :: l, 0, _, y => rfl
  | f :: l, j + 1, h, y => by
    have ih := cellsD_to l j (by simpa using h) y
    have hj : j < l.length := by simpa using h
    have e : (f :: l).set (j + 1) ⟨(f :: l)[j + 1].c, y⟩ = f :: l.set j ⟨l[j].c, y⟩ := rfl
    rw [e, cellsD_cons, cellsD_cons, ← ih, show (j + 1) * 2 = j * 2 + 2 from by omega]
    rfl
theorem infoD : (Try.prog.info? 33).map (fun i => (i.zero, i.size, i.bytes)) = some (some (.agg #[.int .u64 0, .int .u64 0]), 2, 16) := by kernel_rfl
/-- They lie where a slice of that address begins. -/
def LiesD (w : World) (ao : Option Addr) (l : List Ip) : Prop := l = [] ∨ ∃ b o, ao = some ⟨b, o, none⟩ ∧ ∀ j u, (cellsD l)[j]? = some u → w.cell? ⟨b, o + j, none⟩ = some u
theorem LiesD.touch {W W' : World} {ao : Option Addr} {b : List Ip} (h : LiesD W ao b) (t : Touch (fun _ => False) W W') : LiesD W' ao b := by
  rcases h with h | ⟨b, o, e, h⟩
  · exact .inl h
  · refine .inr ⟨b, o, e, fun j u hu => ?_⟩
    have := h j u hu
    rw [World.cell?_of_block (t.block _ (World.block_lt_of_cell? _ _ this) id)]; exact this
theorem LiesD.new (W : World) (f : Ip) : LiesD (W.alloc (ipO f)) (some ⟨W.heap.size, 0, none⟩) [f] := by
  refine .inr ⟨_, _, rfl, fun j u hu => ?_⟩
  rw [Nat.zero_add, cell_of_block (heap_alloc_new W (ipO f))]
  have e : cellsD [f] = [.int .u64 f.c, .int .u64 f.k] := rfl
  rw [e] at hu
  simpa using hu
theorem addr_addD (g o j : Nat) : (⟨g, o, none⟩ : Addr).add j = ⟨g, o + j, none⟩ := by
  unfold Addr.add
  split <;> simp_all
/-- v is a slice of l. -/
def SlD (w : World) (v : Value) (l : List Ip) : Prop := ∃ ao cap, v = .slice ao l.length cap ∧ (ao = none → cap = 0) ∧ l.length ≤ cap ∧ cap ≤ 9223372036854775807 ∧ LiesD w ao l
theorem SlD.touch {W W' : World} {v : Value} {l : List Ip} (h : SlD W v l) (t : Touch (fun _ => False) W W') : SlD W' v l := by
  obtain ⟨ao, cap, e, h1, h2, h3, h4⟩ := h
  exact ⟨ao, cap, e, h1, h2, h3, h4.touch t⟩
theorem SlD.nil (w : World) : SlD w (.slice none 0 0) [] := ⟨none, 0, rfl, fun _ => rfl, Nat.le_refl _, by omega, .inl rfl⟩
/-- Its cells, where there are any. -/
theorem SlD.row {w : World} {v : Value} {l : List Ip} (h : SlD w v l) (hne : l ≠ []) : ∃ b o cap, v = .slice (some ⟨b, o, none⟩) l.length cap ∧ l.length ≤ cap ∧ cap ≤ 9223372036854775807 ∧ b < w.heap.size ∧ ∀ j (h : j < l.length), w.cell? ⟨b, o + j * 2, none⟩ = some (.int .u64 l[j].c) ∧ w.cell? ⟨b, o + j * 2 + 1, none⟩ = some (.int .u64 l[j].k) := by
  obtain ⟨ao, cap, e, h1, h2, h3, h4⟩ := h
  rcases h4 with h4 | ⟨b, o, rfl, hc⟩
  · exact absurd h4 hne
  · have hx : ∀ j (h : j < l.length), w.cell? ⟨b, o + j * 2, none⟩ = some (.int .u64 l[j].c) ∧ w.cell? ⟨b, o + j * 2 + 1, none⟩ = some (.int .u64 l[j].k) := fun j hj => by
      obtain ⟨a0, a1⟩ := cellsD_get l j hj
      exact ⟨hc _ _ a0, hc _ _ a1⟩
    refine ⟨b, o, cap, e, h2, h3, ?_, hx⟩
    have hp : 0 < l.length := List.length_pos_iff.2 hne
    exact World.block_lt_of_cell? _ _ (hx 0 hp).1
theorem SlD.shape {w : World} {v : Value} {l : List Ip} (h : SlD w v l) : ∃ ao cap, v = .slice ao l.length cap ∧ (ao = none → cap = 0) ∧ l.length ≤ cap ∧ cap ≤ 9223372036854775807 := by
  obtain ⟨ao, cap, e, h1, h2, h3, h4⟩ := h
  exact ⟨ao, cap, e, h1, h2, h3⟩
theorem SlD.from {w : World} {ao : Option Addr} {n cap : Nat} {l : List Ip} (h : SlD w (.slice ao n cap) l) (c : Nat) (hc : c ≤ l.length) : SlD w (.slice (if cap = c then ao else ao.map (·.add (c * 2))) (n - c) (cap - c)) (l.drop c) := by
  obtain ⟨ao', cap', e, h1, h2, h3, h4⟩ := h
  simp only [Value.slice.injEq] at e
  obtain ⟨rfl, rfl, rfl⟩ := e
  refine ⟨_, _, by rw [List.length_drop], ?_, by rw [List.length_drop]; omega, by omega, ?_⟩
  · intro e
    split at e
    · have := h1 e; omega
    · rw [Option.map_eq_none_iff] at e
      have := h1 e; omega
  · by_cases hd : l.drop c = []
    · exact .inl hd
    · have hlt : c < l.length := by
        rcases Nat.lt_or_ge c l.length with x | x
        · exact x
        · exact absurd (List.drop_of_length_le x) hd
      rcases h4 with h4 | ⟨b, o, rfl, hx⟩
      · subst h4; simp at hlt
      · rw [if_neg (by omega), Option.map_some, addr_addD]
        refine .inr ⟨b, o + c * 2, rfl, fun j u hu => ?_⟩
        have e2 : cellsD l = cellsD (l.take c) ++ cellsD (l.drop c) := by rw [← cellsD_append, List.take_append_drop]
        have hlen : (cellsD (l.take c)).length = c * 2 := by rw [cellsD_len, List.length_take]; omega
        have : (cellsD l)[c * 2 + j]? = some u := by
          rw [e2, List.getElem?_append_right (by omega), hlen, Nat.add_sub_cancel_left]; exact hu
        have := hx _ u this
        rw [Nat.add_assoc]; exact this
theorem SlD.upto {w : World} {ao : Option Addr} {n cap : Nat} {l : List Ip} (h : SlD w (.slice ao n cap) l) (c : Nat) (hc : c ≤ l.length) : SlD w (.slice ao c cap) (l.take c) := by
  obtain ⟨ao', cap', e, h1, h2, h3, h4⟩ := h
  simp only [Value.slice.injEq] at e
  obtain ⟨rfl, rfl, rfl⟩ := e
  have hlen : (l.take c).length = c := by rw [List.length_take]; omega
  refine ⟨_, _, by rw [hlen], h1, by omega, h3, ?_⟩
  rcases h4 with h4 | ⟨b, o, rfl, hx⟩
  · exact .inl (by rw [h4]; simp)
  · refine .inr ⟨b, o, rfl, fun j u hu => hx j u ?_⟩
    have e2 : cellsD l = cellsD (l.take c) ++ cellsD (l.drop c) := by rw [← cellsD_append, List.take_append_drop]
    rw [e2, List.getElem?_append_left (by rw [List.getElem?_eq_some_iff] at hu; exact hu.1)]; exact hu
theorem sliceD_from (vo : Option Addr) (n cap c : Nat) (h : c ≤ n) (W : World) : (Instr.slice 54 (.slice vo n cap) (some (.int .i64 (c : Int))) none none).run Try.prog W = .ok (.slice (if cap = c then vo else vo.map (·.add (c * 2))) (n - c) (cap - c)) W := by
  have h1 : (c : Int) ≤ (n : Int) := by omega
  have hu := Try.underlying54
  obtain ⟨i0, hi, hz0, hz1, hz2⟩ := info_parts infoD
  simp [Instr.slice, run_underlying hu, Instr.sliceBounds, run_sliceBound, h1, sizeOf, typeInfo, hi, hz1]
theorem sliceD_to (vo : Option Addr) (n cap c : Nat) (h : c ≤ cap) (W : World) : (Instr.slice 54 (.slice vo n cap) none (some (.int .i64 (c : Int))) none).run Try.prog W = .ok (.slice vo c cap) W := by
  have h1 : (c : Int) ≤ (cap : Int) := by omega
  have hu := Try.underlying54
  have ha : ∀ a : Addr, a.add 0 = a := fun a => by cases a; simp [Addr.add]
  obtain ⟨i0, hi, hz0, hz1, hz2⟩ := info_parts infoD
  simp [Instr.slice, run_underlying hu, Instr.sliceBounds, run_sliceBound, h1, sizeOf, typeInfo, hi, ha]

theorem ownD_touch {S : Nat → Prop} {w w' : World} {v : Value} {n : Nat} {xs : List Value} (h : w.ownsRow 0 33 2 v n xs) (t : Touch S w w') (hs : ∀ k, v.ownBlock = some k → ¬ S k) : w'.ownsRow 0 33 2 v n xs := by
  refine ⟨h.1, ?_⟩
  rcases h.2 with h | ⟨g, cap, cur, rfl, hb, hg, r⟩
  · exact .inl h
  · exact .inr ⟨g, cap, cur, rfl, hb, (t.block g (lt_of_heap hg) (hs g rfl)).trans hg, r⟩
/-- A slice that was made since W, of the cells xs. -/
structure OwnD (W w : World) (v : Value) (n : Nat) (xs : List Value) : Prop where
  owns : w.ownsRow 0 33 2 v n xs
  touch : Touch (fun _ => False) W w
  fresh : ∀ k, v.ownBlock = some k → W.heap.size ≤ k
abbrev NewD (W w : World) (v : Value) (l : List Ip) : Prop := OwnD W w v l.length (cellsD l)
theorem NewD.nil (W w : World) (t : Touch (fun _ => False) W w) : NewD W w (.slice none 0 0) [] := ⟨World.ownsRow_nil _ _ _ _, t, fun k hk => by simp [Value.ownBlock] at hk⟩
theorem OwnD.on {W w w' : World} {v : Value} {n : Nat} {xs : List Value} (h : OwnD W w v n xs) (t : Touch (fun _ => False) w w') : OwnD W w' v n xs :=
  ⟨ownD_touch h.owns t (fun _ _ => id), h.touch.trans t, h.fresh⟩
/-- It was made since any world ahead, too. -/
theorem OwnD.since {W0 W w : World} {v : Value} {n : Nat} {xs : List Value} (h : OwnD W w v n xs) (t : Touch (fun _ => False) W0 W) : OwnD W0 w v n xs :=
  ⟨h.owns, t.trans h.touch, fun k hk => Nat.le_trans t.size (h.fresh k hk)⟩
theorem NewD.sl {W w : World} {v : Value} {l : List Ip} (h : NewD W w v l) : SlD w v l := by
  rcases h.owns.2 with ⟨e, h0⟩ | ⟨g, cap, cur, e, hb, hg, q1, q2, q3, q4⟩
  · have : l = [] := List.length_eq_zero_iff.1 (by omega)
    subst this
    rw [e]; exact SlD.nil w
  · refine ⟨_, cap, e, (fun h => by cases h), q1, q2, .inr ⟨g, 0, rfl, fun j u hu => ?_⟩⟩
    rw [← q4, List.getElem?_take] at hu
    split at hu
    · rw [cell_of_block hg, Nat.zero_add, ← Array.getElem?_toList]; exact hu
    · cases hu
theorem run_appendD (w : World) (v : Value) (a : List Ip) (hown : w.ownsRow 0 33 2 v a.length (cellsD a)) (ao : Option Addr) (n cap : Nat) (b : List Ip) (hn : n = b.length) (hno : ao = none → cap = 0) (hL : LiesD w ao b) (hlen : a.length + b.length ≤ 1073741825) :
    ∃ v' w', (Builtin.append_ #[54, 54] 54 #[v, .slice ao n cap]).run Try.prog w = .ok v' w' ∧ w'.ownsRow 0 33 2 v' (a ++ b).length (cellsD (a ++ b)) ∧ w.grownBy w' v.ownBlock ∧ (v'.ownBlock = v.ownBlock ∨ v'.ownBlock = some w.heap.size) := by
  subst hn
  obtain ⟨i0, hi, hz0, hz1, hz2⟩ := info_parts infoD
  cases ao with
  | none =>
    have hb : b = [] := by
      rcases hL with h | ⟨b', o, e, _⟩
      · exact h
      · cases e
    subst hb
    have hc := hno rfl
    subst hc
    refine ⟨v, w, run_append_owned_none w 0 54 54 33 i0 2 Try.underlying54 hi v a.length (cellsD a) hown, ?_, World.grownBy.refl w _, .inl rfl⟩
    rw [List.append_nil]; exact hown
  | some ad =>
    have hcl : ∀ j u, (cellsD b)[j]? = some u → w.cell? (ad.add j) = some u := by
      rcases hL with h | ⟨b', o, e, h⟩
      · subst h; intro j u hu; simp [cellsD] at hu
      · cases e; intro j u hu; rw [addr_addD]; exact h j u hu
    obtain ⟨v', w', hrun, hown', hg, _, hat⟩ := run_append_own_at w 0 54 54 33 i0 _ 2 16 Try.underlying54 hi hz0 hz1 hz2 rfl (by decide) v a.length (cellsD a) hown ad b.length cap (cellsD b) (cellsD_len b) hcl (cellsD_one b) (by unfold maxLen; omega) (by omega) (Nat.zero_le _)
    refine ⟨v', w', hrun, ?_, hg, hat⟩
    rw [cellsD_append, List.length_append]; exact hown'
theorem NewD.app {W wx : World} {v : Value} {a : List Ip} (h : NewD W wx v a) (ao : Option Addr) (n cap : Nat) (b : List Ip) (hn : n = b.length) (hno : ao = none → cap = 0) (hL : LiesD wx ao b) (hlen : a.length + b.length ≤ 1073741825) :
    ∃ v' w', (Builtin.append_ #[54, 54] 54 #[v, .slice ao n cap]).run Try.prog wx = .ok v' w' ∧ NewD W w' v' (a ++ b) ∧ wx.grownBy w' v.ownBlock := by
  obtain ⟨v', w', hr, ho, hg, hb⟩ := run_appendD wx v a h.owns ao n cap b hn hno hL hlen
  refine ⟨v', w', hr, ⟨ho, ?_, fun k hk => ?_⟩, hg⟩
  · exact h.touch.then ((Touch.refl (fun i => v.ownBlock = some i) wx).grown hg (fun i e _ => e)) fun i hi e => absurd hi (Nat.not_lt.2 (h.fresh i e))
  · rcases hb with e | e
    · exact h.fresh k (e ▸ hk)
    · rw [hk] at e; have := h.touch.size; simp at e; omega
/-- An append of one, out of a new block. -/
theorem NewD.app1 {W wx : World} {v : Value} {a : List Ip} (h : NewD W wx v a) (r : Ip) (hlen : a.length ≤ 1073741824) :
    ∃ v' w', (Builtin.append_ #[54, 54] 54 #[v, .slice (some ⟨wx.heap.size, 0, none⟩) 1 1]).run Try.prog (wx.alloc (ipO r)) = .ok v' w' ∧ NewD W w' v' (a ++ [r]) ∧ (wx.alloc (ipO r)).grownBy w' v.ownBlock :=
  NewD.app (h.on ((Touch.refl _ wx).alloc _)) (some ⟨wx.heap.size, 0, none⟩) 1 1 [r] rfl (fun h => by cases h) (LiesD.new wx r) (by simp; omega)
theorem wpList_append_runD {w w' : World} {ops : Array Oper} {rest : List Oper} {o : Oper} {a : Act} {Q : Exit → Act → World → Prop} (hgd : o.guard = none) (s x : Operand)
    (ho : o.op = .call { callee := .builtin .append, args := #[s, x], argTypes := #[54, 54] }) (v y v' : Value) (hs : a.eval s = v) (hx : a.eval x = y)
    (hrun : (Builtin.append_ #[54, 54] o.type #[v, y]).run Try.prog w = .ok v' w') (h : wpList Try.prog ops Q rest (a.put o.dst v') w') : wpList Try.prog ops Q (o :: rest) a w := by
  refine wpList_plain hgd fun K' hK' => ?_
  unfold Oper.wp
  simp [execOp, ho, resolve, invoke, builtin, hs, hx, hrun, Result.andThen]
  exact hK' _ _ h
/-- A cell of it laid anew. -/
theorem OwnD.set {W w : World} {v : Value} {n : Nat} {xs : List Value} (h : OwnD W w v n xs) {g cap : Nat} (e : v = .slice (some ⟨g, 0, none⟩) n cap) (i : Nat) (hi : i < n * 2) (y : Value) (hy : y.oneCell' = true) : OwnD W (w.setCell ⟨g, i, none⟩ y) v n (xs.set i y) := by
  have hf : W.heap.size ≤ g := h.fresh g (by rw [e]; rfl)
  have h1 := h.owns.1
  rcases h.owns.2 with ⟨e', h0⟩ | ⟨g', cap', cur, e', hb, hg, q1, q2, q3, q4⟩
  · rw [h0] at hi; omega
  · rw [e] at e'
    simp only [Value.slice.injEq, Option.some.injEq, Addr.mk.injEq] at e'
    obtain ⟨⟨rfl, _, _⟩, _, rfl⟩ := e'
    refine ⟨⟨?_, .inr ⟨g, cap, cur.setIfInBounds i y, e, hb, by rw [heap_setCell_same _ _ _ _ hg], q1, q2, ?_, ?_⟩⟩, h.touch.setCell _ _ (fun hk => absurd hk (Nat.not_lt.2 hf)), h.fresh⟩
    · rw [List.length_set]; exact h1
    · simpa using q3
    · rw [Array.toList_setIfInBounds, ← q4, List.take_set]
theorem OwnD.free {W w : World} {v : Value} {n : Nat} {xs : List Value} (h : OwnD W w v n xs) {g cap : Nat} (e : v = .slice (some ⟨g, 0, none⟩) n cap) (hn : 0 < n) (i : Nat) : w.frozen? ⟨g, i, none⟩ = false := by
  rcases h.owns.2 with ⟨e', h0⟩ | ⟨g', cap', cur, e', hb, hg, q1, q2, q3, q4⟩
  · omega
  · rw [e] at e'
    simp only [Value.slice.injEq, Option.some.injEq, Addr.mk.injEq] at e'
    obtain ⟨⟨rfl, _, _⟩, _, rfl⟩ := e'
    exact free_of_block hg
theorem OwnD.shape {W w : World} {v : Value} {n : Nat} {xs : List Value} (h : OwnD W w v n xs) : ∃ ao cap, v = .slice ao n cap ∧ (0 < n → ∃ g, ao = some ⟨g, 0, none⟩) ∧ n ≤ cap ∧ cap ≤ 9223372036854775807 := by
  rcases h.owns.2 with ⟨e, h0⟩ | ⟨g, cap, cur, e, hb, hg, q1, q2, q3, q4⟩
  · exact ⟨none, 0, by rw [e, h0], fun h => by omega, by omega, by omega⟩
  · exact ⟨_, cap, e, fun _ => ⟨g, rfl⟩, q1, q2⟩
end Go.Proofs.Ytnbphdmpbjahhaa

/- Package seq: an insertion leaves all others as they stood, and stands between its origins (mathematics; no Go in it). -/
namespace Go.Proofs.Ytnbphdmpbjahhaa
set_option linter.unusedVariables false
set_option linter.unusedSimpArgs false

def idOf (u : Un) : Ip := ⟨u.c, u.k⟩
theorem may_between {S : SS} {u : Un} (hm : S.may u 1 = true) : (S.between u).2.2 = true := by
  unfold SS.may at hm
  simp only [Bool.and_eq_true] at hm
  exact hm.2
theorem between_left {S : SS} {u : Un} (hb : (S.between u).2.2 = true) : (S.find u.lc u.lk + 1 = 0 → u.lc = 0 ∧ u.lk = 0) ∧ S.find u.lc u.lk + 1 ≤ S.rightOf u := by
  unfold SS.between at hb
  split at hb
  · cases hb
  · rename_i h
    exact ⟨fun e => Decidable.byContradiction fun q => h (.inl ⟨e, q⟩), by have : ¬ S.rightOf u < S.find u.lc u.lk + 1 := fun q => h (.inr q); omega⟩
/-- Where the new one stands. -/
theorem ins_stays {S : SS} (h : Inv S) {u : Un} (hu : u.ok) (hm : S.may u 1 = true) {n : Nat} (hz : Size S n) (hn : n ≤ 1000000) :
    ∃ p : Nat, p ≤ S.units.length ∧ (S.run u 1).units = S.units.take p ++ u :: S.units.drop p ∧ (S.run u 1).find u.c u.k = (p : Int) ∧ (S.run u 1).find u.lc u.lk < (p : Int) ∧ (0 ≤ (S.run u 1).find u.rc u.rk → (p : Int) < (S.run u 1).find u.rc u.rk) := by
  obtain ⟨hT, _⟩ := h.run1 hu hz hn
  obtain ⟨p, hp, hpf, e⟩ := h.run_units hu hm (hz.room hn 1 (by omega))
  have hb := may_between hm
  obtain ⟨hb1, hb2⟩ := between_left hb
  obtain ⟨hr1, hl1⟩ := h.placeHi hu hb
  generalize S.run u 1 = T at *
  have hlen : T.units.length = S.units.length + 1 := by rw [e]; simp; omega
  have g1 : ∀ m (hm : m < p), T.units[m]'(by omega) = S.units[m]'(by omega) := fun m hm => by
    simp only [e]
    rw [List.getElem_append_left (by simp; omega), List.getElem_take]
  have g2 : T.units[p]'(by omega) = u := by
    simp only [e]
    rw [List.getElem_append_right (by simp; omega)]
    simp [Nat.min_eq_left hp]
  have g3 : ∀ m (h1 : p < m) (h2 : m < T.units.length), T.units[m] = S.units[m - 1]'(by omega) := fun m h1 h2 => by
    simp only [e]
    rw [List.getElem_append_right (by simp; omega)]
    have hl : (S.units.take p).length = p := by simp; omega
    simp only [hl]
    obtain ⟨d, hd⟩ : ∃ d, m - p = d + 1 := ⟨m - p - 1, by omega⟩
    simp only [hd, List.getElem_cons_succ, List.getElem_drop]
    congr 1
    omega
  have huk := hT.units_ok (v := u) (by rw [← g2]; exact List.getElem_mem _)
  have fu := hT.find_units p (by omega)
  rw [g2] at fu
  have old : ∀ c k, 0 ≤ c → 0 ≤ k → S.find c k ≠ -1 → ¬ (c = u.c ∧ k = u.k) := fun c k hc hk hf q => by
    obtain ⟨m, hm', _, e1, e2⟩ := h.units_find hc hk hf
    by_cases hmp : m < p
    · have := hT.units_nodup (i := m) (j := p) (by omega) (by omega) (by rw [g1 m hmp, g2, e1]; exact q.1) (by rw [g1 m hmp, g2, e2]; exact q.2)
      omega
    · have e3 := g3 (m + 1) (by omega) (by omega)
      simp only [Nat.add_sub_cancel] at e3
      have := hT.units_nodup (i := m + 1) (j := p) (by omega) (by omega) (by rw [e3, g2, e1]; exact q.1) (by rw [e3, g2, e2]; exact q.2)
      omega
  refine ⟨p, hp, e, fu, ?_, ?_⟩
  · by_cases hf : T.find u.lc u.lk = -1
    · omega
    obtain ⟨m, hm', em, e1, e2⟩ := hT.units_find hu.lc hu.lk.1 hf
    rw [em]
    by_cases hmp : m < p
    · omega
    by_cases hme : m = p
    · subst hme
      rw [g2] at e1 e2
      by_cases hs : S.find u.lc u.lk = -1
      · have := hb1 (by omega); omega
      · exact absurd ⟨e1.symm, e2.symm⟩ (old _ _ hu.lc hu.lk.1 hs)
    · have e3 := g3 m (by omega) hm'
      rw [e3] at e1 e2
      have := h.find_units (m - 1) (by omega)
      rw [e1, e2] at this
      omega
  · intro h0
    have hf : T.find u.rc u.rk ≠ -1 := by omega
    obtain ⟨m, hm', em, e1, e2⟩ := hT.units_find hu.rc hu.rk.1 hf
    rw [em]
    by_cases hme : m = p
    · subst hme
      rw [g2] at e1 e2
      have hro : S.rightOf u = S.find u.rc u.rk := by unfold SS.rightOf; rw [if_neg (by omega)]
      have hs : S.find u.rc u.rk ≠ -1 := by
        have := hl1
        rw [hro] at hr1
        omega
      exact absurd ⟨e1.symm, e2.symm⟩ (old _ _ hu.rc hu.rk.1 hs)
    by_cases hmp : m < p
    · have e3 := g1 m hmp
      rw [e3] at e1 e2
      have := h.find_units m (by omega)
      rw [e1, e2] at this
      have hok := h.units_ok (v := S.units[m]'(by omega)) (List.getElem_mem _)
      have hro : S.rightOf u = S.find u.rc u.rk := by unfold SS.rightOf; rw [if_neg (by omega)]
      omega
    · omega
/-- The ids behind it, one by one: the new one's just at its place, the others as they were. -/
theorem ins_ids {T : SS} (hT : Inv T) {us : List Un} {u : Un} {p : Nat} (hp : p ≤ us.length) (e : T.units = us.take p ++ u :: us.drop p) :
    T.units.length = us.length + 1 ∧ ∀ n (hn : n < T.units.length), (n = p → T.units[n] = u) ∧ (n ≠ p → ¬ (T.units[n].c = u.c ∧ T.units[n].k = u.k) ∧ ∃ hk : (if n < p then n else n - 1) < us.length, T.units[n] = us[if n < p then n else n - 1]) := by
  have hlen : T.units.length = us.length + 1 := by rw [e]; simp; omega
  have g2 : T.units[p]'(by omega) = u := by
    simp only [e]
    rw [List.getElem_append_right (by simp; omega)]
    simp [Nat.min_eq_left hp]
  refine ⟨hlen, fun n hn => ⟨fun q => by subst q; exact g2, fun q => ⟨fun q2 => ?_, ?_⟩⟩⟩
  · have := hT.units_nodup (i := n) (j := p) hn (by omega) (by rw [g2]; exact q2.1) (by rw [g2]; exact q2.2)
    omega
  · by_cases hnp : n < p
    · simp only [hnp, if_true]
      refine ⟨by omega, ?_⟩
      simp only [e]
      rw [List.getElem_append_left (by simp; omega), List.getElem_take]
    · simp only [hnp, if_false]
      refine ⟨by omega, ?_⟩
      simp only [e]
      rw [List.getElem_append_right (by simp; omega)]
      have hl : (us.take p).length = p := by simp; omega
      simp only [hl]
      obtain ⟨d, hd⟩ : ∃ d, n - p = d + 1 := ⟨n - p - 1, by omega⟩
      simp only [hd, List.getElem_cons_succ, List.getElem_drop]
      congr 1
      omega
end Go.Proofs.Ytnbphdmpbjahhaa

/- quirelaw9.all: a sequence's ids, in order, as a slice. -/
namespace Go.Proofs.Ytnbphdmpbjahhaa
open Go.RowKit Go.Shelf
set_option linter.unusedVariables false
set_option linter.unusedSimpArgs false
set_option maxRecDepth 100000
attribute [local go_sem] Oper.semAt_some

theorem wpListIn_append_runD {F : Fence} {n : Nat} {w w' : World} {ops : Array Oper} {rest : List Oper} {o : Oper} {a : Act} {Q : Exit → Act → World → Prop} (hgd : o.guard = none) (s x : Operand)
    (ho : o.op = .call { callee := .builtin .append, args := #[s, x], argTypes := #[54, 54] }) (v y v' : Value) (hs : a.eval s = v) (hx : a.eval x = y)
    (hrun : (Builtin.append_ #[54, 54] o.type #[v, y]).run Try.prog w = .ok v' w') (h : wpListIn F n Try.prog ops Q rest (a.put o.dst v') w') : wpListIn F n Try.prog ops Q (o :: rest) a w := by
  refine wpListIn_plain hgd fun K' hK' => ?_
  unfold Oper.wpIn
  refine ⟨by simp [Oper.about, ho, resolve, Target.leads, Sem.run_pure], ?_⟩
  rw [Oper.semAt_plain F _ _ (by rw [ho]; intro c hc'; cases hc')]
  simp [execOp, ho, resolve, invoke, builtin, hs, hx, hrun, Result.andThen]
  exact hK' _ _ h

theorem numd_ids (S : SS) : (numd S S.spots).map (fun x => idOf x.2) = S.units.map idOf := by
  unfold numd SS.units
  rw [List.map_map, List.map_map]
  have : ∀ (l : List Sp) (k : Nat), (l.zipIdx k).map ((fun x : Nat × Un => idOf x.2) ∘ fun p : Sp × Nat => (p.2, S.unit p.1)) = l.map (idOf ∘ S.unit) := by
    intro l
    induction l with
    | nil => intro k; rfl
    | cons x l ih => intro k; simp only [List.zipIdx_cons, List.map_cons, ih]; rfl
  exact this S.spots 0
/-- Between two rounds: what has come lies in a slice of our own, in its box. -/
structure AiI (w : World) (O : Nat) (pre : List (Nat × Un)) (Ω : Nat → Prop) (W' : World) (v : Value) : Prop where
  box : W'.heap[O]? = some (.cells #[v] 54 (0, 0))
  new : NewD w W' v (pre.map fun x => idOf x.2)
  o : Ω O
  own : ∀ g, v.ownBlock = some g → Ω g
  lt : ∀ k, Ω k → k < W'.heap.size
def AiE (w : World) (O : Nat) (pre : List (Nat × Un)) (Ω : Nat → Prop) (W' : World) : Prop := ∃ v, AiI w O pre Ω W' v
theorem AiI.keep {w : World} {O m : Nat} {pre : List (Nat × Un)} {Ω : Nat → Prop} {A B : World} {v : Value} (hO : O < m) (hw : w.heap.size ≤ m) (h : AiI w O pre Ω A v) (t : Touch (fun k => m ≤ k ∧ ¬ Ω k) A B) : AiI w O pre Ω B v :=
  ⟨(t.block _ (lt_of_heap h.box) fun q => absurd q.1 (by omega)).trans h.box, ⟨ownD_touch h.new.owns t fun k e q => q.2 (h.own k e), h.new.touch.then t fun k hk q => absurd q.1 (by omega), h.new.fresh⟩, h.o, h.own, fun k hk => Nat.lt_of_lt_of_le (h.lt k hk) t.size⟩
theorem own_ne {w : World} {v : Value} {n : Nat} {xs : List Value} {O : Nat} {c : Array Value} (h : w.ownsRow 0 33 2 v n xs) (hb : w.heap[O]? = some (.cells c 54 (0, 0))) : v.ownBlock ≠ some O := fun e => by
  rcases h.2 with ⟨rfl, _⟩ | ⟨g, cap, cur, rfl, _, hg, _⟩
  · simp [Value.ownBlock] at e
  · have e' : g = O := by simpa [Value.ownBlock] using e
    rw [e', hb] at hg
    simp at hg
theorem AiE.foot {w : World} {O m : Nat} (hO : O < m) (hw : w.heap.size ≤ m) : Foot m (AiE w O) := ⟨fun s Ω A B ⟨v, h⟩ t => ⟨v, h.keep hO hw t⟩, fun s Ω A ⟨v, h⟩ => h.lt⟩

set_option maxHeartbeats 4000000 in
theorem allIds_any {w : World} {B : Bk} {S : SS} (h : SeqM w B S) (hi : Inv S) (hn : S.units.length ≤ 1000000) :
    Calls Try.prog 23 #[sP B] w fun e w' => ∃ v, e = .returned v ∧ NewD w w' v (S.units.map idOf) := by
  have HBl : Hid (∀ x, B.has x → x < w.heap.size) := fun x hx => h.lt hx
  have HM : Hid (SeqM w B S) := h
  have HInv : Hid (Inv S) := hi
  have HN : Hid (S.spots.length ≤ 1000000) := by have : S.units.length = S.spots.length := by simp [SS.units]
                                                 rw [Hid]; omega
  have HU : Hid ((numd S S.spots).map (fun x => idOf x.2) = S.units.map idOf) := numd_ids S
  clear h hi hn
  refine (callsIn_wide (n := 3)).1 ?_
  refine callsIn_of_wp_marks Try.func23 rfl trivial ?_ rfl
  simp only [Try.ntmps23, List.size_toArray, List.length_cons, List.length_nil, Nat.reduceAdd, Nat.reduceSub, Array.replicate_succ, Array.replicate_zero, List.push_toArray, List.append_toArray, List.nil_append, List.cons_append]
  gi_wp2_with fail
  refine ⟨trivial, (callsIn_wide.2 (all_any B.b _)).mono ?_⟩
  rintro e W1 ⟨rfl, hW1⟩
  rw [World.size_alloc]
  have hs1 : W1.heap.size = w.heap.size + 2 := by rw [hW1]; simp
  have t1 : Touch (fun _ => False) w W1 := by rw [hW1]; exact ((Touch.refl _ w).alloc _).alloc _
  have o1 : W1.heap[w.heap.size]? = some (.cells #[.slice none 0 0] 54 (0, 0)) := by
    rw [hW1]; exact (Below.heap_alloc _ _ _ (by simp)).trans (World.alloc_heap_new w _)
  have a1 : W1.heap[w.heap.size + 1]? = some (.cells #[sP B] 24 (0, 0)) := by
    have := World.alloc_heap_new (w.alloc (.cells #[.slice none 0 0] 54 (0, 0))) (.cells #[sP B] 24 (0, 0))
    rw [World.size_alloc] at this
    rw [hW1]; exact this
  clear hW1
  gi_wp2
  have HSp := all_stops (HM.out.keep0 t1) HInv.out (w.heap.size + 1) a1
  refine wp_range (gf := 65) (lb := #[.pointer (some ⟨w.heap.size + 1, 0, none⟩)]) rfl (enters_of Try.func65 (by kernel_rfl) rfl)
    HSp (Touch.refl _ _) ?hRw (fun _ => rfl) (AiE w w.heap.size) (fun _ _ Ω W' => False ∧ ∀ k, Ω k → k < W'.heap.size) (AiE.foot (by omega) (by omega)) (fun c => ⟨fun _ _ _ _ h _ => h.1.elim, fun _ _ _ h => h.2⟩) (fun k => k = w.heap.size) ?hR ?h0
    (fun x a' pre Ω W' => AiE w w.heap.size pre Ω W' ∧ ∃ X, Ω X ∧ W'.heap[X]? = some (unO x.2) ∧ a' = { tmps := #[sP B, undef, .slice none 0 0, .pointer (some ⟨w.heap.size, 0, none⟩), undef, .pointer (some ⟨X, 0, none⟩), sP B, .func (.func 65) #[] #[.pointer (some ⟨w.heap.size + 1, 0, none⟩)], iV (x.1 : Int), unV x.2, undef, undef, undef, undef, undef, undef], defers := [] }) ?fA ?assign ?body ?done ?stop
  case hRw =>
    rintro k (rfl | hk)
    · omega
    · have := HBl.out _ hk; omega
  case hR =>
    rintro k (rfl | hk) q
    · omega
    · have := HBl.out _ hk; omega
  case h0 => exact ⟨.slice none 0 0, o1, NewD.nil w W1 t1, rfl, fun g e => by simp [Value.ownBlock] at e, fun k e => by omega⟩
  case fA =>
    refine fun x a' => ⟨?_, fun s Ω A q => (AiE.foot (m := W1.heap.size) (by omega) (by omega)).lt _ _ _ q.1⟩
    rintro s Ω A A2 ⟨q1, X, q2, q3, q4⟩ t
    exact ⟨(AiE.foot (by omega) (by omega)).keep _ _ _ _ q1 t, X, q2, (t.block _ (lt_of_heap q3) fun h => h.2 q2).trans q3, q4⟩
  case assign =>
    rintro q pre x Ω W' K ⟨v, hI⟩ hK
    gi_wp2
    refine hK _ _ (fun k => Ω k ∨ k = W'.heap.size) ((Touch.refl _ W').alloc _) (fun k h => h.imp id fun e => by omega) ⟨⟨v, ?_⟩, W'.heap.size, .inr rfl, World.alloc_heap_new W' _, rfl⟩
    have t := (Touch.refl (fun _ => False) W').alloc (unO x.2)
    exact ⟨heap_keep t hI.box, hI.new.on t, .inl hI.o, fun g e => .inl (hI.own g e), fun k h => by rw [World.size_alloc]; rcases h with h | h; (have := hI.lt k h; omega); omega⟩
  case body =>
    rintro q pre x a' Ω W2 hsz hRk hpre ⟨⟨v, hI⟩, X, hX, hXb, rfl⟩
    have hlen : pre.length ≤ 1000000 := by
      have h1 := hpre.length_le
      rw [List.length_append, numd_len] at h1
      have := HN.out
      simp only [List.length_singleton] at h1
      omega
    obtain ⟨v', w', hrun, ho, hg, hb⟩ := run_appendD (W2.alloc (ipO (idOf x.2))) v (pre.map fun x => idOf x.2) (hI.new.on ((Touch.refl _ W2).alloc _)).owns (some ⟨W2.heap.size, 0, none⟩) 1 1 [idOf x.2] rfl (fun h => by cases h) (LiesD.new W2 (idOf x.2)) (by simp; omega)
    have hO := lt_of_heap hI.box
    have box' : w'.heap[w.heap.size]? = some (.cells #[v] 54 (0, 0)) :=
      (hg.block _ (by simp; omega) fun e => own_ne hI.new.owns hI.box e.symm).trans ((Below.heap_alloc _ _ _ hO).trans hI.box)
    have t' : Touch Ω W2 w' := ((Touch.refl Ω W2).alloc _).grown hg fun i e _ => hI.own i e
    have hne := own_ne ho box'
    have new' : NewD w w' v' ((pre ++ [x]).map fun x => idOf x.2) := by
      refine ⟨by rw [List.map_append]; exact ho, ?_, fun k hk => ?_⟩
      · exact hI.new.touch.then (((Touch.refl (fun i => v.ownBlock = some i) W2).alloc _).grown hg fun i e _ => e) fun i hi e => absurd hi (Nat.not_lt.2 (hI.new.fresh i e))
      · rcases hb with e | e
        · exact hI.new.fresh k (e ▸ hk)
        · rw [hk] at e; have := hI.new.touch.size; simp at e; omega
    have HNew : Hid (NewD w (w'.setCell ⟨w.heap.size, 0, none⟩ v') v' ((pre ++ [x]).map fun x => idOf x.2)) :=
      ⟨ownD_touch (S := (· = w.heap.size)) new'.owns ((Touch.refl _ w').setCell _ _ fun _ => rfl) fun k hk e => hne (by rw [hk, e]), new'.touch.setCell _ _ fun h => absurd h (by simp), new'.fresh⟩
    have HBox : Hid ((w'.setCell ⟨w.heap.size, 0, none⟩ v').heap[w.heap.size]? = some (.cells #[v'] 54 (0, 0))) := heap_setCell_same w' w.heap.size 0 v' box'
    have HT' : Hid (Touch Ω W2 (w'.setCell ⟨w.heap.size, 0, none⟩ v')) := t'.setCell _ _ fun _ => hI.o
    have HSw : Hid (Swells Ω (fun k => Ω k ∨ v'.ownBlock = some k) W2.heap.size) := fun k hk => by
      rcases hk with hk | hk
      · exact .inl hk
      · rcases hb with e | e
        · exact .inl (hI.own k (e ▸ hk))
        · rw [hk] at e; simp at e; exact .inr (by omega)
    have HLt : Hid (∀ k, Ω k ∨ v'.ownBlock = some k → k < (w'.setCell ⟨w.heap.size, 0, none⟩ v').heap.size) := fun k hk => by
      rw [size_setCell]
      rcases hk with hk | hk
      · exact Nat.lt_of_lt_of_le (hI.lt k hk) t'.size
      · rcases ho.2 with ⟨rfl, _⟩ | ⟨g, cap, cur, rfl, _, hg', _⟩
        · simp [Value.ownBlock] at hk
        · have e' : g = k := by simpa [Value.ownBlock] using hk
          rw [← e']; exact lt_of_heap hg'
    have HO : Hid (Ω w.heap.size) := hI.o
    have c0 : W2.cell? ⟨w.heap.size, 0, none⟩ = some v := by rw [cell_of_block hI.box]; rfl
    have x0 : W2.cell? ⟨X, 0, none⟩ = some (.int .u64 x.2.c) := by rw [cell_of_block hXb]; rfl
    have x1 : W2.cell? ⟨X, 1, none⟩ = some (.int .u64 x.2.k) := by rw [cell_of_block hXb]; rfl
    have c1 : w'.cell? ⟨w.heap.size, 0, none⟩ = some v := by rw [cell_of_block box']; rfl
    have f1 : w'.frozen? ⟨w.heap.size, 0, none⟩ = false := free_of_block box'
    obtain ⟨ao, cap, ev, -, -⟩ := hI.new.shape
    rw [List.length_map] at ev
    subst ev
    obtain ⟨ao', cap', ev', -, -⟩ := new'.shape
    rw [List.length_map, List.length_append, List.length_singleton] at ev'
    subst ev'
    clear hI hX hXb hRk hpre ho hg hb box' t' hne new' hsz hO hlen
    simp only [idOf] at hrun
    gi_wp2_with (gi_at_builtin; refine wpListIn_append_runD rfl _ _ rfl _ _ _ rfl rfl hrun ?_)
    exact ⟨HT'.out, _, HSw.out, _, HBox.out, HNew.out, .inl HO.out, fun g e => .inr e, HLt.out⟩
  case done =>
    rintro D Ω W3 hD hnD hT hS ⟨v, hI⟩ hK
    have c0 : W3.cell? ⟨w.heap.size, 0, none⟩ = some v := by rw [cell_of_block hI.box]; rfl
    have HNew : Hid (NewD w (W3.putObj D (.deferred none)) v (S.units.map idOf)) := by
      have h1 := hI.new
      rw [HU.out] at h1
      exact ⟨ownD_touch (S := (· = D)) h1.owns ((Touch.refl _ W3).putObj _ _ fun _ => rfl) fun k hk e => hnD (hI.own D (by rw [← e]; exact hk)), h1.touch.putObj _ _ fun h => absurd h (by omega), h1.fresh⟩
    obtain ⟨ao, cap, ev, -, -⟩ := hI.new.shape
    rw [List.length_map] at ev
    subst ev
    clear hI hT hS hnD
    gi_wp2
    refine ⟨by simp, .inl ⟨_, _, rfl, run_takeDeferred hK, ?_⟩⟩
    refine ⟨_, results_tmp rfl _ _ _, _, rfl, ?_⟩
    exact HNew.out
  case stop =>
    rintro D c pre Ω W3 hD hnD hT hS hpre ⟨h, _⟩ hK
    exact h.elim
end Go.Proofs.Ytnbphdmpbjahhaa
