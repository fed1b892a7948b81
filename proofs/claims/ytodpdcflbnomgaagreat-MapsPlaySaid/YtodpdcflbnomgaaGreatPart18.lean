/- Slices of strings: how they lie, are cut, grow. -/
import Derived.Test.YtodpdcflbnomgaaGreatPart2
import Derived.Maps.AppendAt
import Derived.Laws.OwnMore
import Derived.Shelf.GgSortFunc.RowK
import Derived.Test.YtodpdcflbnomgaaGreatPlD
import Derived.Test.YtodpdcflbnomgaaGreatPart1
import Derived.Test.YtodpdcflbnomgaaGreatProg
import Derived.ProofKit
import Derived.OpenShut
import Derived.SizedLaws
namespace Go.Proofs.YtodpdcflbnomgaaGreat
open Go.RowKit Go.Maps
set_option linter.unusedVariables false
set_option linter.unusedSimpArgs false

abbrev zO (r : ByteArray) : Obj := .cells #[.string r] 9
def cellZ (r : ByteArray) : List Value := [.string r]
def cellsZ (l : List ByteArray) : List Value := l.flatMap cellZ
theorem cellsZ_cons (r : ByteArray) (l : List ByteArray) : cellsZ (r :: l) = .string r :: cellsZ l := rfl
theorem cellsZ_append (a b : List ByteArray) : cellsZ (a ++ b) = cellsZ a ++ cellsZ b := by simp [cellsZ]
theorem cellsZ_one (l : List ByteArray) : ∀ u ∈ cellsZ l, u.oneCell' = true := by
  intro u hu
  obtain ⟨f, _, hf⟩ := List.mem_flatMap.1 hu
  simp only [cellZ, List.mem_cons, List.not_mem_nil, or_false] at hf
  rcases hf with rfl <;> rfl
theorem cellsZ_len (l : List ByteArray) : (cellsZ l).length = l.length * 1 := by
  induction l with
  | nil => rfl
  | cons f r ih => rw [cellsZ_cons]; simp only [List.length_cons, ih]; omega
theorem cellsZ_get : ∀ (l : List ByteArray) (j : Nat) (h : j < l.length), (cellsZ l)[j * 1]? = some (.string l[j])
  | f :: r, 0, _ => rfl
  | f :: r, j + 1, h => by
    have ih := cellsZ_get r j (by simpa using h)
    rw [cellsZ_cons, show (j + 1) * 1 = j * 1 + 1 from by omega]
    exact ih
theorem cellsZ_set : ∀ (l : List ByteArray) (j : Nat) (h : j < l.length) (r : ByteArray), (cellsZ l).set (j * 1) (.string r) = cellsZ (l.set j r)
  | f :: l, 0, _, r => rfl
  | f :: l, j + 1, h, r => by
    have ih := cellsZ_set l j (by simpa using h) r
    rw [cellsZ_cons, List.set_cons_succ, cellsZ_cons, ← ih, show (j + 1) * 1 = j * 1 + 1 from by omega]
    rfl
theorem infoZ : (Tryz.prog.info? 9).map (fun i => (i.zero, i.size, i.bytes)) = some (some (.string ⟨#[]⟩), 1, 16) := by kernel_rfl
/-- They lie where a slice of that address begins. -/
def LiesZ (w : World) (ao : Option Addr) (l : List ByteArray) : Prop := l = [] ∨ ∃ b o, ao = some ⟨b, o, none⟩ ∧ (∃ c, w.heap[b]? = some (.cells c 9 (0, 0))) ∧ ∀ j u, (cellsZ l)[j]? = some u → w.cell? ⟨b, o + j, none⟩ = some u
theorem LiesZ.touch {W W' : World} {ao : Option Addr} {b : List ByteArray} (h : LiesZ W ao b) (t : Touch (fun _ => False) W W') : LiesZ W' ao b := by
  rcases h with h | ⟨b, o, e, ⟨c, hT⟩, h⟩
  · exact .inl h
  · refine .inr ⟨b, o, e, ⟨c, (t.block _ (Array.getElem?_eq_some_iff.1 hT).1 id).trans hT⟩, fun j u hu => ?_⟩
    have := h j u hu
    rw [World.cell?_of_block (t.block _ (World.block_lt_of_cell? _ _ this) id)]; exact this
theorem LiesZ.new (W : World) (f : ByteArray) : LiesZ (W.alloc (zO f)) (some ⟨W.heap.size, 0, none⟩) [f] := by
  refine .inr ⟨_, _, rfl, ⟨_, heap_alloc_new W (zO f)⟩, fun j u hu => ?_⟩
  rw [Nat.zero_add, cell_of_block (heap_alloc_new W (zO f))]
  have e : cellsZ [f] = [.string f] := rfl
  rw [e] at hu
  simpa using hu
theorem addr_addZ (g o j : Nat) : (⟨g, o, none⟩ : Addr).add j = ⟨g, o + j, none⟩ := by
  unfold Addr.add
  split <;> simp_all
/-- v is a slice of l. -/
def SlZ (w : World) (v : Value) (l : List ByteArray) : Prop := ∃ ao cap, v = .slice ao l.length cap ∧ (ao = none → cap = 0) ∧ l.length ≤ cap ∧ cap ≤ 9223372036854775807 ∧ LiesZ w ao l
theorem SlZ.touch {W W' : World} {v : Value} {l : List ByteArray} (h : SlZ W v l) (t : Touch (fun _ => False) W W') : SlZ W' v l := by
  obtain ⟨ao, cap, e, h1, h2, h3, h4⟩ := h
  exact ⟨ao, cap, e, h1, h2, h3, h4.touch t⟩
theorem SlZ.nil (w : World) : SlZ w (.slice none 0 0) [] := ⟨none, 0, rfl, fun _ => rfl, Nat.le_refl _, by omega, .inl rfl⟩
/-- Its cells, where there are any. -/
theorem SlZ.row {w : World} {v : Value} {l : List ByteArray} (h : SlZ w v l) (hne : l ≠ []) : ∃ b o cap, v = .slice (some ⟨b, o, none⟩) l.length cap ∧ l.length ≤ cap ∧ cap ≤ 9223372036854775807 ∧ b < w.heap.size ∧ ∀ j (h : j < l.length), w.cell? ⟨b, o + j * 1, none⟩ = some (.string l[j]) := by
  obtain ⟨ao, cap, e, h1, h2, h3, h4⟩ := h
  rcases h4 with h4 | ⟨b, o, rfl, _, hc⟩
  · exact absurd h4 hne
  · have hx : ∀ j (h : j < l.length), w.cell? ⟨b, o + j * 1, none⟩ = some (.string l[j]) := fun j hj => by
      have a0 := cellsZ_get l j hj
      exact hc _ _ a0
    refine ⟨b, o, cap, e, h2, h3, ?_, hx⟩
    have hp : 0 < l.length := List.length_pos_iff.2 hne
    exact World.block_lt_of_cell? _ _ (hx 0 hp)
theorem SlZ.shape {w : World} {v : Value} {l : List ByteArray} (h : SlZ w v l) : ∃ ao cap, v = .slice ao l.length cap ∧ (ao = none → cap = 0) ∧ l.length ≤ cap ∧ cap ≤ 9223372036854775807 := by
  obtain ⟨ao, cap, e, h1, h2, h3, h4⟩ := h
  exact ⟨ao, cap, e, h1, h2, h3⟩
theorem SlZ.from {w : World} {ao : Option Addr} {n cap : Nat} {l : List ByteArray} (h : SlZ w (.slice ao n cap) l) (c : Nat) (hc : c ≤ l.length) : SlZ w (.slice (if cap = c then ao else ao.map (·.add (c * 1))) (n - c) (cap - c)) (l.drop c) := by
  obtain ⟨ao', cap', e, h1, h2, h3, h4⟩ := h
  simp only [Value.slice.injEq] at e
  obtain ⟨rfl, rfl, rfl⟩ := e
  refine ⟨_, _, by rw [List.length_drop], ?_, by rw [List.length_drop]; omega, by omega, ?_⟩
  · intro e
    split at e
    · have := h1 e; omega
    · rw [Option.map_eq_none_iff] at e
      have := h1 e; omega
  · by_cases hd : l.drop c = []
    · exact .inl hd
    · have hlt : c < l.length := by
        rcases Nat.lt_or_ge c l.length with x | x
        · exact x
        · exact absurd (List.drop_of_length_le x) hd
      rcases h4 with h4 | ⟨b, o, rfl, hT, hx⟩
      · subst h4; simp at hlt
      · rw [if_neg (by omega), Option.map_some, addr_addZ]
        refine .inr ⟨b, o + c * 1, rfl, hT, fun j u hu => ?_⟩
        have e2 : cellsZ l = cellsZ (l.take c) ++ cellsZ (l.drop c) := by rw [← cellsZ_append, List.take_append_drop]
        have hlen : (cellsZ (l.take c)).length = c * 1 := by rw [cellsZ_len, List.length_take]; omega
        have : (cellsZ l)[c * 1 + j]? = some u := by
          rw [e2, List.getElem?_append_right (by omega), hlen, Nat.add_sub_cancel_left]; exact hu
        have := hx _ u this
        rw [Nat.add_assoc]; exact this
theorem SlZ.upto {w : World} {ao : Option Addr} {n cap : Nat} {l : List ByteArray} (h : SlZ w (.slice ao n cap) l) (c : Nat) (hc : c ≤ l.length) : SlZ w (.slice ao c cap) (l.take c) := by
  obtain ⟨ao', cap', e, h1, h2, h3, h4⟩ := h
  simp only [Value.slice.injEq] at e
  obtain ⟨rfl, rfl, rfl⟩ := e
  have hlen : (l.take c).length = c := by rw [List.length_take]; omega
  refine ⟨_, _, by rw [hlen], h1, by omega, h3, ?_⟩
  rcases h4 with h4 | ⟨b, o, rfl, hT, hx⟩
  · exact .inl (by rw [h4]; simp)
  · refine .inr ⟨b, o, rfl, hT, fun j u hu => hx j u ?_⟩
    have e2 : cellsZ l = cellsZ (l.take c) ++ cellsZ (l.drop c) := by rw [← cellsZ_append, List.take_append_drop]
    rw [e2, List.getElem?_append_left (by rw [List.getElem?_eq_some_iff] at hu; exact hu.1)]; exact hu
theorem sliceZ_from (vo : Option Addr) (n cap c : Nat) (h : c ≤ n) (W : World) : (Instr.slice 42 (.slice vo n cap) (some (.int .i64 (c : Int))) none none).run Tryz.prog W = .ok (.slice (if cap = c then vo else vo.map (·.add (c * 1))) (n - c) (cap - c)) W := by
  have h1 : (c : Int) ≤ (n : Int) := by omega
  have hu := Tryz.underlying42
  obtain ⟨i0, hi, hz0, hz1, hz2⟩ := info_parts infoZ
  simp [Instr.slice, run_underlying hu, Instr.sliceBounds, run_sliceBound, h1, sizeOf, typeInfo, hi, hz1]
theorem sliceZ_to (vo : Option Addr) (n cap c : Nat) (h : c ≤ cap) (W : World) : (Instr.slice 42 (.slice vo n cap) none (some (.int .i64 (c : Int))) none).run Tryz.prog W = .ok (.slice vo c cap) W := by
  have h1 : (c : Int) ≤ (cap : Int) := by omega
  have hu := Tryz.underlying42
  have ha : ∀ a : Addr, a.add 0 = a := fun a => by cases a; simp [Addr.add]
  obtain ⟨i0, hi, hz0, hz1, hz2⟩ := info_parts infoZ
  simp [Instr.slice, run_underlying hu, Instr.sliceBounds, run_sliceBound, h1, sizeOf, typeInfo, hi, ha]

theorem ownZ_touch {S : Nat → Prop} {w w' : World} {v : Value} {n : Nat} {xs : List Value} (h : w.ownsRow 0 9 1 v n xs) (t : Touch S w w') (hs : ∀ k, v.ownBlock = some k → ¬ S k) : w'.ownsRow 0 9 1 v n xs := by
  refine ⟨h.1, ?_⟩
  rcases h.2 with h | ⟨g, cap, cur, rfl, hb, hg, r⟩
  · exact .inl h
  · exact .inr ⟨g, cap, cur, rfl, hb, (t.block g (lt_of_heap hg) (hs g rfl)).trans hg, r⟩
/-- A slice that was made since W, of the cells xs. -/
structure OwnZ (W w : World) (v : Value) (n : Nat) (xs : List Value) : Prop where
  owns : w.ownsRow 0 9 1 v n xs
  touch : Touch (fun _ => False) W w
  fresh : ∀ k, v.ownBlock = some k → W.heap.size ≤ k
abbrev NewZ (W w : World) (v : Value) (l : List ByteArray) : Prop := OwnZ W w v l.length (cellsZ l)
theorem NewZ.nil (W w : World) (t : Touch (fun _ => False) W w) : NewZ W w (.slice none 0 0) [] := ⟨World.ownsRow_nil _ _ _ _, t, fun k hk => by simp [Value.ownBlock] at hk⟩
theorem OwnZ.on {W w w' : World} {v : Value} {n : Nat} {xs : List Value} (h : OwnZ W w v n xs) (t : Touch (fun _ => False) w w') : OwnZ W w' v n xs :=
  ⟨ownZ_touch h.owns t (fun _ _ => id), h.touch.trans t, h.fresh⟩
/-- It was made since any world ahead, too. -/
theorem OwnZ.since {W0 W w : World} {v : Value} {n : Nat} {xs : List Value} (h : OwnZ W w v n xs) (t : Touch (fun _ => False) W0 W) : OwnZ W0 w v n xs :=
  ⟨h.owns, t.trans h.touch, fun k hk => Nat.le_trans t.size (h.fresh k hk)⟩
theorem NewZ.sl {W w : World} {v : Value} {l : List ByteArray} (h : NewZ W w v l) : SlZ w v l := by
  rcases h.owns.2 with ⟨e, h0⟩ | ⟨g, cap, cur, e, hb, hg, q1, q2, q3, q4⟩
  · have : l = [] := List.length_eq_zero_iff.1 (by omega)
    subst this
    rw [e]; exact SlZ.nil w
  · refine ⟨_, cap, e, (fun h => by cases h), q1, q2, .inr ⟨g, 0, rfl, ⟨_, hg⟩, fun j u hu => ?_⟩⟩
    rw [← q4, List.getElem?_take] at hu
    split at hu
    · rw [cell_of_block hg, Nat.zero_add, ← Array.getElem?_toList]; exact hu
    · cases hu
theorem run_appendZ (w : World) (v : Value) (a : List ByteArray) (hown : w.ownsRow 0 9 1 v a.length (cellsZ a)) (ao : Option Addr) (n cap : Nat) (b : List ByteArray) (hn : n = b.length) (hno : ao = none → cap = 0) (hL : LiesZ w ao b) (hlen : a.length + b.length ≤ 1073741825) :
    ∃ v' w', (Builtin.append_ #[42, 42] 42 #[v, .slice ao n cap]).run Tryz.prog w = .ok v' w' ∧ w'.ownsRow 0 9 1 v' (a ++ b).length (cellsZ (a ++ b)) ∧ w.grownBy w' v.ownBlock ∧ (v'.ownBlock = v.ownBlock ∨ v'.ownBlock = some w.heap.size) := by
  subst hn
  obtain ⟨i0, hi, hz0, hz1, hz2⟩ := info_parts infoZ
  cases ao with
  | none =>
    have hb : b = [] := by
      rcases hL with h | ⟨b', o, e, _⟩
      · exact h
      · cases e
    subst hb
    have hc := hno rfl
    subst hc
    refine ⟨v, w, run_append_owned_none w 0 42 42 9 i0 1 Tryz.underlying42 hi v a.length (cellsZ a) hown, ?_, World.grownBy.refl w _, .inl rfl⟩
    rw [List.append_nil]; exact hown
  | some ad =>
    have hcl : ∀ j u, (cellsZ b)[j]? = some u → w.cell? (ad.add j) = some u := by
      rcases hL with h | ⟨b', o, e, _, h⟩
      · subst h; intro j u hu; simp [cellsZ] at hu
      · cases e; intro j u hu; rw [addr_addZ]; exact h j u hu
    obtain ⟨v', w', hrun, hown', hg, _, hat⟩ := run_append_own_at w 0 42 42 9 i0 _ 1 16 Tryz.underlying42 hi hz0 hz1 hz2 rfl (by decide) v a.length (cellsZ a) hown ad b.length cap (cellsZ b) (cellsZ_len b) hcl (cellsZ_one b) (by unfold maxLen; omega) (by omega) (Nat.zero_le _)
    refine ⟨v', w', hrun, ?_, hg, hat⟩
    rw [cellsZ_append, List.length_append]; exact hown'
theorem NewZ.app {W wx : World} {v : Value} {a : List ByteArray} (h : NewZ W wx v a) (ao : Option Addr) (n cap : Nat) (b : List ByteArray) (hn : n = b.length) (hno : ao = none → cap = 0) (hL : LiesZ wx ao b) (hlen : a.length + b.length ≤ 1073741825) :
    ∃ v' w', (Builtin.append_ #[42, 42] 42 #[v, .slice ao n cap]).run Tryz.prog wx = .ok v' w' ∧ NewZ W w' v' (a ++ b) ∧ wx.grownBy w' v.ownBlock := by
  obtain ⟨v', w', hr, ho, hg, hb⟩ := run_appendZ wx v a h.owns ao n cap b hn hno hL hlen
  refine ⟨v', w', hr, ⟨ho, ?_, fun k hk => ?_⟩, hg⟩
  · exact h.touch.then ((Touch.refl (fun i => v.ownBlock = some i) wx).grown hg (fun i e _ => e)) fun i hi e => absurd hi (Nat.not_lt.2 (h.fresh i e))
  · rcases hb with e | e
    · exact h.fresh k (e ▸ hk)
    · rw [hk] at e; have := h.touch.size; simp at e; omega
/-- An append of one, out of a new block. -/
theorem NewZ.app1 {W wx : World} {v : Value} {a : List ByteArray} (h : NewZ W wx v a) (r : ByteArray) (hlen : a.length ≤ 1073741824) :
    ∃ v' w', (Builtin.append_ #[42, 42] 42 #[v, .slice (some ⟨wx.heap.size, 0, none⟩) 1 1]).run Tryz.prog (wx.alloc (zO r)) = .ok v' w' ∧ NewZ W w' v' (a ++ [r]) ∧ (wx.alloc (zO r)).grownBy w' v.ownBlock :=
  NewZ.app (h.on ((Touch.refl _ wx).alloc _)) (some ⟨wx.heap.size, 0, none⟩) 1 1 [r] rfl (fun h => by cases h) (LiesZ.new wx r) (by simp; omega)
theorem wpList_append_runZ {w w' : World} {ops : Array Oper} {rest : List Oper} {o : Oper} {a : Act} {Q : Exit → Act → World → Prop} (hgd : o.guard = none) (s x : Operand)
    (ho : o.op = .call { callee := .builtin .append, args := #[s, x], argTypes := #[42, 42] }) (v y v' : Value) (hs : a.eval s = v) (hx : a.eval x = y)
    (hrun : (Builtin.append_ #[42, 42] o.type #[v, y]).run Tryz.prog w = .ok v' w') (h : wpList Tryz.prog ops Q rest (a.put o.dst v') w') : wpList Tryz.prog ops Q (o :: rest) a w := by
  refine wpList_plain hgd fun K' hK' => ?_
  unfold Oper.wp
  simp [execOp, ho, resolve, invoke, builtin, hs, hx, hrun, Result.andThen]
  exact hK' _ _ h
/-- A cell of it laid anew. -/
theorem OwnZ.set {W w : World} {v : Value} {n : Nat} {xs : List Value} (h : OwnZ W w v n xs) {g cap : Nat} (e : v = .slice (some ⟨g, 0, none⟩) n cap) (i : Nat) (hi : i < n * 1) (y : Value) (hy : y.oneCell' = true) : OwnZ W (w.setCell ⟨g, i, none⟩ y) v n (xs.set i y) := by
  have hf : W.heap.size ≤ g := h.fresh g (by rw [e]; rfl)
  have h1 := h.owns.1
  rcases h.owns.2 with ⟨e', h0⟩ | ⟨g', cap', cur, e', hb, hg, q1, q2, q3, q4⟩
  · rw [h0] at hi; omega
  · rw [e] at e'
    simp only [Value.slice.injEq, Option.some.injEq, Addr.mk.injEq] at e'
    obtain ⟨⟨rfl, _, _⟩, _, rfl⟩ := e'
    refine ⟨⟨?_, .inr ⟨g, cap, cur.setIfInBounds i y, e, hb, by rw [heap_setCell_same _ _ _ _ hg], q1, q2, ?_, ?_⟩⟩, h.touch.setCell _ _ (fun hk => absurd hk (Nat.not_lt.2 hf)), h.fresh⟩
    · rw [List.length_set]; exact h1
    · simpa using q3
    · rw [Array.toList_setIfInBounds, ← q4, List.take_set]
theorem OwnZ.free {W w : World} {v : Value} {n : Nat} {xs : List Value} (h : OwnZ W w v n xs) {g cap : Nat} (e : v = .slice (some ⟨g, 0, none⟩) n cap) (hn : 0 < n) (i : Nat) : w.frozen? ⟨g, i, none⟩ = false := by
  rcases h.owns.2 with ⟨e', h0⟩ | ⟨g', cap', cur, e', hb, hg, q1, q2, q3, q4⟩
  · omega
  · rw [e] at e'
    simp only [Value.slice.injEq, Option.some.injEq, Addr.mk.injEq] at e'
    obtain ⟨⟨rfl, _, _⟩, _, rfl⟩ := e'
    exact free_of_block hg
theorem OwnZ.shape {W w : World} {v : Value} {n : Nat} {xs : List Value} (h : OwnZ W w v n xs) : ∃ ao cap, v = .slice ao n cap ∧ (0 < n → ∃ g, ao = some ⟨g, 0, none⟩) ∧ n ≤ cap ∧ cap ≤ 9223372036854775807 := by
  rcases h.owns.2 with ⟨e, h0⟩ | ⟨g, cap, cur, e, hb, hg, q1, q2, q3, q4⟩
  · exact ⟨none, 0, by rw [e, h0], fun h => by omega, by omega, by omega⟩
  · exact ⟨_, cap, e, fun _ => ⟨g, rfl⟩, q1, q2⟩
end Go.Proofs.YtodpdcflbnomgaaGreat

/- The document's keys of a map: put in one by one, by places. No Go in it. -/
namespace Go.Proofs.YtodpdcflbnomgaaGreat
open Go.RowKit Go.Maps
set_option linter.unusedVariables false
set_option linter.unusedSimpArgs false
set_option maxRecDepth 100000

theorem less_before : ∀ a b : List UInt8, Op.bytesLess a b = bytesBefore a b
  | [], [] => rfl
  | [], _ :: _ => rfl
  | _ :: _, [] => rfl
  | a :: r, b :: s => by
    unfold Op.bytesLess bytesBefore
    rw [less_before r s]
theorem ba_toList (b : ByteArray) : b.toList = b.data.toList := ByteArray.toList_eq b
theorem insK_hit : ∀ (ks : List Key) (x : Key) (j : Nat) (hj : j < ks.length), (∀ i, i < j → bytesBefore (ks.getD i []) x = true) → ks.getD j [] = x → insK ks x = ks
  | [], x, j, hj, _, _ => by simp at hj
  | y :: l, x, 0, _, _, h => by
    have h : y = x := h
    unfold insK
    rw [if_neg (by rw [h, before_irrefl]; simp), if_pos h]
  | y :: l, x, j + 1, hj, hb, h => by
    have h0 : bytesBefore y x = true := hb 0 (by omega)
    unfold insK
    rw [if_pos h0, insK_hit l x j (by simpa using hj) (fun i hi => hb (i + 1) (by omega)) h]
theorem insK_miss : ∀ (ks : List Key) (x : Key) (j : Nat) (hj : j ≤ ks.length), (∀ i, i < j → bytesBefore (ks.getD i []) x = true) → (j < ks.length → bytesBefore (ks.getD j []) x = false ∧ ks.getD j [] ≠ x) → insK ks x = ks.take j ++ x :: ks.drop j
  | [], x, j, hj, _, _ => by
    have : j = 0 := by simpa using hj
    subst this; rfl
  | y :: l, x, 0, _, _, h => by
    obtain ⟨h1, h2⟩ := h (by simp)
    have h1 : bytesBefore y x = false := h1
    have h2 : y ≠ x := h2
    unfold insK
    rw [if_neg (by rw [h1]; simp), if_neg h2]; rfl
  | y :: l, x, j + 1, hj, hb, h => by
    have h0 : bytesBefore y x = true := hb 0 (by omega)
    unfold insK
    rw [if_pos h0, insK_miss l x j (by simpa using hj) (fun i hi => hb (i + 1) (by omega)) (fun q => h (by simpa using q))]
    rfl
/-- Keys that are being moved on by one, down to place kk. -/
structure Moved (M ks : List ByteArray) (kk : Nat) : Prop where
  len : M.length = ks.length + 1
  lo : ∀ j, j < kk → M[j]? = ks[j]?
  hi : ∀ j, kk < j → j ≤ ks.length → M[j]? = ks[j - 1]?
theorem Moved.start (ks : List ByteArray) (x : ByteArray) : Moved (ks ++ [x]) ks ks.length := ⟨by simp, fun j hj => List.getElem?_append_left hj, fun j h1 h2 => by omega⟩
theorem Moved.step {M ks : List ByteArray} {m : Nat} (h : Moved M ks (m + 1)) (hm : m < ks.length) : Moved (M.set (m + 1) (M.getD m ⟨#[]⟩)) ks m := by
  have h0 := h.lo m (by omega)
  rw [List.getElem?_eq_getElem hm] at h0
  have e : M.getD m ⟨#[]⟩ = ks[m] := by rw [List.getD_eq_getElem?_getD, h0]; rfl
  refine ⟨by simp [h.len], fun j hj => ?_, fun j h1 h2 => ?_⟩
  · rw [List.getElem?_set, if_neg (by omega)]; exact h.lo j (by omega)
  · rw [List.getElem?_set]
    by_cases hj : m + 1 = j
    · subst hj
      rw [if_pos rfl, if_pos (by rw [h.len]; omega), e]
      simp [hm]
    · rw [if_neg hj]; exact h.hi j (by omega) h2
theorem Moved.done {M ks : List ByteArray} {at_ : Nat} (h : Moved M ks at_) (hk : at_ ≤ ks.length) (x : ByteArray) : M.set at_ x = ks.take at_ ++ x :: ks.drop at_ := by
  apply List.ext_getElem?
  intro j
  rw [List.getElem?_set]
  by_cases h1 : at_ = j
  · subst h1
    rw [if_pos rfl, if_pos (by rw [h.len]; omega), List.getElem?_append_right (by simp; omega)]
    simp [Nat.min_eq_left hk]
  · rw [if_neg h1]
    by_cases h2 : j < at_
    · rw [h.lo j h2, List.getElem?_append_left (by simp; omega), List.getElem?_take, if_pos h2]
    · rw [List.getElem?_append_right (by simp; omega)]
      have e : (ks.take at_).length = at_ := by simp; omega
      rw [e, List.getElem?_cons, if_neg (by omega), List.getElem?_drop]
      by_cases h3 : j ≤ ks.length
      · rw [h.hi j (by omega) h3]; congr 1; omega
      · rw [List.getElem?_eq_none (by rw [h.len]; omega), List.getElem?_eq_none (by omega)]
theorem keys_at {L : List O} {c k : Int} {i : Nat} (hi : i < L.length) : (L.take (i + 1)).foldl (keyStep c k) [] = keyStep c k ((L.take i).foldl (keyStep c k) []) (L.getD i zeroO) := by
  rw [List.take_succ_eq_append_getElem hi, List.foldl_append, List.foldl_cons, List.foldl_nil, List.getD_eq_getElem?_getD, List.getElem?_eq_getElem hi]
  rfl
theorem insK_len : ∀ (ks : List Key) (x : Key), (insK ks x).length ≤ ks.length + 1
  | [], x => by simp [insK]
  | y :: l, x => by
    have := insK_len l x
    unfold insK
    split
    · simp; omega
    · split <;> simp
theorem keys_fold_len (c k : Int) : ∀ (L : List O) (ks : List Key), (L.foldl (keyStep c k) ks).length ≤ ks.length + L.length
  | [], ks => by simp
  | o :: L, ks => by
    rw [List.foldl_cons]
    have h1 := keys_fold_len c k L (keyStep c k ks o)
    have h2 : (keyStep c k ks o).length ≤ ks.length + 1 := by
      unfold keyStep; split
      · exact insK_len _ _
      · omega
    simp only [List.length_cons]
    omega
theorem strK_toList (x : ByteArray) : strK x.data.toList = x := by obtain ⟨x⟩ := x; simp [strK]
end Go.Proofs.YtodpdcflbnomgaaGreat

/- Arguments that are slices of whole numbers of a kind: where they lie, how long they are. -/
namespace Go.Proofs.YtodpdcflbnomgaaGreat
open Go.ChangeShapes Go.WideShapes Go.ChangeAt Go.RowKit
set_option linter.unusedVariables false

/-- Numbers of a kind that lie where a slice of that address begins. -/
def LiesK (w : World) (k : IntKind) (ao : Option Addr) (zs : List Int) : Prop := zs = [] ∨ ∃ b o, ao = some ⟨b, o, none⟩ ∧ ∀ j (hj : j < zs.length), w.cell? ⟨b, o + j, none⟩ = some (.int k zs[j])
theorem LiesK.touch {W W' : World} {k : IntKind} {ao : Option Addr} {zs : List Int} (h : LiesK W k ao zs) (t : Touch (fun _ => False) W W') : LiesK W' k ao zs := by
  rcases h with h | ⟨b, o, e, h⟩
  · exact .inl h
  · refine .inr ⟨b, o, e, fun j hj => ?_⟩
    have := h j hj
    rw [World.cell?_of_block (t.block _ (World.block_lt_of_cell? _ _ this) id)]; exact this
theorem numsIn_of {H : Type} {enc : TypeId × Value → H} {P : Program} {w : World} {base : Nat} {held : Bool} {t e : TypeId} {fuel n cap : Nat} {ao : Option Addr} {k : IntKind} {x : DataW H × List MemPlace}
    (ht : P.underlying t = some (.slice e)) (he : P.underlying e = some (.int k)) (hc : P.cellsOf e = 1)
    (h : DataW.trod enc P w base (fun _ => true) held fuel t (Value.slice ao n cap).cells.toList = some x) : ∃ zs : List Int, n = zs.length ∧ (ao = none → cap = 0) ∧ LiesK w k ao zs ∧ n ≤ cap ∧ cap ≤ maxLen ∧ ∀ y ∈ zs, (Lit.int k y).wf := by
  rcases open_ints ht he hc h with ⟨hcs, hx⟩ | ⟨a, l, c, zs, hcs, _, hl, hm, hz, hx, hcell, hwz⟩
  · simp [Value.cells] at hcs
    obtain ⟨rfl, rfl, rfl⟩ := hcs
    exact ⟨[], rfl, fun _ => rfl, .inl rfl, Nat.le_refl _, by simp [maxLen], fun y hy => (List.not_mem_nil hy).elim⟩
  · simp [Value.cells] at hcs
    obtain ⟨rfl, rfl, rfl⟩ := hcs
    simp only [if_true] at hz
    have hlen : (zs.take n).length = n := by rw [List.length_take]; omega
    refine ⟨zs.take n, hlen.symm, (by intro h; cases h), ?_, by omega, hm, fun y hy => hwz y (List.mem_of_mem_take hy)⟩
    by_cases hn : n = 0
    · subst hn; exact .inl (by simp)
    · have h0 : w.cell? (a.add 0) = some (.int k (zs.getD 0 0)) := hcell 0 (by omega)
      obtain ⟨b, off, rfl, _⟩ : ∃ b off, a = ⟨b, off, none⟩ ∧ True := by
        obtain ⟨b, off, spot⟩ := a
        cases spot with
        | none => exact ⟨b, off, rfl, trivial⟩
        | some s => exfalso; simp [World.cell?, Addr.add] at h0; split at h0 <;> simp_all
      refine .inr ⟨b, off, rfl, fun j hj => ?_⟩
      have e2 : (⟨b, off, none⟩ : Addr).add j = ⟨b, off + j, none⟩ := by unfold Addr.add; split <;> simp_all
      have hj2 : j < zs.length := by rw [hlen] at hj; omega
      rw [← e2, hcell j hj2]
      simp [List.getElem?_eq_getElem hj2]
theorem wrap_u16 (x : Int) (h0 : 0 ≤ x) (h1 : x < 65536) : IntKind.u16.wrap x = x := by
  simp [IntKind.wrap, IntKind.signed, IntKind.bits]
  omega
theorem wrap_64 (x : Int) (h0 : 0 ≤ x) (h1 : x < 65536) : wrap64 x = x := by
  have := IntKind.wrap_i64 x
  simp only [wrap64] at *
  omega
theorem quo_u16 (x k : Int) (h0 : 0 ≤ x) (h1 : x < 65536) (hk : 1 ≤ k) : wrap64 (IntKind.u16.wrap (x.tdiv k)) = x / k := by
  have e := Int.tdiv_eq_ediv_of_nonneg (b := k) h0
  have h2 : 0 ≤ x / k := Int.ediv_nonneg h0 (by omega)
  have h3 : x / k ≤ x := Int.ediv_le_self _ h0
  rw [e, wrap_u16 _ h2 (by omega), wrap_64 _ h2 (by omega)]
end Go.Proofs.YtodpdcflbnomgaaGreat
