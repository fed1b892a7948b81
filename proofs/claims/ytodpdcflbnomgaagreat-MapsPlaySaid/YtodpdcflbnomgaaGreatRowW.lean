/- Slices of runs: how they lie, are cut, grow. -/
import Derived.Test.YtodpdcflbnomgaaGreatPart6
import Derived.Test.YtodpdcflbnomgaaGreatPart2
import Derived.Maps.AppendAt
import Derived.Laws.OwnMore
import Derived.Shelf.GgSortFunc.RowK
namespace Go.Proofs.YtodpdcflbnomgaaGreat
open Go.RowKit Go.Maps
set_option linter.unusedVariables false
set_option linter.unusedSimpArgs false

/-- A slice's three words. -/
structure Sw where
  a : Option Addr
  n : Nat
  c : Nat
deriving Inhabited
abbrev Sw.val (s : Sw) : Value := .slice s.a s.n s.c
/-- A run as it lies. -/
structure Rw where
  tx : ByteArray
  em : Bool
  vk : Int
  vn : Int
  vf : Nat
  vs : ByteArray
  ms : Sw
deriving Inhabited
abbrev rwO (r : Rw) : Obj := .cells #[.string r.tx, .bool r.em, .int .i64 r.vk, .int .i64 r.vn, .float .f64 r.vf, .string r.vs, .slice r.ms.a r.ms.n r.ms.c] 103
abbrev Rw.val (r : Rw) : Value := .agg #[.string r.tx, .bool r.em, .int .i64 r.vk, .int .i64 r.vn, .float .f64 r.vf, .string r.vs, .slice r.ms.a r.ms.n r.ms.c]
def cellW (r : Rw) : List Value := [.string r.tx, .bool r.em, .int .i64 r.vk, .int .i64 r.vn, .float .f64 r.vf, .string r.vs, .slice r.ms.a r.ms.n r.ms.c]
def cellsW (l : List Rw) : List Value := l.flatMap cellW
theorem cellsW_cons (r : Rw) (l : List Rw) : cellsW (r :: l) = .string r.tx :: .bool r.em :: .int .i64 r.vk :: .int .i64 r.vn :: .float .f64 r.vf :: .string r.vs :: .slice r.ms.a r.ms.n r.ms.c :: cellsW l := rfl
theorem cellsW_append (a b : List Rw) : cellsW (a ++ b) = cellsW a ++ cellsW b := by simp [cellsW]
theorem cellsW_one (l : List Rw) : ∀ u ∈ cellsW l, u.oneCell' = true := by
  intro u hu
  obtain ⟨f, _, hf⟩ := List.mem_flatMap.1 hu
  simp only [cellW, List.mem_cons, List.not_mem_nil, or_false] at hf
  rcases hf with rfl | rfl | rfl | rfl | rfl | rfl | rfl <;> rfl
theorem cellsW_len (l : List Rw) : (cellsW l).length = l.length * 7 := by
  induction l with
  | nil => rfl
  | cons f r ih => rw [cellsW_cons]; simp only [List.length_cons, ih]; omega
theorem cellsW_get : ∀ (l : List Rw) (j : Nat) (h : j < l.length), (cellsW l)[j * 7]? = some (.string l[j].tx) ∧ (cellsW l)[j * 7 + 1]? = some (.bool l[j].em) ∧ (cellsW l)[j * 7 + 2]? = some (.int .i64 l[j].vk) ∧ (cellsW l)[j * 7 + 3]? = some (.int .i64 l[j].vn) ∧ (cellsW l)[j * 7 + 4]? = some (.float .f64 l[j].vf) ∧ (cellsW l)[j * 7 + 5]? = some (.string l[j].vs) ∧ (cellsW l)[j * 7 + 6]? = some (.slice l[j].ms.a l[j].ms.n l[j].ms.c)
  | f :: r, 0, _ => ⟨rfl, rfl, rfl, rfl, rfl, rfl, rfl⟩
  | f :: r, j + 1, h => by
    have ih := cellsW_get r j (by simpa using h)
    rw [cellsW_cons, show (j + 1) * 7 = j * 7 + 7 from by omega]
    exact ih
theorem cellsW_set : ∀ (l : List Rw) (j : Nat) (h : j < l.length) (r : Rw), (((((((cellsW l).set (j * 7) (.string r.tx)).set (j * 7 + 1) (.bool r.em)).set (j * 7 + 2) (.int .i64 r.vk)).set (j * 7 + 3) (.int .i64 r.vn)).set (j * 7 + 4) (.float .f64 r.vf)).set (j * 7 + 5) (.string r.vs)).set (j * 7 + 6) (.slice r.ms.a r.ms.n r.ms.c) = cellsW (l.set j r)
  | f :: l, 0, _, r => rfl
  | f :: l, j + 1, h, r => by
    have ih := cellsW_set l j (by simpa using h) r
    rw [cellsW_cons, List.set_cons_succ, cellsW_cons, ← ih, show (j + 1) * 7 = j * 7 + 7 from by omega]
    rfl
theorem infoW : (Tryz.prog.info? 103).map (fun i => (i.zero, i.size, i.bytes)) = some (some (.agg #[.string ⟨#[]⟩, .bool false, .int .i64 0, .int .i64 0, .float .f64 0, .string ⟨#[]⟩, .slice none 0 0]), 7, 88) := by kernel_rfl
/-- They lie where a slice of that address begins. -/
def LiesW (w : World) (ao : Option Addr) (l : List Rw) : Prop := l = [] ∨ ∃ b o, ao = some ⟨b, o, none⟩ ∧ ∀ j u, (cellsW l)[j]? = some u → w.cell? ⟨b, o + j, none⟩ = some u
theorem LiesW.touch {W W' : World} {ao : Option Addr} {b : List Rw} (h : LiesW W ao b) (t : Touch (fun _ => False) W W') : LiesW W' ao b := by
  rcases h with h | ⟨b, o, e, h⟩
  · exact .inl h
  · refine .inr ⟨b, o, e, fun j u hu => ?_⟩
    have := h j u hu
    rw [World.cell?_of_block (t.block _ (World.block_lt_of_cell? _ _ this) id)]; exact this
theorem LiesW.new (W : World) (f : Rw) : LiesW (W.alloc (rwO f)) (some ⟨W.heap.size, 0, none⟩) [f] := by
  refine .inr ⟨_, _, rfl, fun j u hu => ?_⟩
  rw [Nat.zero_add, cell_of_block (heap_alloc_new W (rwO f))]
  have e : cellsW [f] = [.string f.tx, .bool f.em, .int .i64 f.vk, .int .i64 f.vn, .float .f64 f.vf, .string f.vs, .slice f.ms.a f.ms.n f.ms.c] := rfl
  rw [e] at hu
  simpa using hu
theorem addr_addW (g o j : Nat) : (⟨g, o, none⟩ : Addr).add j = ⟨g, o + j, none⟩ := by
  unfold Addr.add
  split <;> simp_all
/-- v is a slice of l. -/
def SlW (w : World) (v : Value) (l : List Rw) : Prop := ∃ ao cap, v = .slice ao l.length cap ∧ (ao = none → cap = 0) ∧ l.length ≤ cap ∧ cap ≤ 9223372036854775807 ∧ LiesW w ao l
theorem SlW.touch {W W' : World} {v : Value} {l : List Rw} (h : SlW W v l) (t : Touch (fun _ => False) W W') : SlW W' v l := by
  obtain ⟨ao, cap, e, h1, h2, h3, h4⟩ := h
  exact ⟨ao, cap, e, h1, h2, h3, h4.touch t⟩
theorem SlW.nil (w : World) : SlW w (.slice none 0 0) [] := ⟨none, 0, rfl, fun _ => rfl, Nat.le_refl _, by omega, .inl rfl⟩
/-- Its cells, where there are any. -/
theorem SlW.row {w : World} {v : Value} {l : List Rw} (h : SlW w v l) (hne : l ≠ []) : ∃ b o cap, v = .slice (some ⟨b, o, none⟩) l.length cap ∧ l.length ≤ cap ∧ cap ≤ 9223372036854775807 ∧ b < w.heap.size ∧ ∀ j (h : j < l.length), w.cell? ⟨b, o + j * 7, none⟩ = some (.string l[j].tx) ∧ w.cell? ⟨b, o + j * 7 + 1, none⟩ = some (.bool l[j].em) ∧ w.cell? ⟨b, o + j * 7 + 2, none⟩ = some (.int .i64 l[j].vk) ∧ w.cell? ⟨b, o + j * 7 + 3, none⟩ = some (.int .i64 l[j].vn) ∧ w.cell? ⟨b, o + j * 7 + 4, none⟩ = some (.float .f64 l[j].vf) ∧ w.cell? ⟨b, o + j * 7 + 5, none⟩ = some (.string l[j].vs) ∧ w.cell? ⟨b, o + j * 7 + 6, none⟩ = some (.slice l[j].ms.a l[j].ms.n l[j].ms.c) := by
  obtain ⟨ao, cap, e, h1, h2, h3, h4⟩ := h
  rcases h4 with h4 | ⟨b, o, rfl, hc⟩
  · exact absurd h4 hne
  · have hx : ∀ j (h : j < l.length), w.cell? ⟨b, o + j * 7, none⟩ = some (.string l[j].tx) ∧ w.cell? ⟨b, o + j * 7 + 1, none⟩ = some (.bool l[j].em) ∧ w.cell? ⟨b, o + j * 7 + 2, none⟩ = some (.int .i64 l[j].vk) ∧ w.cell? ⟨b, o + j * 7 + 3, none⟩ = some (.int .i64 l[j].vn) ∧ w.cell? ⟨b, o + j * 7 + 4, none⟩ = some (.float .f64 l[j].vf) ∧ w.cell? ⟨b, o + j * 7 + 5, none⟩ = some (.string l[j].vs) ∧ w.cell? ⟨b, o + j * 7 + 6, none⟩ = some (.slice l[j].ms.a l[j].ms.n l[j].ms.c) := fun j hj => by
      obtain ⟨a0, a1, a2, a3, a4, a5, a6⟩ := cellsW_get l j hj
      exact ⟨hc _ _ a0, hc _ _ a1, hc _ _ a2, hc _ _ a3, hc _ _ a4, hc _ _ a5, hc _ _ a6⟩
    refine ⟨b, o, cap, e, h2, h3, ?_, hx⟩
    have hp : 0 < l.length := List.length_pos_iff.2 hne
    exact World.block_lt_of_cell? _ _ (hx 0 hp).1
theorem SlW.shape {w : World} {v : Value} {l : List Rw} (h : SlW w v l) : ∃ ao cap, v = .slice ao l.length cap ∧ (ao = none → cap = 0) ∧ l.length ≤ cap ∧ cap ≤ 9223372036854775807 := by
  obtain ⟨ao, cap, e, h1, h2, h3, h4⟩ := h
  exact ⟨ao, cap, e, h1, h2, h3⟩
theorem SlW.from {w : World} {ao : Option Addr} {n cap : Nat} {l : List Rw} (h : SlW w (.slice ao n cap) l) (c : Nat) (hc : c ≤ l.length) : SlW w (.slice (if cap = c then ao else ao.map (·.add (c * 7))) (n - c) (cap - c)) (l.drop c) := by
  obtain ⟨ao', cap', e, h1, h2, h3, h4⟩ := h
  simp only [Value.slice.injEq] at e
  obtain ⟨rfl, rfl, rfl⟩ := e
  refine ⟨_, _, by rw [List.length_drop], ?_, by rw [List.length_drop]; omega, by omega, ?_⟩
  · intro e
    split at e
    · have := h1 e; omega
    · rw [Option.map_eq_none_iff] at e
      have := h1 e; omega
  · by_cases hd : l.drop c = []
    · exact .inl hd
    · have hlt : c < l.length := by
        rcases Nat.lt_or_ge c l.length with x | x
        · exact x
        · exact absurd (List.drop_of_length_le x) hd
      rcases h4 with h4 | ⟨b, o, rfl, hx⟩
      · subst h4; simp at hlt
      · rw [if_neg (by omega), Option.map_some, addr_addW]
        refine .inr ⟨b, o + c * 7, rfl, fun j u hu => ?_⟩
        have e2 : cellsW l = cellsW (l.take c) ++ cellsW (l.drop c) := by rw [← cellsW_append, List.take_append_drop]
        have hlen : (cellsW (l.take c)).length = c * 7 := by rw [cellsW_len, List.length_take]; omega
        have : (cellsW l)[c * 7 + j]? = some u := by
          rw [e2, List.getElem?_append_right (by omega), hlen, Nat.add_sub_cancel_left]; exact hu
        have := hx _ u this
        rw [Nat.add_assoc]; exact this
theorem SlW.upto {w : World} {ao : Option Addr} {n cap : Nat} {l : List Rw} (h : SlW w (.slice ao n cap) l) (c : Nat) (hc : c ≤ l.length) : SlW w (.slice ao c cap) (l.take c) := by
  obtain ⟨ao', cap', e, h1, h2, h3, h4⟩ := h
  simp only [Value.slice.injEq] at e
  obtain ⟨rfl, rfl, rfl⟩ := e
  have hlen : (l.take c).length = c := by rw [List.length_take]; omega
  refine ⟨_, _, by rw [hlen], h1, by omega, h3, ?_⟩
  rcases h4 with h4 | ⟨b, o, rfl, hx⟩
  · exact .inl (by rw [h4]; simp)
  · refine .inr ⟨b, o, rfl, fun j u hu => hx j u ?_⟩
    have e2 : cellsW l = cellsW (l.take c) ++ cellsW (l.drop c) := by rw [← cellsW_append, List.take_append_drop]
    rw [e2, List.getElem?_append_left (by rw [List.getElem?_eq_some_iff] at hu; exact hu.1)]; exact hu
theorem sliceW_from (vo : Option Addr) (n cap c : Nat) (h : c ≤ n) (W : World) : (Instr.slice 80 (.slice vo n cap) (some (.int .i64 (c : Int))) none none).run Tryz.prog W = .ok (.slice (if cap = c then vo else vo.map (·.add (c * 7))) (n - c) (cap - c)) W := by
  have h1 : (c : Int) ≤ (n : Int) := by omega
  have hu := Tryz.underlying80
  obtain ⟨i0, hi, hz0, hz1, hz2⟩ := info_parts infoW
  simp [Instr.slice, run_underlying hu, Instr.sliceBounds, run_sliceBound, h1, sizeOf, typeInfo, hi, hz1]
theorem sliceW_to (vo : Option Addr) (n cap c : Nat) (h : c ≤ cap) (W : World) : (Instr.slice 80 (.slice vo n cap) none (some (.int .i64 (c : Int))) none).run Tryz.prog W = .ok (.slice vo c cap) W := by
  have h1 : (c : Int) ≤ (cap : Int) := by omega
  have hu := Tryz.underlying80
  have ha : ∀ a : Addr, a.add 0 = a := fun a => by cases a; simp [Addr.add]
  obtain ⟨i0, hi, hz0, hz1, hz2⟩ := info_parts infoW
  simp [Instr.slice, run_underlying hu, Instr.sliceBounds, run_sliceBound, h1, sizeOf, typeInfo, hi, ha]

theorem ownW_touch {S : Nat → Prop} {w w' : World} {v : Value} {n : Nat} {xs : List Value} (h : w.ownsRow 0 103 7 v n xs) (t : Touch S w w') (hs : ∀ k, v.ownBlock = some k → ¬ S k) : w'.ownsRow 0 103 7 v n xs := by
  refine ⟨h.1, ?_⟩
  rcases h.2 with h | ⟨g, cap, cur, rfl, hb, hg, r⟩
  · exact .inl h
  · exact .inr ⟨g, cap, cur, rfl, hb, (t.block g (lt_of_heap hg) (hs g rfl)).trans hg, r⟩
/-- A slice that was made since W, of the cells xs. -/
structure OwnW (W w : World) (v : Value) (n : Nat) (xs : List Value) : Prop where
  owns : w.ownsRow 0 103 7 v n xs
  touch : Touch (fun _ => False) W w
  fresh : ∀ k, v.ownBlock = some k → W.heap.size ≤ k
abbrev NewW (W w : World) (v : Value) (l : List Rw) : Prop := OwnW W w v l.length (cellsW l)
theorem NewW.nil (W w : World) (t : Touch (fun _ => False) W w) : NewW W w (.slice none 0 0) [] := ⟨World.ownsRow_nil _ _ _ _, t, fun k hk => by simp [Value.ownBlock] at hk⟩
theorem OwnW.on {W w w' : World} {v : Value} {n : Nat} {xs : List Value} (h : OwnW W w v n xs) (t : Touch (fun _ => False) w w') : OwnW W w' v n xs :=
  ⟨ownW_touch h.owns t (fun _ _ => id), h.touch.trans t, h.fresh⟩
/-- It was made since any world ahead, too. -/
theorem OwnW.since {W0 W w : World} {v : Value} {n : Nat} {xs : List Value} (h : OwnW W w v n xs) (t : Touch (fun _ => False) W0 W) : OwnW W0 w v n xs :=
  ⟨h.owns, t.trans h.touch, fun k hk => Nat.le_trans t.size (h.fresh k hk)⟩
theorem NewW.sl {W w : World} {v : Value} {l : List Rw} (h : NewW W w v l) : SlW w v l := by
  rcases h.owns.2 with ⟨e, h0⟩ | ⟨g, cap, cur, e, hb, hg, q1, q2, q3, q4⟩
  · have : l = [] := List.length_eq_zero_iff.1 (by omega)
    subst this
    rw [e]; exact SlW.nil w
  · refine ⟨_, cap, e, (fun h => by cases h), q1, q2, .inr ⟨g, 0, rfl, fun j u hu => ?_⟩⟩
    rw [← q4, List.getElem?_take] at hu
    split at hu
    · rw [cell_of_block hg, Nat.zero_add, ← Array.getElem?_toList]; exact hu
    · cases hu
theorem run_appendW (w : World) (v : Value) (a : List Rw) (hown : w.ownsRow 0 103 7 v a.length (cellsW a)) (ao : Option Addr) (n cap : Nat) (b : List Rw) (hn : n = b.length) (hno : ao = none → cap = 0) (hL : LiesW w ao b) (hlen : a.length + b.length ≤ 1073741825) :
    ∃ v' w', (Builtin.append_ #[80, 80] 80 #[v, .slice ao n cap]).run Tryz.prog w = .ok v' w' ∧ w'.ownsRow 0 103 7 v' (a ++ b).length (cellsW (a ++ b)) ∧ w.grownBy w' v.ownBlock ∧ (v'.ownBlock = v.ownBlock ∨ v'.ownBlock = some w.heap.size) := by
  subst hn
  obtain ⟨i0, hi, hz0, hz1, hz2⟩ := info_parts infoW
  cases ao with
  | none =>
    have hb : b = [] := by
      rcases hL with h | ⟨b', o, e, _⟩
      · exact h
      · cases e
    subst hb
    have hc := hno rfl
    subst hc
    refine ⟨v, w, run_append_owned_none w 0 80 80 103 i0 7 Tryz.underlying80 hi v a.length (cellsW a) hown, ?_, World.grownBy.refl w _, .inl rfl⟩
    rw [List.append_nil]; exact hown
  | some ad =>
    have hcl : ∀ j u, (cellsW b)[j]? = some u → w.cell? (ad.add j) = some u := by
      rcases hL with h | ⟨b', o, e, h⟩
      · subst h; intro j u hu; simp [cellsW] at hu
      · cases e; intro j u hu; rw [addr_addW]; exact h j u hu
    obtain ⟨v', w', hrun, hown', hg, _, hat⟩ := run_append_own_at w 0 80 80 103 i0 _ 7 88 Tryz.underlying80 hi hz0 hz1 hz2 rfl (by decide) v a.length (cellsW a) hown ad b.length cap (cellsW b) (cellsW_len b) hcl (cellsW_one b) (by unfold maxLen; omega) (by omega) (Nat.zero_le _)
    refine ⟨v', w', hrun, ?_, hg, hat⟩
    rw [cellsW_append, List.length_append]; exact hown'
theorem NewW.app {W wx : World} {v : Value} {a : List Rw} (h : NewW W wx v a) (ao : Option Addr) (n cap : Nat) (b : List Rw) (hn : n = b.length) (hno : ao = none → cap = 0) (hL : LiesW wx ao b) (hlen : a.length + b.length ≤ 1073741825) :
    ∃ v' w', (Builtin.append_ #[80, 80] 80 #[v, .slice ao n cap]).run Tryz.prog wx = .ok v' w' ∧ NewW W w' v' (a ++ b) ∧ wx.grownBy w' v.ownBlock := by
  obtain ⟨v', w', hr, ho, hg, hb⟩ := run_appendW wx v a h.owns ao n cap b hn hno hL hlen
  refine ⟨v', w', hr, ⟨ho, ?_, fun k hk => ?_⟩, hg⟩
  · exact h.touch.then ((Touch.refl (fun i => v.ownBlock = some i) wx).grown hg (fun i e _ => e)) fun i hi e => absurd hi (Nat.not_lt.2 (h.fresh i e))
  · rcases hb with e | e
    · exact h.fresh k (e ▸ hk)
    · rw [hk] at e; have := h.touch.size; simp at e; omega
/-- An append of one, out of a new block. -/
theorem NewW.app1 {W wx : World} {v : Value} {a : List Rw} (h : NewW W wx v a) (r : Rw) (hlen : a.length ≤ 1073741824) :
    ∃ v' w', (Builtin.append_ #[80, 80] 80 #[v, .slice (some ⟨wx.heap.size, 0, none⟩) 1 1]).run Tryz.prog (wx.alloc (rwO r)) = .ok v' w' ∧ NewW W w' v' (a ++ [r]) ∧ (wx.alloc (rwO r)).grownBy w' v.ownBlock :=
  NewW.app (h.on ((Touch.refl _ wx).alloc _)) (some ⟨wx.heap.size, 0, none⟩) 1 1 [r] rfl (fun h => by cases h) (LiesW.new wx r) (by simp; omega)
theorem wpList_append_runW {w w' : World} {ops : Array Oper} {rest : List Oper} {o : Oper} {a : Act} {Q : Exit → Act → World → Prop} (hgd : o.guard = none) (s x : Operand)
    (ho : o.op = .call { callee := .builtin .append, args := #[s, x], argTypes := #[80, 80] }) (v y v' : Value) (hs : a.eval s = v) (hx : a.eval x = y)
    (hrun : (Builtin.append_ #[80, 80] o.type #[v, y]).run Tryz.prog w = .ok v' w') (h : wpList Tryz.prog ops Q rest (a.put o.dst v') w') : wpList Tryz.prog ops Q (o :: rest) a w := by
  refine wpList_plain hgd fun K' hK' => ?_
  unfold Oper.wp
  simp [execOp, ho, resolve, invoke, builtin, hs, hx, hrun, Result.andThen]
  exact hK' _ _ h
/-- A cell of it laid anew. -/
theorem OwnW.set {W w : World} {v : Value} {n : Nat} {xs : List Value} (h : OwnW W w v n xs) {g cap : Nat} (e : v = .slice (some ⟨g, 0, none⟩) n cap) (i : Nat) (hi : i < n * 7) (y : Value) (hy : y.oneCell' = true) : OwnW W (w.setCell ⟨g, i, none⟩ y) v n (xs.set i y) := by
  have hf : W.heap.size ≤ g := h.fresh g (by rw [e]; rfl)
  have h1 := h.owns.1
  rcases h.owns.2 with ⟨e', h0⟩ | ⟨g', cap', cur, e', hb, hg, q1, q2, q3, q4⟩
  · rw [h0] at hi; omega
  · rw [e] at e'
    simp only [Value.slice.injEq, Option.some.injEq, Addr.mk.injEq] at e'
    obtain ⟨⟨rfl, _, _⟩, _, rfl⟩ := e'
    refine ⟨⟨?_, .inr ⟨g, cap, cur.setIfInBounds i y, e, hb, by rw [heap_setCell_same _ _ _ _ hg], q1, q2, ?_, ?_⟩⟩, h.touch.setCell _ _ (fun hk => absurd hk (Nat.not_lt.2 hf)), h.fresh⟩
    · rw [List.length_set]; exact h1
    · simpa using q3
    · rw [Array.toList_setIfInBounds, ← q4, List.take_set]
theorem OwnW.free {W w : World} {v : Value} {n : Nat} {xs : List Value} (h : OwnW W w v n xs) {g cap : Nat} (e : v = .slice (some ⟨g, 0, none⟩) n cap) (hn : 0 < n) (i : Nat) : w.frozen? ⟨g, i, none⟩ = false := by
  rcases h.owns.2 with ⟨e', h0⟩ | ⟨g', cap', cur, e', hb, hg, q1, q2, q3, q4⟩
  · omega
  · rw [e] at e'
    simp only [Value.slice.injEq, Option.some.injEq, Addr.mk.injEq] at e'
    obtain ⟨⟨rfl, _, _⟩, _, rfl⟩ := e'
    exact free_of_block hg
theorem OwnW.shape {W w : World} {v : Value} {n : Nat} {xs : List Value} (h : OwnW W w v n xs) : ∃ ao cap, v = .slice ao n cap ∧ (0 < n → ∃ g, ao = some ⟨g, 0, none⟩) ∧ n ≤ cap ∧ cap ≤ 9223372036854775807 := by
  rcases h.owns.2 with ⟨e, h0⟩ | ⟨g, cap, cur, e, hb, hg, q1, q2, q3, q4⟩
  · exact ⟨none, 0, by rw [e, h0], fun h => by omega, by omega, by omega⟩
  · exact ⟨_, cap, e, fun _ => ⟨g, rfl⟩, q1, q2⟩
end Go.Proofs.YtodpdcflbnomgaaGreat
