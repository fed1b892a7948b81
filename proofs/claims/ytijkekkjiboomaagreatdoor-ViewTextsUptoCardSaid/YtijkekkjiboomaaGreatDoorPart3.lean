/- An operation: its fields, as a value, as a block (OpM's first part alone, for seats whose road has no package ops). -/
import Derived.Test.YtijkekkjiboomaaGreatDoorPart1
import Derived.Test.YtijkekkjiboomaaGreatDoorPart2
import Derived.Maps.AppendAt
import Derived.Laws.OwnMore
import Derived.Shelf.GgSortFunc.RowK
namespace Go.Proofs.YtijkekkjiboomaaGreatDoor
open Go.RowKit
set_option linter.unusedVariables false
set_option maxRecDepth 100000

structure O where
  c : Int
  k : Int
  kind : Int
  st : Int
  lc : Int
  lk : Int
  rc : Int
  rk : Int
  tx : ByteArray
  vk : Int
  vn : Int
  vf : Nat
  vs : ByteArray
  ky : ByteArray
  pc : Int
  pk : Int
  fc : Int
  fk : Int
  fa : Bool
  tc : Int
  tk : Int
  ta : Bool
abbrev O.vals (o : O) : Array Value := #[.int .u64 o.c, .int .u64 o.k, .int .i64 o.kind, .int .u64 o.st, .int .u64 o.lc, .int .u64 o.lk, .int .u64 o.rc, .int .u64 o.rk, .string o.tx, .int .i64 o.vk, .int .i64 o.vn, .float .f64 o.vf, .string o.vs, .string o.ky, .int .u64 o.pc, .int .u64 o.pk, .int .u64 o.fc, .int .u64 o.fk, .bool o.fa, .int .u64 o.tc, .int .u64 o.tk, .bool o.ta]
abbrev O.val (o : O) : Value := .agg o.vals
/-- What is so of every operation that comes in. -/
structure O.fits (o : O) : Prop where
  c0 : 0 ≤ o.c ∧ o.c < 18446744073709551616
  k0 : 0 ≤ o.k ∧ o.k < 18446744073709551616
  kind : -9223372036854775808 ≤ o.kind ∧ o.kind < 9223372036854775808
  st : 0 ≤ o.st ∧ o.st < 18446744073709551616
  lc : 0 ≤ o.lc ∧ o.lc < 18446744073709551616
  lk : 0 ≤ o.lk ∧ o.lk < 18446744073709551616
  rc : 0 ≤ o.rc ∧ o.rc < 18446744073709551616
  rk : 0 ≤ o.rk ∧ o.rk < 18446744073709551616
  pc : 0 ≤ o.pc ∧ o.pc < 18446744073709551616
  pk : 0 ≤ o.pk ∧ o.pk < 18446744073709551616
  fc : 0 ≤ o.fc ∧ o.fc < 18446744073709551616
  fk : 0 ≤ o.fk ∧ o.fk < 18446744073709551616
  tc : 0 ≤ o.tc ∧ o.tc < 18446744073709551616
  tk : 0 ≤ o.tk ∧ o.tk < 18446744073709551616
  vk : -9223372036854775808 ≤ o.vk ∧ o.vk < 9223372036854775808
  vn : -9223372036854775808 ≤ o.vn ∧ o.vn < 9223372036854775808
  vf : o.vf < 18446744073709551616
end Go.Proofs.YtijkekkjiboomaaGreatDoor

/- Slices of marks: how they lie, are cut, grow. -/
namespace Go.Proofs.YtijkekkjiboomaaGreatDoor
open Go.RowKit Go.Maps
set_option linter.unusedVariables false
set_option linter.unusedSimpArgs false

/-- A mark. -/
structure Mk where
  ky : ByteArray
  vk : Int
  vn : Int
  vf : Nat
  vs : ByteArray
deriving Inhabited
abbrev myO (r : Mk) : Obj := .cells #[.string r.ky, .int .i64 r.vk, .int .i64 r.vn, .float .f64 r.vf, .string r.vs] 45
abbrev mk (o : O) : Mk := ⟨o.ky, o.vk, o.vn, refBits o.vf, o.vs⟩
def cellY (r : Mk) : List Value := [.string r.ky, .int .i64 r.vk, .int .i64 r.vn, .float .f64 r.vf, .string r.vs]
def cellsY (l : List Mk) : List Value := l.flatMap cellY
theorem cellsY_cons (r : Mk) (l : List Mk) : cellsY (r :: l) = .string r.ky :: .int .i64 r.vk :: .int .i64 r.vn :: .float .f64 r.vf :: .string r.vs :: cellsY l := rfl
theorem cellsY_append (a b : List Mk) : cellsY (a ++ b) = cellsY a ++ cellsY b := by simp [cellsY]
theorem cellsY_one (l : List Mk) : ∀ u ∈ cellsY l, u.oneCell' = true := by
  intro u hu
  obtain ⟨f, _, hf⟩ := List.mem_flatMap.1 hu
  simp only [cellY, List.mem_cons, List.not_mem_nil, or_false] at hf
  rcases hf with rfl | rfl | rfl | rfl | rfl <;> rfl
theorem cellsY_len (l : List Mk) : (cellsY l).length = l.length * 5 := by
  induction l with
  | nil => rfl
  | cons f r ih => rw [cellsY_cons]; simp only [List.length_cons, ih]; omega
theorem cellsY_get : ∀ (l : List Mk) (j : Nat) (h : j < l.length), (cellsY l)[j * 5]? = some (.string l[j].ky) ∧ (cellsY l)[j * 5 + 1]? = some (.int .i64 l[j].vk) ∧ (cellsY l)[j * 5 + 2]? = some (.int .i64 l[j].vn) ∧ (cellsY l)[j * 5 + 3]? = some (.float .f64 l[j].vf) ∧ (cellsY l)[j * 5 + 4]? = some (.string l[j].vs)
  | f :: r, 0, _ => ⟨rfl, rfl, rfl, rfl, rfl⟩
  | f :: r, j + 1, h => by
    have ih := cellsY_get r j (by simpa using h)
    rw [cellsY_cons, show (j + 1) * 5 = j * 5 + 5 from by omega]
    exact ih
theorem cellsY_set : ∀ (l : List Mk) (j : Nat) (h : j < l.length) (r : Mk), (((((cellsY l).set (j * 5) (.string r.ky)).set (j * 5 + 1) (.int .i64 r.vk)).set (j * 5 + 2) (.int .i64 r.vn)).set (j * 5 + 3) (.float .f64 r.vf)).set (j * 5 + 4) (.string r.vs) = cellsY (l.set j r)
  | f :: l, 0, _, r => rfl
  | f :: l, j + 1, h, r => by
    have ih := cellsY_set l j (by simpa using h) r
    rw [cellsY_cons, List.set_cons_succ, cellsY_cons, ← ih, show (j + 1) * 5 = j * 5 + 5 from by omega]
    rfl
theorem infoY : (Tryz.prog.info? 45).map (fun i => (i.zero, i.size, i.bytes)) = some (some (.agg #[.string ⟨#[]⟩, .int .i64 0, .int .i64 0, .float .f64 0, .string ⟨#[]⟩]), 5, 56) := by kernel_rfl
/-- They lie where a slice of that address begins. -/
def LiesY (w : World) (ao : Option Addr) (l : List Mk) : Prop := l = [] ∨ ∃ b o, ao = some ⟨b, o, none⟩ ∧ ∀ j u, (cellsY l)[j]? = some u → w.cell? ⟨b, o + j, none⟩ = some u
theorem LiesY.touch {W W' : World} {ao : Option Addr} {b : List Mk} (h : LiesY W ao b) (t : Touch (fun _ => False) W W') : LiesY W' ao b := by
  rcases h with h | ⟨b, o, e, h⟩
  · exact .inl h
  · refine .inr ⟨b, o, e, fun j u hu => ?_⟩
    have := h j u hu
    rw [World.cell?_of_block (t.block _ (World.block_lt_of_cell? _ _ this) id)]; exact this
theorem LiesY.new (W : World) (f : Mk) : LiesY (W.alloc (myO f)) (some ⟨W.heap.size, 0, none⟩) [f] := by
  refine .inr ⟨_, _, rfl, fun j u hu => ?_⟩
  rw [Nat.zero_add, cell_of_block (heap_alloc_new W (myO f))]
  have e : cellsY [f] = [.string f.ky, .int .i64 f.vk, .int .i64 f.vn, .float .f64 f.vf, .string f.vs] := rfl
  rw [e] at hu
  simpa using hu
theorem addr_addY (g o j : Nat) : (⟨g, o, none⟩ : Addr).add j = ⟨g, o + j, none⟩ := by
  unfold Addr.add
  split <;> simp_all
/-- v is a slice of l. -/
def SlY (w : World) (v : Value) (l : List Mk) : Prop := ∃ ao cap, v = .slice ao l.length cap ∧ (ao = none → cap = 0) ∧ l.length ≤ cap ∧ cap ≤ 9223372036854775807 ∧ LiesY w ao l
theorem SlY.touch {W W' : World} {v : Value} {l : List Mk} (h : SlY W v l) (t : Touch (fun _ => False) W W') : SlY W' v l := by
  obtain ⟨ao, cap, e, h1, h2, h3, h4⟩ := h
  exact ⟨ao, cap, e, h1, h2, h3, h4.touch t⟩
theorem SlY.nil (w : World) : SlY w (.slice none 0 0) [] := ⟨none, 0, rfl, fun _ => rfl, Nat.le_refl _, by omega, .inl rfl⟩
/-- Its cells, where there are any. -/
theorem SlY.row {w : World} {v : Value} {l : List Mk} (h : SlY w v l) (hne : l ≠ []) : ∃ b o cap, v = .slice (some ⟨b, o, none⟩) l.length cap ∧ l.length ≤ cap ∧ cap ≤ 9223372036854775807 ∧ b < w.heap.size ∧ ∀ j (h : j < l.length), w.cell? ⟨b, o + j * 5, none⟩ = some (.string l[j].ky) ∧ w.cell? ⟨b, o + j * 5 + 1, none⟩ = some (.int .i64 l[j].vk) ∧ w.cell? ⟨b, o + j * 5 + 2, none⟩ = some (.int .i64 l[j].vn) ∧ w.cell? ⟨b, o + j * 5 + 3, none⟩ = some (.float .f64 l[j].vf) ∧ w.cell? ⟨b, o + j * 5 + 4, none⟩ = some (.string l[j].vs) := by
  obtain ⟨ao, cap, e, h1, h2, h3, h4⟩ := h
  rcases h4 with h4 | ⟨b, o, rfl, hc⟩
  · exact absurd h4 hne
  · have hx : ∀ j (h : j < l.length), w.cell? ⟨b, o + j * 5, none⟩ = some (.string l[j].ky) ∧ w.cell? ⟨b, o + j * 5 + 1, none⟩ = some (.int .i64 l[j].vk) ∧ w.cell? ⟨b, o + j * 5 + 2, none⟩ = some (.int .i64 l[j].vn) ∧ w.cell? ⟨b, o + j * 5 + 3, none⟩ = some (.float .f64 l[j].vf) ∧ w.cell? ⟨b, o + j * 5 + 4, none⟩ = some (.string l[j].vs) := fun j hj => by
      obtain ⟨a0, a1, a2, a3, a4⟩ := cellsY_get l j hj
      exact ⟨hc _ _ a0, hc _ _ a1, hc _ _ a2, hc _ _ a3, hc _ _ a4⟩
    refine ⟨b, o, cap, e, h2, h3, ?_, hx⟩
    have hp : 0 < l.length := List.length_pos_iff.2 hne
    exact World.block_lt_of_cell? _ _ (hx 0 hp).1
theorem SlY.shape {w : World} {v : Value} {l : List Mk} (h : SlY w v l) : ∃ ao cap, v = .slice ao l.length cap ∧ (ao = none → cap = 0) ∧ l.length ≤ cap ∧ cap ≤ 9223372036854775807 := by
  obtain ⟨ao, cap, e, h1, h2, h3, h4⟩ := h
  exact ⟨ao, cap, e, h1, h2, h3⟩
theorem SlY.from {w : World} {ao : Option Addr} {n cap : Nat} {l : List Mk} (h : SlY w (.slice ao n cap) l) (c : Nat) (hc : c ≤ l.length) : SlY w (.slice (if cap = c then ao else ao.map (·.add (c * 5))) (n - c) (cap - c)) (l.drop c) := by
  obtain ⟨ao', cap', e, h1, h2, h3, h4⟩ := h
  simp only [Value.slice.injEq] at e
  obtain ⟨rfl, rfl, rfl⟩ := e
  refine ⟨_, _, by rw [List.length_drop], ?_, by rw [List.length_drop]; omega, by omega, ?_⟩
  · intro e
    split at e
    · have := h1 e; omega
    · rw [Option.map_eq_none_iff] at e
      have := h1 e; omega
  · by_cases hd : l.drop c = []
    · exact .inl hd
    · have hlt : c < l.length := by
        rcases Nat.lt_or_ge c l.length with x | x
        · exact x
        · exact absurd (List.drop_of_length_le x) hd
      rcases h4 with h4 | ⟨b, o, rfl, hx⟩
      · subst h4; simp at hlt
      · rw [if_neg (by omega), Option.map_some, addr_addY]
        refine .inr ⟨b, o + c * 5, rfl, fun j u hu => ?_⟩
        have e2 : cellsY l = cellsY (l.take c) ++ cellsY (l.drop c) := by rw [← cellsY_append, List.take_append_drop]
        have hlen : (cellsY (l.take c)).length = c * 5 := by rw [cellsY_len, List.length_take]; omega
        have : (cellsY l)[c * 5 + j]? = some u := by
          rw [e2, List.getElem?_append_right (by omega), hlen, Nat.add_sub_cancel_left]; exact hu
        have := hx _ u this
        rw [Nat.add_assoc]; exact this
theorem SlY.upto {w : World} {ao : Option Addr} {n cap : Nat} {l : List Mk} (h : SlY w (.slice ao n cap) l) (c : Nat) (hc : c ≤ l.length) : SlY w (.slice ao c cap) (l.take c) := by
  obtain ⟨ao', cap', e, h1, h2, h3, h4⟩ := h
  simp only [Value.slice.injEq] at e
  obtain ⟨rfl, rfl, rfl⟩ := e
  have hlen : (l.take c).length = c := by rw [List.length_take]; omega
  refine ⟨_, _, by rw [hlen], h1, by omega, h3, ?_⟩
  rcases h4 with h4 | ⟨b, o, rfl, hx⟩
  · exact .inl (by rw [h4]; simp)
  · refine .inr ⟨b, o, rfl, fun j u hu => hx j u ?_⟩
    have e2 : cellsY l = cellsY (l.take c) ++ cellsY (l.drop c) := by rw [← cellsY_append, List.take_append_drop]
    rw [e2, List.getElem?_append_left (by rw [List.getElem?_eq_some_iff] at hu; exact hu.1)]; exact hu
theorem sliceY_from (vo : Option Addr) (n cap c : Nat) (h : c ≤ n) (W : World) : (Instr.slice 46 (.slice vo n cap) (some (.int .i64 (c : Int))) none none).run Tryz.prog W = .ok (.slice (if cap = c then vo else vo.map (·.add (c * 5))) (n - c) (cap - c)) W := by
  have h1 : (c : Int) ≤ (n : Int) := by omega
  have hu := Tryz.underlying46
  obtain ⟨i0, hi, hz0, hz1, hz2⟩ := info_parts infoY
  simp [Instr.slice, run_underlying hu, Instr.sliceBounds, run_sliceBound, h1, sizeOf, typeInfo, hi, hz1]
theorem sliceY_to (vo : Option Addr) (n cap c : Nat) (h : c ≤ cap) (W : World) : (Instr.slice 46 (.slice vo n cap) none (some (.int .i64 (c : Int))) none).run Tryz.prog W = .ok (.slice vo c cap) W := by
  have h1 : (c : Int) ≤ (cap : Int) := by omega
  have hu := Tryz.underlying46
  have ha : ∀ a : Addr, a.add 0 = a := fun a => by cases a; simp [Addr.add]
  obtain ⟨i0, hi, hz0, hz1, hz2⟩ := info_parts infoY
  simp [Instr.slice, run_underlying hu, Instr.sliceBounds, run_sliceBound, h1, sizeOf, typeInfo, hi, ha]

theorem ownY_touch {S : Nat → Prop} {w w' : World} {v : Value} {n : Nat} {xs : List Value} (h : w.ownsRow 0 45 5 v n xs) (t : Touch S w w') (hs : ∀ k, v.ownBlock = some k → ¬ S k) : w'.ownsRow 0 45 5 v n xs := by
  refine ⟨h.1, ?_⟩
  rcases h.2 with h | ⟨g, cap, cur, rfl, hb, hg, r⟩
  · exact .inl h
  · exact .inr ⟨g, cap, cur, rfl, hb, (t.block g (lt_of_heap hg) (hs g rfl)).trans hg, r⟩
/-- A slice that was made since W, of the cells xs. -/
structure OwnY (W w : World) (v : Value) (n : Nat) (xs : List Value) : Prop where
  owns : w.ownsRow 0 45 5 v n xs
  touch : Touch (fun _ => False) W w
  fresh : ∀ k, v.ownBlock = some k → W.heap.size ≤ k
abbrev NewY (W w : World) (v : Value) (l : List Mk) : Prop := OwnY W w v l.length (cellsY l)
theorem NewY.nil (W w : World) (t : Touch (fun _ => False) W w) : NewY W w (.slice none 0 0) [] := ⟨World.ownsRow_nil _ _ _ _, t, fun k hk => by simp [Value.ownBlock] at hk⟩
theorem OwnY.on {W w w' : World} {v : Value} {n : Nat} {xs : List Value} (h : OwnY W w v n xs) (t : Touch (fun _ => False) w w') : OwnY W w' v n xs :=
  ⟨ownY_touch h.owns t (fun _ _ => id), h.touch.trans t, h.fresh⟩
/-- It was made since any world ahead, too. -/
theorem OwnY.since {W0 W w : World} {v : Value} {n : Nat} {xs : List Value} (h : OwnY W w v n xs) (t : Touch (fun _ => False) W0 W) : OwnY W0 w v n xs :=
  ⟨h.owns, t.trans h.touch, fun k hk => Nat.le_trans t.size (h.fresh k hk)⟩
theorem NewY.sl {W w : World} {v : Value} {l : List Mk} (h : NewY W w v l) : SlY w v l := by
  rcases h.owns.2 with ⟨e, h0⟩ | ⟨g, cap, cur, e, hb, hg, q1, q2, q3, q4⟩
  · have : l = [] := List.length_eq_zero_iff.1 (by omega)
    subst this
    rw [e]; exact SlY.nil w
  · refine ⟨_, cap, e, (fun h => by cases h), q1, q2, .inr ⟨g, 0, rfl, fun j u hu => ?_⟩⟩
    rw [← q4, List.getElem?_take] at hu
    split at hu
    · rw [cell_of_block hg, Nat.zero_add, ← Array.getElem?_toList]; exact hu
    · cases hu
theorem run_appendY (w : World) (v : Value) (a : List Mk) (hown : w.ownsRow 0 45 5 v a.length (cellsY a)) (ao : Option Addr) (n cap : Nat) (b : List Mk) (hn : n = b.length) (hno : ao = none → cap = 0) (hL : LiesY w ao b) (hlen : a.length + b.length ≤ 1073741825) :
    ∃ v' w', (Builtin.append_ #[46, 46] 46 #[v, .slice ao n cap]).run Tryz.prog w = .ok v' w' ∧ w'.ownsRow 0 45 5 v' (a ++ b).length (cellsY (a ++ b)) ∧ w.grownBy w' v.ownBlock ∧ (v'.ownBlock = v.ownBlock ∨ v'.ownBlock = some w.heap.size) := by
  subst hn
  obtain ⟨i0, hi, hz0, hz1, hz2⟩ := info_parts infoY
  cases ao with
  | none =>
    have hb : b = [] := by
      rcases hL with h | ⟨b', o, e, _⟩
      · exact h
      · cases e
    subst hb
    have hc := hno rfl
    subst hc
    refine ⟨v, w, run_append_owned_none w 0 46 46 45 i0 5 Tryz.underlying46 hi v a.length (cellsY a) hown, ?_, World.grownBy.refl w _, .inl rfl⟩
    rw [List.append_nil]; exact hown
  | some ad =>
    have hcl : ∀ j u, (cellsY b)[j]? = some u → w.cell? (ad.add j) = some u := by
      rcases hL with h | ⟨b', o, e, h⟩
      · subst h; intro j u hu; simp [cellsY] at hu
      · cases e; intro j u hu; rw [addr_addY]; exact h j u hu
    obtain ⟨v', w', hrun, hown', hg, _, hat⟩ := run_append_own_at w 0 46 46 45 i0 _ 5 56 Tryz.underlying46 hi hz0 hz1 hz2 rfl (by decide) v a.length (cellsY a) hown ad b.length cap (cellsY b) (cellsY_len b) hcl (cellsY_one b) (by unfold maxLen; omega) (by omega) (Nat.zero_le _)
    refine ⟨v', w', hrun, ?_, hg, hat⟩
    rw [cellsY_append, List.length_append]; exact hown'
theorem NewY.app {W wx : World} {v : Value} {a : List Mk} (h : NewY W wx v a) (ao : Option Addr) (n cap : Nat) (b : List Mk) (hn : n = b.length) (hno : ao = none → cap = 0) (hL : LiesY wx ao b) (hlen : a.length + b.length ≤ 1073741825) :
    ∃ v' w', (Builtin.append_ #[46, 46] 46 #[v, .slice ao n cap]).run Tryz.prog wx = .ok v' w' ∧ NewY W w' v' (a ++ b) ∧ wx.grownBy w' v.ownBlock := by
  obtain ⟨v', w', hr, ho, hg, hb⟩ := run_appendY wx v a h.owns ao n cap b hn hno hL hlen
  refine ⟨v', w', hr, ⟨ho, ?_, fun k hk => ?_⟩, hg⟩
  · exact h.touch.then ((Touch.refl (fun i => v.ownBlock = some i) wx).grown hg (fun i e _ => e)) fun i hi e => absurd hi (Nat.not_lt.2 (h.fresh i e))
  · rcases hb with e | e
    · exact h.fresh k (e ▸ hk)
    · rw [hk] at e; have := h.touch.size; simp at e; omega
/-- An append of one, out of a new block. -/
theorem NewY.app1 {W wx : World} {v : Value} {a : List Mk} (h : NewY W wx v a) (r : Mk) (hlen : a.length ≤ 1073741824) :
    ∃ v' w', (Builtin.append_ #[46, 46] 46 #[v, .slice (some ⟨wx.heap.size, 0, none⟩) 1 1]).run Tryz.prog (wx.alloc (myO r)) = .ok v' w' ∧ NewY W w' v' (a ++ [r]) ∧ (wx.alloc (myO r)).grownBy w' v.ownBlock :=
  NewY.app (h.on ((Touch.refl _ wx).alloc _)) (some ⟨wx.heap.size, 0, none⟩) 1 1 [r] rfl (fun h => by cases h) (LiesY.new wx r) (by simp; omega)
theorem wpList_append_runY {w w' : World} {ops : Array Oper} {rest : List Oper} {o : Oper} {a : Act} {Q : Exit → Act → World → Prop} (hgd : o.guard = none) (s x : Operand)
    (ho : o.op = .call { callee := .builtin .append, args := #[s, x], argTypes := #[46, 46] }) (v y v' : Value) (hs : a.eval s = v) (hx : a.eval x = y)
    (hrun : (Builtin.append_ #[46, 46] o.type #[v, y]).run Tryz.prog w = .ok v' w') (h : wpList Tryz.prog ops Q rest (a.put o.dst v') w') : wpList Tryz.prog ops Q (o :: rest) a w := by
  refine wpList_plain hgd fun K' hK' => ?_
  unfold Oper.wp
  simp [execOp, ho, resolve, invoke, builtin, hs, hx, hrun, Result.andThen]
  exact hK' _ _ h
/-- A cell of it laid anew. -/
theorem OwnY.set {W w : World} {v : Value} {n : Nat} {xs : List Value} (h : OwnY W w v n xs) {g cap : Nat} (e : v = .slice (some ⟨g, 0, none⟩) n cap) (i : Nat) (hi : i < n * 5) (y : Value) (hy : y.oneCell' = true) : OwnY W (w.setCell ⟨g, i, none⟩ y) v n (xs.set i y) := by
  have hf : W.heap.size ≤ g := h.fresh g (by rw [e]; rfl)
  have h1 := h.owns.1
  rcases h.owns.2 with ⟨e', h0⟩ | ⟨g', cap', cur, e', hb, hg, q1, q2, q3, q4⟩
  · rw [h0] at hi; omega
  · rw [e] at e'
    simp only [Value.slice.injEq, Option.some.injEq, Addr.mk.injEq] at e'
    obtain ⟨⟨rfl, _, _⟩, _, rfl⟩ := e'
    refine ⟨⟨?_, .inr ⟨g, cap, cur.setIfInBounds i y, e, hb, by rw [heap_setCell_same _ _ _ _ hg], q1, q2, ?_, ?_⟩⟩, h.touch.setCell _ _ (fun hk => absurd hk (Nat.not_lt.2 hf)), h.fresh⟩
    · rw [List.length_set]; exact h1
    · simpa using q3
    · rw [Array.toList_setIfInBounds, ← q4, List.take_set]
theorem OwnY.free {W w : World} {v : Value} {n : Nat} {xs : List Value} (h : OwnY W w v n xs) {g cap : Nat} (e : v = .slice (some ⟨g, 0, none⟩) n cap) (hn : 0 < n) (i : Nat) : w.frozen? ⟨g, i, none⟩ = false := by
  rcases h.owns.2 with ⟨e', h0⟩ | ⟨g', cap', cur, e', hb, hg, q1, q2, q3, q4⟩
  · omega
  · rw [e] at e'
    simp only [Value.slice.injEq, Option.some.injEq, Addr.mk.injEq] at e'
    obtain ⟨⟨rfl, _, _⟩, _, rfl⟩ := e'
    exact free_of_block hg
theorem OwnY.shape {W w : World} {v : Value} {n : Nat} {xs : List Value} (h : OwnY W w v n xs) : ∃ ao cap, v = .slice ao n cap ∧ (0 < n → ∃ g, ao = some ⟨g, 0, none⟩) ∧ n ≤ cap ∧ cap ≤ 9223372036854775807 := by
  rcases h.owns.2 with ⟨e, h0⟩ | ⟨g, cap, cur, e, hb, hg, q1, q2, q3, q4⟩
  · exact ⟨none, 0, by rw [e, h0], fun h => by omega, by omega, by omega⟩
  · exact ⟨_, cap, e, fun _ => ⟨g, rfl⟩, q1, q2⟩
end Go.Proofs.YtijkekkjiboomaaGreatDoor
