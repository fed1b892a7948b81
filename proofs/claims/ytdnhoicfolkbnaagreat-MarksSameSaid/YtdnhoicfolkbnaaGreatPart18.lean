/- Loads and stores of structs of many cells, inside a fence (the twins of MidRow's laws at a plain region's list). -/
import Derived.Test.YtdnhoicfolkbnaaGreatPart17
import Derived.Deep.MidRow
import Derived.OwnWalkIn
import Derived.Test.YtdnhoicfolkbnaaGreatPart10
import Derived.Test.YtdnhoicfolkbnaaGreatPart8
import Derived.Lib.AppendZeros
import Derived.Deep.RegionHeld3
import Derived.Test.YtdnhoicfolkbnaaGreatPart7
import Derived.Maps.AppendAt
import Derived.Laws.OwnMore
import Derived.Shelf.GgSortFunc.RowK
namespace Go.Proofs.YtdnhoicfolkbnaaGreat
open Go.RowKit
set_option linter.unusedVariables false

section
variable {F : Fence} {n : Nat} {P : Program}
theorem wpIn_load_mid {op : Oper} {a : Act} {w : World} {K : Act → World → Prop} {Q : Exit → Act → World → Prop} (ty : TypeId) (x : Operand) (ho : op.op = .load ty x)
    (b o : Nat) (hx : a.eval x = .pointer (some ⟨b, o, none⟩)) (cs : List Value) (d : TypeDesc) (hc : w.rangeAt b o cs)
    (hu : P.underlying ty = some d) (hd : d.isRow = true) (hi : (P.info? ty).map (·.size) = some cs.length)
    (h : K (a.put op.dst (.agg cs.toArray)) w) : op.wpIn F n P a w K Q := by
  unfold Oper.wpIn
  refine ⟨by simp [Oper.about, ho], ?_⟩
  rw [Oper.semAt_plain F _ _ (by rw [ho]; intro c hc'; cases hc')]
  unfold execOp
  simp only [ho, hx, Instr.loadAt, Instr.sureAddr, Sem.run_bind, Sem.run_pure, Result.andThen_ok, run_loadVar_mid w b o ty cs d hc hu hd hi]
  exact h
theorem wpListIn_load_mid {ops : Array Oper} {rest : List Oper} {op : Oper} {a : Act} {w : World} {Q : Exit → Act → World → Prop} (hgd : op.guard = none) (ty : TypeId) (x : Operand) (ho : op.op = .load ty x)
    (b o : Nat) (hx : a.eval x = .pointer (some ⟨b, o, none⟩)) (cs : List Value) (d : TypeDesc) (hc : w.rangeAt b o cs)
    (hu : P.underlying ty = some d) (hd : d.isRow = true) (hi : (P.info? ty).map (·.size) = some cs.length)
    (h : wpListIn F n P ops Q rest (a.put op.dst (.agg cs.toArray)) w) : wpListIn F n P ops Q (op :: rest) a w :=
  wpListIn_plain hgd fun _ hK => wpIn_load_mid ty x ho b o hx cs d hc hu hd hi (hK _ _ h)
theorem wpIn_store_mid {op : Oper} {a : Act} {w : World} {K : Act → World → Prop} {Q : Exit → Act → World → Prop} (ty : TypeId) (x y : Operand) (ho : op.op = .store ty x y)
    (b o : Nat) (cells : Array Value) (hx : a.eval x = .pointer (some ⟨b, o, none⟩)) (hy : a.eval y = .agg cells)
    (ht : w.there b o cells.size) (hi : (P.info? ty).map (·.size) = some cells.size) (h1 : cells.all (·.oneCell') = true)
    (h : K (a.put op.dst undef) (w.setCells b o cells.toList)) : op.wpIn F n P a w K Q := by
  unfold Oper.wpIn
  refine ⟨by simp [Oper.about, ho], ?_⟩
  rw [Oper.semAt_plain F _ _ (by rw [ho]; intro c hc'; cases hc')]
  unfold execOp
  simp only [ho, hx, hy, Instr.storeAt, Instr.sureAddr, Sem.run_bind, Sem.run_pure, Result.andThen_ok, run_storeVar_mid w b o ty cells ht hi h1]
  exact h
theorem wpListIn_store_mid {ops : Array Oper} {rest : List Oper} {op : Oper} {a : Act} {w : World} {Q : Exit → Act → World → Prop} (hgd : op.guard = none) (ty : TypeId) (x y : Operand) (ho : op.op = .store ty x y)
    (b o : Nat) (cells : Array Value) (hx : a.eval x = .pointer (some ⟨b, o, none⟩)) (hy : a.eval y = .agg cells)
    (ht : w.there b o cells.size) (hi : (P.info? ty).map (·.size) = some cells.size) (h1 : cells.all (·.oneCell') = true)
    (h : wpListIn F n P ops Q rest (a.put op.dst undef) (w.setCells b o cells.toList)) : wpListIn F n P ops Q (op :: rest) a w :=
  wpListIn_plain hgd fun _ hK => wpIn_store_mid ty x y ho b o cells hx hy ht hi h1 (hK _ _ h)
end
end Go.Proofs.YtdnhoicfolkbnaaGreat

/- Package seq: copies of its slices. -/
namespace Go.Proofs.YtdnhoicfolkbnaaGreat
open Go.RowKit Go.Maps
set_option linter.unusedVariables false
set_option linter.unusedSimpArgs false
set_option maxRecDepth 100000

/-- A block of structs' cells. -/
def BlkAt (m ty : Nat) (w : World) (g cap n : Nat) (cs : List Value) : Prop := ∃ cur, w.heap[g]? = some (.cells cur ty (0, 0)) ∧ cur.size = cap * m ∧ n ≤ cap ∧ cap ≤ 9223372036854775807 ∧ cur.toList.take (n * m) = cs
theorem BlkAt.keep {m ty : Nat} {w w' : World} {g cap n : Nat} {cs : List Value} (h : BlkAt m ty w g cap n cs) (t : Touch (fun _ => False) w w') : BlkAt m ty w' g cap n cs := by
  obtain ⟨cur, h0, h1⟩ := h
  exact ⟨cur, heap_keep t h0, h1⟩
theorem BlkAt.lt {m ty : Nat} {w : World} {g cap n : Nat} {cs : List Value} (h : BlkAt m ty w g cap n cs) : g < w.heap.size := by
  obtain ⟨cur, h0, h1⟩ := h
  exact lt_of_heap h0
theorem wpList_append_any {w w' : World} {ops : Array Oper} {rest : List Oper} {o : Oper} {a : Act} {Q : Exit → Act → World → Prop} {t : Nat} (hgd : o.guard = none) (s x : Operand)
    (ho : o.op = .call { callee := .builtin .append, args := #[s, x], argTypes := #[t, t] }) (v y v' : Value) (hs : a.eval s = v) (hx : a.eval x = y)
    (hrun : (Builtin.append_ #[t, t] o.type #[v, y]).run Tryz.prog w = .ok v' w') (h : wpList Tryz.prog ops Q rest (a.put o.dst v') w') : wpList Tryz.prog ops Q (o :: rest) a w := by
  refine wpList_plain hgd fun K' hK' => ?_
  unfold Oper.wp
  simp [execOp, ho, resolve, invoke, builtin, hs, hx, hrun, Result.andThen]
  exact hK' _ _ h
theorem cellH_len (x : Th) : (cellH x).length = 5 := rfl
end Go.Proofs.YtdnhoicfolkbnaaGreat

/- Package seq: a row's copy. -/
namespace Go.Proofs.YtdnhoicfolkbnaaGreat
open Go.RowKit
set_option linter.unusedVariables false
set_option linter.unusedSimpArgs false
set_option maxRecDepth 100000

/-- A row without the cell that holds its slice. -/
def RowBk (w : World) (g cap n : Nat) (F : List Nat) (len : Nat → Int) : Prop :=
  ∃ L t, BlkAt 5 146 w g cap L.length (L.flatMap cellH) ∧ L.length = n ∧ RowOk (gt L) n t ∧ t.flat = F ∧ ∀ x, (gt L x).long = len x
theorem RowAt.bk {w : World} {b k g cap n : Nat} {F : List Nat} {len : Nat → Int} (h : RowAt w b k g cap n F len) : RowBk w g cap n F len := by
  obtain ⟨L, t, h1, h2⟩ := h
  exact ⟨L, t, h1.row, h2⟩
theorem RowBk.row {w : World} {b k g cap n : Nat} {F : List Nat} {len : Nat → Int} (h : RowBk w g cap n F len) (hc : w.cell? ⟨b, k, none⟩ = some (.slice (some ⟨g, 0, none⟩) n cap)) (hb : b ≠ g) : RowAt w b k g cap n F len := by
  obtain ⟨L, t, h1, h2, h3⟩ := h
  subst h2
  exact ⟨L, t, ⟨hc, hb, h1⟩, rfl, h3⟩
theorem RowBk.keep {w w' : World} {g cap n : Nat} {F : List Nat} {len : Nat → Int} (h : RowBk w g cap n F len) (t : Touch (fun _ => False) w w') : RowBk w' g cap n F len := by
  obtain ⟨L, tr, h1, h2⟩ := h
  exact ⟨L, tr, h1.keep t, h2⟩
end Go.Proofs.YtdnhoicfolkbnaaGreat

/- Package seq: Copy. -/
namespace Go.Proofs.YtdnhoicfolkbnaaGreat
open Go.RowKit
set_option linter.unusedVariables false
set_option linter.unusedSimpArgs false
set_option maxRecDepth 100000

/-- A sequence's block. -/
abbrev seqO (gr kr nr gp kp np go ko gi ki : Nat) : Obj := .cells #[.slice (some ⟨gr, 0, none⟩) nr kr, .slice (some ⟨gp, 0, none⟩) np kp, .slice (some ⟨go, 0, none⟩) np ko, .slice (some ⟨gi, 0, none⟩) np ki] 114
end Go.Proofs.YtdnhoicfolkbnaaGreat

/- Slices of units: how they lie, are cut, grow. -/
namespace Go.Proofs.YtdnhoicfolkbnaaGreat
open Go.RowKit Go.Maps
set_option linter.unusedVariables false
set_option linter.unusedSimpArgs false

abbrev uvO (r : Un) : Obj := .cells #[.int .u64 r.c, .int .u64 r.k, .int .u64 r.lc, .int .u64 r.lk, .int .u64 r.rc, .int .u64 r.rk] 59
def cellV (r : Un) : List Value := [.int .u64 r.c, .int .u64 r.k, .int .u64 r.lc, .int .u64 r.lk, .int .u64 r.rc, .int .u64 r.rk]
def cellsV (l : List Un) : List Value := l.flatMap cellV
theorem cellsV_cons (r : Un) (l : List Un) : cellsV (r :: l) = .int .u64 r.c :: .int .u64 r.k :: .int .u64 r.lc :: .int .u64 r.lk :: .int .u64 r.rc :: .int .u64 r.rk :: cellsV l := rfl
theorem cellsV_append (a b : List Un) : cellsV (a ++ b) = cellsV a ++ cellsV b := by simp [cellsV]
theorem cellsV_one (l : List Un) : ∀ u ∈ cellsV l, u.oneCell' = true := by
  intro u hu
  obtain ⟨f, _, hf⟩ := List.mem_flatMap.1 hu
  simp only [cellV, List.mem_cons, List.not_mem_nil, or_false] at hf
  rcases hf with rfl | rfl | rfl | rfl | rfl | rfl <;> rfl
theorem cellsV_len (l : List Un) : (cellsV l).length = l.length * 6 := by
  induction l with
  | nil => rfl
  | cons f r ih => rw [cellsV_cons]; simp only [List.length_cons, ih]; omega
theorem cellsV_get : ∀ (l : List Un) (j : Nat) (h : j < l.length), (cellsV l)[j * 6]? = some (.int .u64 l[j].c) ∧ (cellsV l)[j * 6 + 1]? = some (.int .u64 l[j].k) ∧ (cellsV l)[j * 6 + 2]? = some (.int .u64 l[j].lc) ∧ (cellsV l)[j * 6 + 3]? = some (.int .u64 l[j].lk) ∧ (cellsV l)[j * 6 + 4]? = some (.int .u64 l[j].rc) ∧ (cellsV l)[j * 6 + 5]? = some (.int .u64 l[j].rk)
  | f :: r, 0, _ => ⟨rfl, rfl, rfl, rfl, rfl, rfl⟩
  | f :: r, j + 1, h => by
    have ih := cellsV_get r j (by simpa using h)
    rw [cellsV_cons, show (j + 1) * 6 = j * 6 + 6 from by omega]
    exact ih
theorem cellsV_set : ∀ (l : List Un) (j : Nat) (h : j < l.length) (r : Un), ((((((cellsV l).set (j * 6) (.int .u64 r.c)).set (j * 6 + 1) (.int .u64 r.k)).set (j * 6 + 2) (.int .u64 r.lc)).set (j * 6 + 3) (.int .u64 r.lk)).set (j * 6 + 4) (.int .u64 r.rc)).set (j * 6 + 5) (.int .u64 r.rk) = cellsV (l.set j r)
  | f :: l, 0, _, r => rfl
  | f :: l, j + 1, h, r => by
    have ih := cellsV_set l j (by simpa using h) r
    rw [cellsV_cons, List.set_cons_succ, cellsV_cons, ← ih, show (j + 1) * 6 = j * 6 + 6 from by omega]
    rfl
theorem infoV : (Tryz.prog.info? 59).map (fun i => (i.zero, i.size, i.bytes)) = some (some (.agg #[.int .u64 0, .int .u64 0, .int .u64 0, .int .u64 0, .int .u64 0, .int .u64 0]), 6, 48) := by kernel_rfl
/-- They lie where a slice of that address begins. -/
def LiesV (w : World) (ao : Option Addr) (l : List Un) : Prop := l = [] ∨ ∃ b o, ao = some ⟨b, o, none⟩ ∧ ∀ j u, (cellsV l)[j]? = some u → w.cell? ⟨b, o + j, none⟩ = some u
theorem LiesV.touch {W W' : World} {ao : Option Addr} {b : List Un} (h : LiesV W ao b) (t : Touch (fun _ => False) W W') : LiesV W' ao b := by
  rcases h with h | ⟨b, o, e, h⟩
  · exact .inl h
  · refine .inr ⟨b, o, e, fun j u hu => ?_⟩
    have := h j u hu
    rw [World.cell?_of_block (t.block _ (World.block_lt_of_cell? _ _ this) id)]; exact this
theorem LiesV.new (W : World) (f : Un) : LiesV (W.alloc (uvO f)) (some ⟨W.heap.size, 0, none⟩) [f] := by
  refine .inr ⟨_, _, rfl, fun j u hu => ?_⟩
  rw [Nat.zero_add, cell_of_block (heap_alloc_new W (uvO f))]
  have e : cellsV [f] = [.int .u64 f.c, .int .u64 f.k, .int .u64 f.lc, .int .u64 f.lk, .int .u64 f.rc, .int .u64 f.rk] := rfl
  rw [e] at hu
  simpa using hu
theorem addr_addV (g o j : Nat) : (⟨g, o, none⟩ : Addr).add j = ⟨g, o + j, none⟩ := by
  unfold Addr.add
  split <;> simp_all
/-- v is a slice of l. -/
def SlV (w : World) (v : Value) (l : List Un) : Prop := ∃ ao cap, v = .slice ao l.length cap ∧ (ao = none → cap = 0) ∧ l.length ≤ cap ∧ cap ≤ 9223372036854775807 ∧ LiesV w ao l
theorem SlV.touch {W W' : World} {v : Value} {l : List Un} (h : SlV W v l) (t : Touch (fun _ => False) W W') : SlV W' v l := by
  obtain ⟨ao, cap, e, h1, h2, h3, h4⟩ := h
  exact ⟨ao, cap, e, h1, h2, h3, h4.touch t⟩
theorem SlV.nil (w : World) : SlV w (.slice none 0 0) [] := ⟨none, 0, rfl, fun _ => rfl, Nat.le_refl _, by omega, .inl rfl⟩
/-- Its cells, where there are any. -/
theorem SlV.row {w : World} {v : Value} {l : List Un} (h : SlV w v l) (hne : l ≠ []) : ∃ b o cap, v = .slice (some ⟨b, o, none⟩) l.length cap ∧ l.length ≤ cap ∧ cap ≤ 9223372036854775807 ∧ b < w.heap.size ∧ ∀ j (h : j < l.length), w.cell? ⟨b, o + j * 6, none⟩ = some (.int .u64 l[j].c) ∧ w.cell? ⟨b, o + j * 6 + 1, none⟩ = some (.int .u64 l[j].k) ∧ w.cell? ⟨b, o + j * 6 + 2, none⟩ = some (.int .u64 l[j].lc) ∧ w.cell? ⟨b, o + j * 6 + 3, none⟩ = some (.int .u64 l[j].lk) ∧ w.cell? ⟨b, o + j * 6 + 4, none⟩ = some (.int .u64 l[j].rc) ∧ w.cell? ⟨b, o + j * 6 + 5, none⟩ = some (.int .u64 l[j].rk) := by
  obtain ⟨ao, cap, e, h1, h2, h3, h4⟩ := h
  rcases h4 with h4 | ⟨b, o, rfl, hc⟩
  · exact absurd h4 hne
  · have hx : ∀ j (h : j < l.length), w.cell? ⟨b, o + j * 6, none⟩ = some (.int .u64 l[j].c) ∧ w.cell? ⟨b, o + j * 6 + 1, none⟩ = some (.int .u64 l[j].k) ∧ w.cell? ⟨b, o + j * 6 + 2, none⟩ = some (.int .u64 l[j].lc) ∧ w.cell? ⟨b, o + j * 6 + 3, none⟩ = some (.int .u64 l[j].lk) ∧ w.cell? ⟨b, o + j * 6 + 4, none⟩ = some (.int .u64 l[j].rc) ∧ w.cell? ⟨b, o + j * 6 + 5, none⟩ = some (.int .u64 l[j].rk) := fun j hj => by
      obtain ⟨a0, a1, a2, a3, a4, a5⟩ := cellsV_get l j hj
      exact ⟨hc _ _ a0, hc _ _ a1, hc _ _ a2, hc _ _ a3, hc _ _ a4, hc _ _ a5⟩
    refine ⟨b, o, cap, e, h2, h3, ?_, hx⟩
    have hp : 0 < l.length := List.length_pos_iff.2 hne
    exact World.block_lt_of_cell? _ _ (hx 0 hp).1
theorem SlV.shape {w : World} {v : Value} {l : List Un} (h : SlV w v l) : ∃ ao cap, v = .slice ao l.length cap ∧ (ao = none → cap = 0) ∧ l.length ≤ cap ∧ cap ≤ 9223372036854775807 := by
  obtain ⟨ao, cap, e, h1, h2, h3, h4⟩ := h
  exact ⟨ao, cap, e, h1, h2, h3⟩
theorem SlV.from {w : World} {ao : Option Addr} {n cap : Nat} {l : List Un} (h : SlV w (.slice ao n cap) l) (c : Nat) (hc : c ≤ l.length) : SlV w (.slice (if cap = c then ao else ao.map (·.add (c * 6))) (n - c) (cap - c)) (l.drop c) := by
  obtain ⟨ao', cap', e, h1, h2, h3, h4⟩ := h
  simp only [Value.slice.injEq] at e
  obtain ⟨rfl, rfl, rfl⟩ := e
  refine ⟨_, _, by rw [List.length_drop], ?_, by rw [List.length_drop]; omega, by omega, ?_⟩
  · intro e
    split at e
    · have := h1 e; omega
    · rw [Option.map_eq_none_iff] at e
      have := h1 e; omega
  · by_cases hd : l.drop c = []
    · exact .inl hd
    · have hlt : c < l.length := by
        rcases Nat.lt_or_ge c l.length with x | x
        · exact x
        · exact absurd (List.drop_of_length_le x) hd
      rcases h4 with h4 | ⟨b, o, rfl, hx⟩
      · subst h4; simp at hlt
      · rw [if_neg (by omega), Option.map_some, addr_addV]
        refine .inr ⟨b, o + c * 6, rfl, fun j u hu => ?_⟩
        have e2 : cellsV l = cellsV (l.take c) ++ cellsV (l.drop c) := by rw [← cellsV_append, List.take_append_drop]
        have hlen : (cellsV (l.take c)).length = c * 6 := by rw [cellsV_len, List.length_take]; omega
        have : (cellsV l)[c * 6 + j]? = some u := by
          rw [e2, List.getElem?_append_right (by omega), hlen, Nat.add_sub_cancel_left]; exact hu
        have := hx _ u this
        rw [Nat.add_assoc]; exact this
theorem SlV.upto {w : World} {ao : Option Addr} {n cap : Nat} {l : List Un} (h : SlV w (.slice ao n cap) l) (c : Nat) (hc : c ≤ l.length) : SlV w (.slice ao c cap) (l.take c) := by
  obtain ⟨ao', cap', e, h1, h2, h3, h4⟩ := h
  simp only [Value.slice.injEq] at e
  obtain ⟨rfl, rfl, rfl⟩ := e
  have hlen : (l.take c).length = c := by rw [List.length_take]; omega
  refine ⟨_, _, by rw [hlen], h1, by omega, h3, ?_⟩
  rcases h4 with h4 | ⟨b, o, rfl, hx⟩
  · exact .inl (by rw [h4]; simp)
  · refine .inr ⟨b, o, rfl, fun j u hu => hx j u ?_⟩
    have e2 : cellsV l = cellsV (l.take c) ++ cellsV (l.drop c) := by rw [← cellsV_append, List.take_append_drop]
    rw [e2, List.getElem?_append_left (by rw [List.getElem?_eq_some_iff] at hu; exact hu.1)]; exact hu
theorem ownV_touch {S : Nat → Prop} {w w' : World} {v : Value} {n : Nat} {xs : List Value} (h : w.ownsRow 0 59 6 v n xs) (t : Touch S w w') (hs : ∀ k, v.ownBlock = some k → ¬ S k) : w'.ownsRow 0 59 6 v n xs := by
  refine ⟨h.1, ?_⟩
  rcases h.2 with h | ⟨g, cap, cur, rfl, hb, hg, r⟩
  · exact .inl h
  · exact .inr ⟨g, cap, cur, rfl, hb, (t.block g (lt_of_heap hg) (hs g rfl)).trans hg, r⟩
/-- A slice that was made since W, of the cells xs. -/
structure OwnV (W w : World) (v : Value) (n : Nat) (xs : List Value) : Prop where
  owns : w.ownsRow 0 59 6 v n xs
  touch : Touch (fun _ => False) W w
  fresh : ∀ k, v.ownBlock = some k → W.heap.size ≤ k
abbrev NewV (W w : World) (v : Value) (l : List Un) : Prop := OwnV W w v l.length (cellsV l)
theorem NewV.nil (W w : World) (t : Touch (fun _ => False) W w) : NewV W w (.slice none 0 0) [] := ⟨World.ownsRow_nil _ _ _ _, t, fun k hk => by simp [Value.ownBlock] at hk⟩
theorem OwnV.on {W w w' : World} {v : Value} {n : Nat} {xs : List Value} (h : OwnV W w v n xs) (t : Touch (fun _ => False) w w') : OwnV W w' v n xs :=
  ⟨ownV_touch h.owns t (fun _ _ => id), h.touch.trans t, h.fresh⟩
/-- It was made since any world ahead, too. -/
theorem OwnV.since {W0 W w : World} {v : Value} {n : Nat} {xs : List Value} (h : OwnV W w v n xs) (t : Touch (fun _ => False) W0 W) : OwnV W0 w v n xs :=
  ⟨h.owns, t.trans h.touch, fun k hk => Nat.le_trans t.size (h.fresh k hk)⟩
theorem NewV.sl {W w : World} {v : Value} {l : List Un} (h : NewV W w v l) : SlV w v l := by
  rcases h.owns.2 with ⟨e, h0⟩ | ⟨g, cap, cur, e, hb, hg, q1, q2, q3, q4⟩
  · have : l = [] := List.length_eq_zero_iff.1 (by omega)
    subst this
    rw [e]; exact SlV.nil w
  · refine ⟨_, cap, e, (fun h => by cases h), q1, q2, .inr ⟨g, 0, rfl, fun j u hu => ?_⟩⟩
    rw [← q4, List.getElem?_take] at hu
    split at hu
    · rw [cell_of_block hg, Nat.zero_add, ← Array.getElem?_toList]; exact hu
    · cases hu
/-- A cell of it laid anew. -/
theorem OwnV.set {W w : World} {v : Value} {n : Nat} {xs : List Value} (h : OwnV W w v n xs) {g cap : Nat} (e : v = .slice (some ⟨g, 0, none⟩) n cap) (i : Nat) (hi : i < n * 6) (y : Value) (hy : y.oneCell' = true) : OwnV W (w.setCell ⟨g, i, none⟩ y) v n (xs.set i y) := by
  have hf : W.heap.size ≤ g := h.fresh g (by rw [e]; rfl)
  have h1 := h.owns.1
  rcases h.owns.2 with ⟨e', h0⟩ | ⟨g', cap', cur, e', hb, hg, q1, q2, q3, q4⟩
  · rw [h0] at hi; omega
  · rw [e] at e'
    simp only [Value.slice.injEq, Option.some.injEq, Addr.mk.injEq] at e'
    obtain ⟨⟨rfl, _, _⟩, _, rfl⟩ := e'
    refine ⟨⟨?_, .inr ⟨g, cap, cur.setIfInBounds i y, e, hb, by rw [heap_setCell_same _ _ _ _ hg], q1, q2, ?_, ?_⟩⟩, h.touch.setCell _ _ (fun hk => absurd hk (Nat.not_lt.2 hf)), h.fresh⟩
    · rw [List.length_set]; exact h1
    · simpa using q3
    · rw [Array.toList_setIfInBounds, ← q4, List.take_set]
theorem OwnV.free {W w : World} {v : Value} {n : Nat} {xs : List Value} (h : OwnV W w v n xs) {g cap : Nat} (e : v = .slice (some ⟨g, 0, none⟩) n cap) (hn : 0 < n) (i : Nat) : w.frozen? ⟨g, i, none⟩ = false := by
  rcases h.owns.2 with ⟨e', h0⟩ | ⟨g', cap', cur, e', hb, hg, q1, q2, q3, q4⟩
  · omega
  · rw [e] at e'
    simp only [Value.slice.injEq, Option.some.injEq, Addr.mk.injEq] at e'
    obtain ⟨⟨rfl, _, _⟩, _, rfl⟩ := e'
    exact free_of_block hg
theorem OwnV.shape {W w : World} {v : Value} {n : Nat} {xs : List Value} (h : OwnV W w v n xs) : ∃ ao cap, v = .slice ao n cap ∧ (0 < n → ∃ g, ao = some ⟨g, 0, none⟩) ∧ n ≤ cap ∧ cap ≤ 9223372036854775807 := by
  rcases h.owns.2 with ⟨e, h0⟩ | ⟨g, cap, cur, e, hb, hg, q1, q2, q3, q4⟩
  · exact ⟨none, 0, by rw [e, h0], fun h => by omega, by omega, by omega⟩
  · exact ⟨_, cap, e, fun _ => ⟨g, rfl⟩, q1, q2⟩
end Go.Proofs.YtdnhoicfolkbnaaGreat
