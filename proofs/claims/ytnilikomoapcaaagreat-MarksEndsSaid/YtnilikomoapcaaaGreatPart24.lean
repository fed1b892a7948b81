/- Slices of spans: how they lie, are cut, grow. -/
import Derived.Test.YtnilikomoapcaaaGreatPart23
import Derived.Test.YtnilikomoapcaaaGreatPart8
import Derived.Maps.AppendAt
import Derived.Laws.OwnMore
import Derived.Shelf.GgSortFunc.RowK
import Derived.Test.YtnilikomoapcaaaGreatPart20
namespace Go.Proofs.YtnilikomoapcaaaGreat
open Go.RowKit Go.Maps
set_option linter.unusedVariables false
set_option linter.unusedSimpArgs false

def cellX (r : Spn) : List Value := [.int .i64 r.f, .int .i64 r.t, .int .u64 r.o.c, .int .u64 r.o.k, .int .i64 r.o.kind, .int .u64 r.o.st, .int .u64 r.o.lc, .int .u64 r.o.lk, .int .u64 r.o.rc, .int .u64 r.o.rk, .string r.o.tx, .int .i64 r.o.vk, .int .i64 r.o.vn, .float .f64 r.o.vf, .string r.o.vs, .string r.o.ky, .int .u64 r.o.pc, .int .u64 r.o.pk, .int .u64 r.o.fc, .int .u64 r.o.fk, .bool r.o.fa, .int .u64 r.o.tc, .int .u64 r.o.tk, .bool r.o.ta]
def cellsX (l : List Spn) : List Value := l.flatMap cellX
theorem cellsX_cons (r : Spn) (l : List Spn) : cellsX (r :: l) = .int .i64 r.f :: .int .i64 r.t :: .int .u64 r.o.c :: .int .u64 r.o.k :: .int .i64 r.o.kind :: .int .u64 r.o.st :: .int .u64 r.o.lc :: .int .u64 r.o.lk :: .int .u64 r.o.rc :: .int .u64 r.o.rk :: .string r.o.tx :: .int .i64 r.o.vk :: .int .i64 r.o.vn :: .float .f64 r.o.vf :: .string r.o.vs :: .string r.o.ky :: .int .u64 r.o.pc :: .int .u64 r.o.pk :: .int .u64 r.o.fc :: .int .u64 r.o.fk :: .bool r.o.fa :: .int .u64 r.o.tc :: .int .u64 r.o.tk :: .bool r.o.ta :: cellsX l := rfl
theorem cellsX_append (a b : List Spn) : cellsX (a ++ b) = cellsX a ++ cellsX b := by simp [cellsX]
theorem cellsX_one (l : List Spn) : ∀ u ∈ cellsX l, u.oneCell' = true := by
  intro u hu
  obtain ⟨f, _, hf⟩ := List.mem_flatMap.1 hu
  simp only [cellX, List.mem_cons, List.not_mem_nil, or_false] at hf
  rcases hf with rfl | rfl | rfl | rfl | rfl | rfl | rfl | rfl | rfl | rfl | rfl | rfl | rfl | rfl | rfl | rfl | rfl | rfl | rfl | rfl | rfl | rfl | rfl | rfl <;> rfl
theorem cellsX_len (l : List Spn) : (cellsX l).length = l.length * 24 := by
  induction l with
  | nil => rfl
  | cons f r ih => rw [cellsX_cons]; simp only [List.length_cons, ih]; omega
theorem cellsX_get : ∀ (l : List Spn) (j : Nat) (h : j < l.length), (cellsX l)[j * 24]? = some (.int .i64 l[j].f) ∧ (cellsX l)[j * 24 + 1]? = some (.int .i64 l[j].t) ∧ (cellsX l)[j * 24 + 2]? = some (.int .u64 l[j].o.c) ∧ (cellsX l)[j * 24 + 3]? = some (.int .u64 l[j].o.k) ∧ (cellsX l)[j * 24 + 4]? = some (.int .i64 l[j].o.kind) ∧ (cellsX l)[j * 24 + 5]? = some (.int .u64 l[j].o.st) ∧ (cellsX l)[j * 24 + 6]? = some (.int .u64 l[j].o.lc) ∧ (cellsX l)[j * 24 + 7]? = some (.int .u64 l[j].o.lk) ∧ (cellsX l)[j * 24 + 8]? = some (.int .u64 l[j].o.rc) ∧ (cellsX l)[j * 24 + 9]? = some (.int .u64 l[j].o.rk) ∧ (cellsX l)[j * 24 + 10]? = some (.string l[j].o.tx) ∧ (cellsX l)[j * 24 + 11]? = some (.int .i64 l[j].o.vk) ∧ (cellsX l)[j * 24 + 12]? = some (.int .i64 l[j].o.vn) ∧ (cellsX l)[j * 24 + 13]? = some (.float .f64 l[j].o.vf) ∧ (cellsX l)[j * 24 + 14]? = some (.string l[j].o.vs) ∧ (cellsX l)[j * 24 + 15]? = some (.string l[j].o.ky) ∧ (cellsX l)[j * 24 + 16]? = some (.int .u64 l[j].o.pc) ∧ (cellsX l)[j * 24 + 17]? = some (.int .u64 l[j].o.pk) ∧ (cellsX l)[j * 24 + 18]? = some (.int .u64 l[j].o.fc) ∧ (cellsX l)[j * 24 + 19]? = some (.int .u64 l[j].o.fk) ∧ (cellsX l)[j * 24 + 20]? = some (.bool l[j].o.fa) ∧ (cellsX l)[j * 24 + 21]? = some (.int .u64 l[j].o.tc) ∧ (cellsX l)[j * 24 + 22]? = some (.int .u64 l[j].o.tk) ∧ (cellsX l)[j * 24 + 23]? = some (.bool l[j].o.ta)
  | f :: r, 0, _ => ⟨rfl, rfl, rfl, rfl, rfl, rfl, rfl, rfl, rfl, rfl, rfl, rfl, rfl, rfl, rfl, rfl, rfl, rfl, rfl, rfl, rfl, rfl, rfl, rfl⟩
  | f :: r, j + 1, h => by
    have ih := cellsX_get r j (by simpa using h)
    rw [cellsX_cons, show (j + 1) * 24 = j * 24 + 24 from by omega]
    exact ih
theorem infoX : (Tryz.prog.info? 88).map (fun i => (i.zero, i.size, i.bytes)) = some (some (.agg #[.int .i64 0, .int .i64 0, .int .u64 0, .int .u64 0, .int .i64 0, .int .u64 0, .int .u64 0, .int .u64 0, .int .u64 0, .int .u64 0, .string ⟨#[]⟩, .int .i64 0, .int .i64 0, .float .f64 0, .string ⟨#[]⟩, .string ⟨#[]⟩, .int .u64 0, .int .u64 0, .int .u64 0, .int .u64 0, .bool false, .int .u64 0, .int .u64 0, .bool false]), 24, 216) := by kernel_rfl
/-- They lie where a slice of that address begins. -/
def LiesX (w : World) (ao : Option Addr) (l : List Spn) : Prop := l = [] ∨ ∃ b o, ao = some ⟨b, o, none⟩ ∧ ∀ j u, (cellsX l)[j]? = some u → w.cell? ⟨b, o + j, none⟩ = some u
theorem LiesX.touch {W W' : World} {ao : Option Addr} {b : List Spn} (h : LiesX W ao b) (t : Touch (fun _ => False) W W') : LiesX W' ao b := by
  rcases h with h | ⟨b, o, e, h⟩
  · exact .inl h
  · refine .inr ⟨b, o, e, fun j u hu => ?_⟩
    have := h j u hu
    rw [World.cell?_of_block (t.block _ (World.block_lt_of_cell? _ _ this) id)]; exact this
theorem LiesX.new (W : World) (f : Spn) : LiesX (W.alloc (spnO f)) (some ⟨W.heap.size, 0, none⟩) [f] := by
  refine .inr ⟨_, _, rfl, fun j u hu => ?_⟩
  rw [Nat.zero_add, cell_of_block (heap_alloc_new W (spnO f))]
  have e : cellsX [f] = [.int .i64 f.f, .int .i64 f.t, .int .u64 f.o.c, .int .u64 f.o.k, .int .i64 f.o.kind, .int .u64 f.o.st, .int .u64 f.o.lc, .int .u64 f.o.lk, .int .u64 f.o.rc, .int .u64 f.o.rk, .string f.o.tx, .int .i64 f.o.vk, .int .i64 f.o.vn, .float .f64 f.o.vf, .string f.o.vs, .string f.o.ky, .int .u64 f.o.pc, .int .u64 f.o.pk, .int .u64 f.o.fc, .int .u64 f.o.fk, .bool f.o.fa, .int .u64 f.o.tc, .int .u64 f.o.tk, .bool f.o.ta] := rfl
  rw [e] at hu
  simpa using hu
theorem addr_addX (g o j : Nat) : (⟨g, o, none⟩ : Addr).add j = ⟨g, o + j, none⟩ := by
  unfold Addr.add
  split <;> simp_all
/-- v is a slice of l. -/
def SlX (w : World) (v : Value) (l : List Spn) : Prop := ∃ ao cap, v = .slice ao l.length cap ∧ (ao = none → cap = 0) ∧ l.length ≤ cap ∧ cap ≤ 9223372036854775807 ∧ LiesX w ao l
theorem SlX.touch {W W' : World} {v : Value} {l : List Spn} (h : SlX W v l) (t : Touch (fun _ => False) W W') : SlX W' v l := by
  obtain ⟨ao, cap, e, h1, h2, h3, h4⟩ := h
  exact ⟨ao, cap, e, h1, h2, h3, h4.touch t⟩
theorem SlX.nil (w : World) : SlX w (.slice none 0 0) [] := ⟨none, 0, rfl, fun _ => rfl, Nat.le_refl _, by omega, .inl rfl⟩
/-- Its cells, where there are any. -/
theorem SlX.row {w : World} {v : Value} {l : List Spn} (h : SlX w v l) (hne : l ≠ []) : ∃ b o cap, v = .slice (some ⟨b, o, none⟩) l.length cap ∧ l.length ≤ cap ∧ cap ≤ 9223372036854775807 ∧ b < w.heap.size ∧ ∀ j (h : j < l.length), w.cell? ⟨b, o + j * 24, none⟩ = some (.int .i64 l[j].f) ∧ w.cell? ⟨b, o + j * 24 + 1, none⟩ = some (.int .i64 l[j].t) ∧ w.cell? ⟨b, o + j * 24 + 2, none⟩ = some (.int .u64 l[j].o.c) ∧ w.cell? ⟨b, o + j * 24 + 3, none⟩ = some (.int .u64 l[j].o.k) ∧ w.cell? ⟨b, o + j * 24 + 4, none⟩ = some (.int .i64 l[j].o.kind) ∧ w.cell? ⟨b, o + j * 24 + 5, none⟩ = some (.int .u64 l[j].o.st) ∧ w.cell? ⟨b, o + j * 24 + 6, none⟩ = some (.int .u64 l[j].o.lc) ∧ w.cell? ⟨b, o + j * 24 + 7, none⟩ = some (.int .u64 l[j].o.lk) ∧ w.cell? ⟨b, o + j * 24 + 8, none⟩ = some (.int .u64 l[j].o.rc) ∧ w.cell? ⟨b, o + j * 24 + 9, none⟩ = some (.int .u64 l[j].o.rk) ∧ w.cell? ⟨b, o + j * 24 + 10, none⟩ = some (.string l[j].o.tx) ∧ w.cell? ⟨b, o + j * 24 + 11, none⟩ = some (.int .i64 l[j].o.vk) ∧ w.cell? ⟨b, o + j * 24 + 12, none⟩ = some (.int .i64 l[j].o.vn) ∧ w.cell? ⟨b, o + j * 24 + 13, none⟩ = some (.float .f64 l[j].o.vf) ∧ w.cell? ⟨b, o + j * 24 + 14, none⟩ = some (.string l[j].o.vs) ∧ w.cell? ⟨b, o + j * 24 + 15, none⟩ = some (.string l[j].o.ky) ∧ w.cell? ⟨b, o + j * 24 + 16, none⟩ = some (.int .u64 l[j].o.pc) ∧ w.cell? ⟨b, o + j * 24 + 17, none⟩ = some (.int .u64 l[j].o.pk) ∧ w.cell? ⟨b, o + j * 24 + 18, none⟩ = some (.int .u64 l[j].o.fc) ∧ w.cell? ⟨b, o + j * 24 + 19, none⟩ = some (.int .u64 l[j].o.fk) ∧ w.cell? ⟨b, o + j * 24 + 20, none⟩ = some (.bool l[j].o.fa) ∧ w.cell? ⟨b, o + j * 24 + 21, none⟩ = some (.int .u64 l[j].o.tc) ∧ w.cell? ⟨b, o + j * 24 + 22, none⟩ = some (.int .u64 l[j].o.tk) ∧ w.cell? ⟨b, o + j * 24 + 23, none⟩ = some (.bool l[j].o.ta) := by
  obtain ⟨ao, cap, e, h1, h2, h3, h4⟩ := h
  rcases h4 with h4 | ⟨b, o, rfl, hc⟩
  · exact absurd h4 hne
  · have hx : ∀ j (h : j < l.length), w.cell? ⟨b, o + j * 24, none⟩ = some (.int .i64 l[j].f) ∧ w.cell? ⟨b, o + j * 24 + 1, none⟩ = some (.int .i64 l[j].t) ∧ w.cell? ⟨b, o + j * 24 + 2, none⟩ = some (.int .u64 l[j].o.c) ∧ w.cell? ⟨b, o + j * 24 + 3, none⟩ = some (.int .u64 l[j].o.k) ∧ w.cell? ⟨b, o + j * 24 + 4, none⟩ = some (.int .i64 l[j].o.kind) ∧ w.cell? ⟨b, o + j * 24 + 5, none⟩ = some (.int .u64 l[j].o.st) ∧ w.cell? ⟨b, o + j * 24 + 6, none⟩ = some (.int .u64 l[j].o.lc) ∧ w.cell? ⟨b, o + j * 24 + 7, none⟩ = some (.int .u64 l[j].o.lk) ∧ w.cell? ⟨b, o + j * 24 + 8, none⟩ = some (.int .u64 l[j].o.rc) ∧ w.cell? ⟨b, o + j * 24 + 9, none⟩ = some (.int .u64 l[j].o.rk) ∧ w.cell? ⟨b, o + j * 24 + 10, none⟩ = some (.string l[j].o.tx) ∧ w.cell? ⟨b, o + j * 24 + 11, none⟩ = some (.int .i64 l[j].o.vk) ∧ w.cell? ⟨b, o + j * 24 + 12, none⟩ = some (.int .i64 l[j].o.vn) ∧ w.cell? ⟨b, o + j * 24 + 13, none⟩ = some (.float .f64 l[j].o.vf) ∧ w.cell? ⟨b, o + j * 24 + 14, none⟩ = some (.string l[j].o.vs) ∧ w.cell? ⟨b, o + j * 24 + 15, none⟩ = some (.string l[j].o.ky) ∧ w.cell? ⟨b, o + j * 24 + 16, none⟩ = some (.int .u64 l[j].o.pc) ∧ w.cell? ⟨b, o + j * 24 + 17, none⟩ = some (.int .u64 l[j].o.pk) ∧ w.cell? ⟨b, o + j * 24 + 18, none⟩ = some (.int .u64 l[j].o.fc) ∧ w.cell? ⟨b, o + j * 24 + 19, none⟩ = some (.int .u64 l[j].o.fk) ∧ w.cell? ⟨b, o + j * 24 + 20, none⟩ = some (.bool l[j].o.fa) ∧ w.cell? ⟨b, o + j * 24 + 21, none⟩ = some (.int .u64 l[j].o.tc) ∧ w.cell? ⟨b, o + j * 24 + 22, none⟩ = some (.int .u64 l[j].o.tk) ∧ w.cell? ⟨b, o + j * 24 + 23, none⟩ = some (.bool l[j].o.ta) := fun j hj => by
      obtain ⟨a0, a1, a2, a3, a4, a5, a6, a7, a8, a9, a10, a11, a12, a13, a14, a15, a16, a17, a18, a19, a20, a21, a22, a23⟩ := cellsX_get l j hj
      exact ⟨hc _ _ a0, hc _ _ a1, hc _ _ a2, hc _ _ a3, hc _ _ a4, hc _ _ a5, hc _ _ a6, hc _ _ a7, hc _ _ a8, hc _ _ a9, hc _ _ a10, hc _ _ a11, hc _ _ a12, hc _ _ a13, hc _ _ a14, hc _ _ a15, hc _ _ a16, hc _ _ a17, hc _ _ a18, hc _ _ a19, hc _ _ a20, hc _ _ a21, hc _ _ a22, hc _ _ a23⟩
    refine ⟨b, o, cap, e, h2, h3, ?_, hx⟩
    have hp : 0 < l.length := List.length_pos_iff.2 hne
    exact World.block_lt_of_cell? _ _ (hx 0 hp).1
theorem SlX.shape {w : World} {v : Value} {l : List Spn} (h : SlX w v l) : ∃ ao cap, v = .slice ao l.length cap ∧ (ao = none → cap = 0) ∧ l.length ≤ cap ∧ cap ≤ 9223372036854775807 := by
  obtain ⟨ao, cap, e, h1, h2, h3, h4⟩ := h
  exact ⟨ao, cap, e, h1, h2, h3⟩
theorem SlX.from {w : World} {ao : Option Addr} {n cap : Nat} {l : List Spn} (h : SlX w (.slice ao n cap) l) (c : Nat) (hc : c ≤ l.length) : SlX w (.slice (if cap = c then ao else ao.map (·.add (c * 24))) (n - c) (cap - c)) (l.drop c) := by
  obtain ⟨ao', cap', e, h1, h2, h3, h4⟩ := h
  simp only [Value.slice.injEq] at e
  obtain ⟨rfl, rfl, rfl⟩ := e
  refine ⟨_, _, by rw [List.length_drop], ?_, by rw [List.length_drop]; omega, by omega, ?_⟩
  · intro e
    split at e
    · have := h1 e; omega
    · rw [Option.map_eq_none_iff] at e
      have := h1 e; omega
  · by_cases hd : l.drop c = []
    · exact .inl hd
    · have hlt : c < l.length := by
        rcases Nat.lt_or_ge c l.length with x | x
        · exact x
        · exact absurd (List.drop_of_length_le x) hd
      rcases h4 with h4 | ⟨b, o, rfl, hx⟩
      · subst h4; simp at hlt
      · rw [if_neg (by omega), Option.map_some, addr_addX]
        refine .inr ⟨b, o + c * 24, rfl, fun j u hu => ?_⟩
        have e2 : cellsX l = cellsX (l.take c) ++ cellsX (l.drop c) := by rw [← cellsX_append, List.take_append_drop]
        have hlen : (cellsX (l.take c)).length = c * 24 := by rw [cellsX_len, List.length_take]; omega
        have : (cellsX l)[c * 24 + j]? = some u := by
          rw [e2, List.getElem?_append_right (by omega), hlen, Nat.add_sub_cancel_left]; exact hu
        have := hx _ u this
        rw [Nat.add_assoc]; exact this
theorem SlX.upto {w : World} {ao : Option Addr} {n cap : Nat} {l : List Spn} (h : SlX w (.slice ao n cap) l) (c : Nat) (hc : c ≤ l.length) : SlX w (.slice ao c cap) (l.take c) := by
  obtain ⟨ao', cap', e, h1, h2, h3, h4⟩ := h
  simp only [Value.slice.injEq] at e
  obtain ⟨rfl, rfl, rfl⟩ := e
  have hlen : (l.take c).length = c := by rw [List.length_take]; omega
  refine ⟨_, _, by rw [hlen], h1, by omega, h3, ?_⟩
  rcases h4 with h4 | ⟨b, o, rfl, hx⟩
  · exact .inl (by rw [h4]; simp)
  · refine .inr ⟨b, o, rfl, fun j u hu => hx j u ?_⟩
    have e2 : cellsX l = cellsX (l.take c) ++ cellsX (l.drop c) := by rw [← cellsX_append, List.take_append_drop]
    rw [e2, List.getElem?_append_left (by rw [List.getElem?_eq_some_iff] at hu; exact hu.1)]; exact hu
theorem sliceX_from (vo : Option Addr) (n cap c : Nat) (h : c ≤ n) (W : World) : (Instr.slice 89 (.slice vo n cap) (some (.int .i64 (c : Int))) none none).run Tryz.prog W = .ok (.slice (if cap = c then vo else vo.map (·.add (c * 24))) (n - c) (cap - c)) W := by
  have h1 : (c : Int) ≤ (n : Int) := by omega
  have hu := Tryz.underlying89
  obtain ⟨i0, hi, hz0, hz1, hz2⟩ := info_parts infoX
  simp [Instr.slice, run_underlying hu, Instr.sliceBounds, run_sliceBound, h1, sizeOf, typeInfo, hi, hz1]
theorem sliceX_to (vo : Option Addr) (n cap c : Nat) (h : c ≤ cap) (W : World) : (Instr.slice 89 (.slice vo n cap) none (some (.int .i64 (c : Int))) none).run Tryz.prog W = .ok (.slice vo c cap) W := by
  have h1 : (c : Int) ≤ (cap : Int) := by omega
  have hu := Tryz.underlying89
  have ha : ∀ a : Addr, a.add 0 = a := fun a => by cases a; simp [Addr.add]
  obtain ⟨i0, hi, hz0, hz1, hz2⟩ := info_parts infoX
  simp [Instr.slice, run_underlying hu, Instr.sliceBounds, run_sliceBound, h1, sizeOf, typeInfo, hi, ha]

theorem ownX_touch {S : Nat → Prop} {w w' : World} {v : Value} {n : Nat} {xs : List Value} (h : w.ownsRow 0 88 24 v n xs) (t : Touch S w w') (hs : ∀ k, v.ownBlock = some k → ¬ S k) : w'.ownsRow 0 88 24 v n xs := by
  refine ⟨h.1, ?_⟩
  rcases h.2 with h | ⟨g, cap, cur, rfl, hb, hg, r⟩
  · exact .inl h
  · exact .inr ⟨g, cap, cur, rfl, hb, (t.block g (lt_of_heap hg) (hs g rfl)).trans hg, r⟩
/-- A slice that was made since W, of the cells xs. -/
structure OwnX (W w : World) (v : Value) (n : Nat) (xs : List Value) : Prop where
  owns : w.ownsRow 0 88 24 v n xs
  touch : Touch (fun _ => False) W w
  fresh : ∀ k, v.ownBlock = some k → W.heap.size ≤ k
abbrev NewX (W w : World) (v : Value) (l : List Spn) : Prop := OwnX W w v l.length (cellsX l)
theorem NewX.nil (W w : World) (t : Touch (fun _ => False) W w) : NewX W w (.slice none 0 0) [] := ⟨World.ownsRow_nil _ _ _ _, t, fun k hk => by simp [Value.ownBlock] at hk⟩
theorem OwnX.on {W w w' : World} {v : Value} {n : Nat} {xs : List Value} (h : OwnX W w v n xs) (t : Touch (fun _ => False) w w') : OwnX W w' v n xs :=
  ⟨ownX_touch h.owns t (fun _ _ => id), h.touch.trans t, h.fresh⟩
/-- It was made since any world ahead, too. -/
theorem OwnX.since {W0 W w : World} {v : Value} {n : Nat} {xs : List Value} (h : OwnX W w v n xs) (t : Touch (fun _ => False) W0 W) : OwnX W0 w v n xs :=
  ⟨h.owns, t.trans h.touch, fun k hk => Nat.le_trans t.size (h.fresh k hk)⟩
theorem NewX.sl {W w : World} {v : Value} {l : List Spn} (h : NewX W w v l) : SlX w v l := by
  rcases h.owns.2 with ⟨e, h0⟩ | ⟨g, cap, cur, e, hb, hg, q1, q2, q3, q4⟩
  · have : l = [] := List.length_eq_zero_iff.1 (by omega)
    subst this
    rw [e]; exact SlX.nil w
  · refine ⟨_, cap, e, (fun h => by cases h), q1, q2, .inr ⟨g, 0, rfl, fun j u hu => ?_⟩⟩
    rw [← q4, List.getElem?_take] at hu
    split at hu
    · rw [cell_of_block hg, Nat.zero_add, ← Array.getElem?_toList]; exact hu
    · cases hu
theorem run_appendX (w : World) (v : Value) (a : List Spn) (hown : w.ownsRow 0 88 24 v a.length (cellsX a)) (ao : Option Addr) (n cap : Nat) (b : List Spn) (hn : n = b.length) (hno : ao = none → cap = 0) (hL : LiesX w ao b) (hlen : a.length + b.length ≤ 1073741825) :
    ∃ v' w', (Builtin.append_ #[89, 89] 89 #[v, .slice ao n cap]).run Tryz.prog w = .ok v' w' ∧ w'.ownsRow 0 88 24 v' (a ++ b).length (cellsX (a ++ b)) ∧ w.grownBy w' v.ownBlock ∧ (v'.ownBlock = v.ownBlock ∨ v'.ownBlock = some w.heap.size) := by
  subst hn
  obtain ⟨i0, hi, hz0, hz1, hz2⟩ := info_parts infoX
  cases ao with
  | none =>
    have hb : b = [] := by
      rcases hL with h | ⟨b', o, e, _⟩
      · exact h
      · cases e
    subst hb
    have hc := hno rfl
    subst hc
    refine ⟨v, w, run_append_owned_none w 0 89 89 88 i0 24 Tryz.underlying89 hi v a.length (cellsX a) hown, ?_, World.grownBy.refl w _, .inl rfl⟩
    rw [List.append_nil]; exact hown
  | some ad =>
    have hcl : ∀ j u, (cellsX b)[j]? = some u → w.cell? (ad.add j) = some u := by
      rcases hL with h | ⟨b', o, e, h⟩
      · subst h; intro j u hu; simp [cellsX] at hu
      · cases e; intro j u hu; rw [addr_addX]; exact h j u hu
    obtain ⟨v', w', hrun, hown', hg, _, hat⟩ := run_append_own_at w 0 89 89 88 i0 _ 24 216 Tryz.underlying89 hi hz0 hz1 hz2 rfl (by decide) v a.length (cellsX a) hown ad b.length cap (cellsX b) (cellsX_len b) hcl (cellsX_one b) (by unfold maxLen; omega) (by omega) (Nat.zero_le _)
    refine ⟨v', w', hrun, ?_, hg, hat⟩
    rw [cellsX_append, List.length_append]; exact hown'
theorem NewX.app {W wx : World} {v : Value} {a : List Spn} (h : NewX W wx v a) (ao : Option Addr) (n cap : Nat) (b : List Spn) (hn : n = b.length) (hno : ao = none → cap = 0) (hL : LiesX wx ao b) (hlen : a.length + b.length ≤ 1073741825) :
    ∃ v' w', (Builtin.append_ #[89, 89] 89 #[v, .slice ao n cap]).run Tryz.prog wx = .ok v' w' ∧ NewX W w' v' (a ++ b) ∧ wx.grownBy w' v.ownBlock := by
  obtain ⟨v', w', hr, ho, hg, hb⟩ := run_appendX wx v a h.owns ao n cap b hn hno hL hlen
  refine ⟨v', w', hr, ⟨ho, ?_, fun k hk => ?_⟩, hg⟩
  · exact h.touch.then ((Touch.refl (fun i => v.ownBlock = some i) wx).grown hg (fun i e _ => e)) fun i hi e => absurd hi (Nat.not_lt.2 (h.fresh i e))
  · rcases hb with e | e
    · exact h.fresh k (e ▸ hk)
    · rw [hk] at e; have := h.touch.size; simp at e; omega
/-- An append of one, out of a new block. -/
theorem NewX.app1 {W wx : World} {v : Value} {a : List Spn} (h : NewX W wx v a) (r : Spn) (hlen : a.length ≤ 1073741824) :
    ∃ v' w', (Builtin.append_ #[89, 89] 89 #[v, .slice (some ⟨wx.heap.size, 0, none⟩) 1 1]).run Tryz.prog (wx.alloc (spnO r)) = .ok v' w' ∧ NewX W w' v' (a ++ [r]) ∧ (wx.alloc (spnO r)).grownBy w' v.ownBlock :=
  NewX.app (h.on ((Touch.refl _ wx).alloc _)) (some ⟨wx.heap.size, 0, none⟩) 1 1 [r] rfl (fun h => by cases h) (LiesX.new wx r) (by simp; omega)
theorem wpList_append_runX {w w' : World} {ops : Array Oper} {rest : List Oper} {o : Oper} {a : Act} {Q : Exit → Act → World → Prop} (hgd : o.guard = none) (s x : Operand)
    (ho : o.op = .call { callee := .builtin .append, args := #[s, x], argTypes := #[89, 89] }) (v y v' : Value) (hs : a.eval s = v) (hx : a.eval x = y)
    (hrun : (Builtin.append_ #[89, 89] o.type #[v, y]).run Tryz.prog w = .ok v' w') (h : wpList Tryz.prog ops Q rest (a.put o.dst v') w') : wpList Tryz.prog ops Q (o :: rest) a w := by
  refine wpList_plain hgd fun K' hK' => ?_
  unfold Oper.wp
  simp [execOp, ho, resolve, invoke, builtin, hs, hx, hrun, Result.andThen]
  exact hK' _ _ h
/-- A cell of it laid anew. -/
theorem OwnX.set {W w : World} {v : Value} {n : Nat} {xs : List Value} (h : OwnX W w v n xs) {g cap : Nat} (e : v = .slice (some ⟨g, 0, none⟩) n cap) (i : Nat) (hi : i < n * 24) (y : Value) (hy : y.oneCell' = true) : OwnX W (w.setCell ⟨g, i, none⟩ y) v n (xs.set i y) := by
  have hf : W.heap.size ≤ g := h.fresh g (by rw [e]; rfl)
  have h1 := h.owns.1
  rcases h.owns.2 with ⟨e', h0⟩ | ⟨g', cap', cur, e', hb, hg, q1, q2, q3, q4⟩
  · rw [h0] at hi; omega
  · rw [e] at e'
    simp only [Value.slice.injEq, Option.some.injEq, Addr.mk.injEq] at e'
    obtain ⟨⟨rfl, _, _⟩, _, rfl⟩ := e'
    refine ⟨⟨?_, .inr ⟨g, cap, cur.setIfInBounds i y, e, hb, by rw [heap_setCell_same _ _ _ _ hg], q1, q2, ?_, ?_⟩⟩, h.touch.setCell _ _ (fun hk => absurd hk (Nat.not_lt.2 hf)), h.fresh⟩
    · rw [List.length_set]; exact h1
    · simpa using q3
    · rw [Array.toList_setIfInBounds, ← q4, List.take_set]
theorem OwnX.free {W w : World} {v : Value} {n : Nat} {xs : List Value} (h : OwnX W w v n xs) {g cap : Nat} (e : v = .slice (some ⟨g, 0, none⟩) n cap) (hn : 0 < n) (i : Nat) : w.frozen? ⟨g, i, none⟩ = false := by
  rcases h.owns.2 with ⟨e', h0⟩ | ⟨g', cap', cur, e', hb, hg, q1, q2, q3, q4⟩
  · omega
  · rw [e] at e'
    simp only [Value.slice.injEq, Option.some.injEq, Addr.mk.injEq] at e'
    obtain ⟨⟨rfl, _, _⟩, _, rfl⟩ := e'
    exact free_of_block hg
theorem OwnX.shape {W w : World} {v : Value} {n : Nat} {xs : List Value} (h : OwnX W w v n xs) : ∃ ao cap, v = .slice ao n cap ∧ (0 < n → ∃ g, ao = some ⟨g, 0, none⟩) ∧ n ≤ cap ∧ cap ≤ 9223372036854775807 := by
  rcases h.owns.2 with ⟨e, h0⟩ | ⟨g, cap, cur, e, hb, hg, q1, q2, q3, q4⟩
  · exact ⟨none, 0, by rw [e, h0], fun h => by omega, by omega, by omega⟩
  · exact ⟨_, cap, e, fun _ => ⟨g, rfl⟩, q1, q2⟩
end Go.Proofs.YtnilikomoapcaaaGreat

/- Package marks: winners by keys, as lists (no Go in it): the document's list in order is the program's map, told by its keys in order. -/
namespace Go.Proofs.YtnilikomoapcaaaGreat
open Go.RowKit Go.Maps
set_option linter.unusedVariables false
set_option linter.unusedSimpArgs false

section
variable {α : Type}
/-- The program's: the winner of a key, in its map. -/
def winP (less : α → α → Bool) (k : Key) (o : α) (es : List (Key × α)) : List (Key × α) :=
  match aget k es with
  | none => aput k o es
  | some b => if less b o then aput k o es else es
/-- The document's: where a key belongs in its list. -/
def idxR (k : Key) (es : List (Key × α)) : Nat := (es.takeWhile fun p => bytesBefore p.1 k).length
def winR (less : α → α → Bool) (k : Key) (o : α) (es : List (Key × α)) : List (Key × α) :=
  match es[idxR k es]? with
  | none => es ++ [(k, o)]
  | some y => if y.1 = k then (if less y.2 o then es.set (idxR k es) (k, o) else es) else es.take (idxR k es) ++ (k, o) :: es.drop (idxR k es)
theorem adel_none {k : Key} {es : List (Key × α)} (h : ∀ p ∈ es, p.1 ≠ k) : adel k es = es := by
  unfold adel
  rw [List.filter_eq_self]
  intro p hp
  simpa using h p hp
theorem winP_rising {less : α → α → Bool} {k : Key} {o : α} {es : List (Key × α)} (h : Rising es) : Rising (winP less k o es) := by
  unfold winP
  split
  · exact h.aput
  · split
    · exact h.aput
    · exact h
theorem win_eq (less : α → α → Bool) (k : Key) (o : α) : ∀ es : List (Key × α), Rising es → winR less k o es = winP less k o es
  | [], _ => rfl
  | y :: r, h => by
    have h' := List.pairwise_cons.1 h
    by_cases hb : bytesBefore y.1 k = true
    · have ih := win_eq less k o r h'.2
      have hne : y.1 ≠ k := before_ne hb
      have hnk : bytesBefore k y.1 = false := by
        cases e : bytesBefore k y.1 with
        | false => rfl
        | true =>
          have := before_trans _ _ _ hb e
          rw [before_irrefl] at this; cases this
      have hi : idxR k (y :: r) = idxR k r + 1 := by unfold idxR; rw [List.takeWhile_cons_of_pos (p := fun p : Key × α => bytesBefore p.1 k) hb]; rfl
      have hg : aget k (y :: r) = aget k r := by
        have hb' : (y.1 == k) = false := by simpa using hne
        show (if y.1 == k then some y.2 else aget k r) = aget k r
        rw [hb']; rfl
      have hp : aput k o (y :: r) = y :: aput k o r := by
        have hb' : (y.1 == k) = false := by simpa using hne
        have hd : adel k (y :: r) = y :: adel k r := by unfold adel; rw [List.filter_cons, hb']; rfl
        unfold aput
        rw [hd]
        show (if bytesBefore k y.1 then (k, o) :: y :: adel k r else y :: ains k o (adel k r)) = _
        rw [hnk]; rfl
      have hR : winR less k o (y :: r) = y :: winR less k o r := by
        unfold winR
        rw [hi, List.getElem?_cons_succ]
        cases r[idxR k r]? with
        | none => rfl
        | some z =>
          simp only [List.set_cons_succ, List.take_succ_cons, List.drop_succ_cons]
          split
          · split <;> rfl
          · rfl
      rw [hR, ih]
      unfold winP
      rw [hg]
      cases aget k r with
      | none => simp only [hp]
      | some b =>
        simp only
        split
        · rw [hp]
        · rfl
    · have hb' : bytesBefore y.1 k = false := by simpa using hb
      have hi : idxR k (y :: r) = 0 := by unfold idxR; rw [List.takeWhile_cons_of_neg (by simpa using hb')]; rfl
      have hr : ∀ p ∈ r, p.1 ≠ k := fun p hp e => by
        have := h'.1 p hp
        rw [e, hb'] at this; cases this
      unfold winR
      rw [hi, List.getElem?_cons_zero]
      simp only [List.set_cons_zero, List.take_zero, List.drop_zero, List.nil_append]
      by_cases hk : y.1 = k
      · have hg : aget k (y :: r) = some y.2 := by
          show (if y.1 == k then some y.2 else aget k r) = some y.2
          rw [if_pos (by simpa using hk)]
        have hp : aput k o (y :: r) = (k, o) :: r := by
          have hd : adel k (y :: r) = r := by
            have hb2 : (y.1 == k) = true := by simpa using hk
            unfold adel
            rw [List.filter_cons, hb2]
            exact adel_none hr
          unfold aput
          rw [hd]
          cases r with
          | nil => rfl
          | cons z r =>
            have hz : bytesBefore k z.1 = true := by rw [← hk]; exact h'.1 z (by simp)
            show (if bytesBefore k z.1 then (k, o) :: z :: r else z :: ains k o r) = _
            rw [hz]; rfl
        unfold winP
        rw [hg, if_pos hk]
        simp only [hp]
      · have hg : aget k (y :: r) = none := aget_none.2 fun p hp => by
          rcases List.mem_cons.1 hp with rfl | hp
          · exact hk
          · exact hr p hp
        have hp : aput k o (y :: r) = (k, o) :: y :: r := by
          unfold aput
          rw [adel_none (aget_none.1 hg)]
          show (if bytesBefore k y.1 then (k, o) :: y :: r else y :: ains k o r) = _
          rw [before_total _ _ hk hb']; rfl
        unfold winP
        rw [hg, if_neg hk, hp]
end
end Go.Proofs.YtnilikomoapcaaaGreat
