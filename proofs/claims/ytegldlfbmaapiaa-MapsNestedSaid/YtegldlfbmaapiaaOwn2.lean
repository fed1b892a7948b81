/- Package maps: two Maps side by side, one after the other changed. -/
import Derived.Test.YtegldlfbmaapiaaOwn1
import Derived.Test.YtegldlfbmaapiaaPart18
import Derived.Test.YtegldlfbmaapiaaRowO
import Derived.Test.YtegldlfbmaapiaaPart2
import Derived.Maps.AppendAt
import Derived.Laws.OwnMore
import Derived.Shelf.GgSortFunc.RowK
import Derived.Test.YtegldlfbmaapiaaKnown12b
import Derived.Test.YtegldlfbmaapiaaPart19
namespace Go.Proofs.Ytegldlfbmaapiaa
open Go.RowKit Go.Maps
set_option linter.unusedVariables false
set_option linter.unusedSimpArgs false
set_option maxRecDepth 100000

section
variable {w0 w : World} {K : Nat → Prop} {g : Nat} {s : MS} {L : List O}
theorem lv_set2 (h : Lv w0 K w g s L) (o : O) (hf : o.fits) (hky : o.ky.size ≤ 281474976710656) (hl : L.length < 90000) (hok : okS s o = true) :
    Calls Try.prog 10 #[.pointer (some ⟨g, 0, none⟩), o.val] w fun e w' => e = .returned (.bool true) ∧ Lv w0 K w' g (setS s o) (L ++ [o]) ∧ Kept K w w' ∧ w.heap.size ≤ w'.heap.size := by
  obtain ⟨F, h⟩ := h
  refine (set_any h.at_ (h.cnt.small (by omega)) o hf hky).mono ?_
  rintro e w' ⟨rfl, hp⟩
  obtain ⟨h1, h2, h3, h4, h5⟩ := ok_parts hok
  have hpar := (h.has.maps _ _ hf.upc hf.upk).1 h4
  have hn : ∀ x ∈ L, ¬ (x.c = o.c ∧ x.k = o.k) := fun x hx e => by
    have := (h.has.told _ _ hf.uc hf.uk).2 ⟨x, hx, e⟩
    rw [h5] at this; cases this
  have hs : w.heap.size ≤ w'.heap.size := by obtain ⟨_, _, t, _⟩ := hp; exact t.size
  have hq := lvF_post h hp (h.has.set h.ord hf hky hok) (h.ord.set o) (h.chain.snoc hpar) (h.apart.snoc hn) (by have := h.cnt.set o; simpa using this) (by simp; omega)
  exact ⟨by rw [hok], hq.1, hq.2, hs⟩
theorem lv_hide2 (h : Lv w0 K w g s L) (l : List Rg) (v : Value) (hs : SlR w v l) (hll : l.length ≤ 1073741824) :
    Calls Try.prog 9 #[.pointer (some ⟨g, 0, none⟩), v] w fun e w' => e = .returned (.tuple #[]) ∧ ∃ out, (∀ c k, hasB out c k = hasB l c k) ∧ Lv w0 K w' g { s with hid := out } L ∧ Kept K w w' ∧ w.heap.size ≤ w'.heap.size := by
  obtain ⟨F, h⟩ := h
  refine (hide_any h.at_ l v hs hll).mono ?_
  rintro e w' ⟨rfl, out, hF, hp⟩
  have hsz : w.heap.size ≤ w'.heap.size := by obtain ⟨_, _, t, _⟩ := hp; exact t.size
  have hq := lvF_post h hp (h.has.hide out) (h.ord.hide out) h.chain h.apart (h.cnt.hide out) h.len
  exact ⟨rfl, out, fun c k => hasB_clean hF c k, hq.1, hq.2, hsz⟩
/-- The other's turn. -/
theorem Lv.swap {wS wA : World} {KA KB : Nat → Prop} {ga gb : Nat} {sA sB : MS} {LA LB : List O} (hb : Lv w0 KB wS gb sB LB) (ha : Lv w0 KA wA ga sA LA) (hk : Kept KA wS wA) (hsz : wS.heap.size ≤ wA.heap.size) (hin : ∀ k, w0.heap.size ≤ k → k < wS.heap.size → ¬ KB k → KA k) :
    Lv w0 (fun k => w0.heap.size ≤ k ∧ k < wA.heap.size ∧ ¬ KA k) wA gb sB LB := by
  obtain ⟨FA, ha⟩ := ha
  obtain ⟨F, h⟩ := hb
  have t1 := h.touch
  have t2 := ha.touch
  have t : Touch (fun k => ¬ KA k) wS wA := ⟨t2.os.trans t1.os.symm, t2.tape.trans t1.tape.symm, t2.output.trans t1.output.symm, hsz, fun k _ hn => hk k (Classical.not_not.1 hn)⟩
  have hF : ∀ k, F k → KA k := fun k hk => hin k (h.own k hk).1 (h.at_.lt hk) (h.own k hk).2
  exact ⟨F, h.at_.touch t fun k hk hn => hn (hF k hk), fun k hk => ⟨(h.own k hk).1, fun q => q.2.2 (hF k hk)⟩, fun k q => q.2.1, t2, h.has, h.ord, h.chain, h.apart, h.cnt, h.len⟩
end
end Go.Proofs.Ytegldlfbmaapiaa

/- Slices of operations, not of a named type: cut, grown. -/
namespace Go.Proofs.Ytegldlfbmaapiaa
open Go.RowKit Go.Maps
set_option linter.unusedVariables false
set_option linter.unusedSimpArgs false

theorem sliceO_from (vo : Option Addr) (n cap c : Nat) (h : c ≤ n) (W : World) : (Instr.slice 26 (.slice vo n cap) (some (.int .i64 (c : Int))) none none).run Try.prog W = .ok (.slice (if cap = c then vo else vo.map (·.add (c * 22))) (n - c) (cap - c)) W := by
  have h1 : (c : Int) ≤ (n : Int) := by omega
  have hu := Try.underlying26
  obtain ⟨i0, hi, hz0, hz1, hz2⟩ := info_parts infoP
  simp [Instr.slice, run_underlying hu, Instr.sliceBounds, run_sliceBound, h1, sizeOf, typeInfo, hi, hz1]
theorem sliceO_to (vo : Option Addr) (n cap c : Nat) (h : c ≤ cap) (W : World) : (Instr.slice 26 (.slice vo n cap) none (some (.int .i64 (c : Int))) none).run Try.prog W = .ok (.slice vo c cap) W := by
  have h1 : (c : Int) ≤ (cap : Int) := by omega
  have hu := Try.underlying26
  have ha : ∀ a : Addr, a.add 0 = a := fun a => by cases a; simp [Addr.add]
  obtain ⟨i0, hi, hz0, hz1, hz2⟩ := info_parts infoP
  simp [Instr.slice, run_underlying hu, Instr.sliceBounds, run_sliceBound, h1, sizeOf, typeInfo, hi, ha]

theorem run_appendO (w : World) (v : Value) (a : List O) (hown : w.ownsRow 0 41 22 v a.length (cellsP a)) (ao : Option Addr) (n cap : Nat) (b : List O) (hn : n = b.length) (hno : ao = none → cap = 0) (hL : LiesP w ao b) (hlen : a.length + b.length ≤ 1073741825) :
    ∃ v' w', (Builtin.append_ #[26, 26] 26 #[v, .slice ao n cap]).run Try.prog w = .ok v' w' ∧ w'.ownsRow 0 41 22 v' (a ++ b).length (cellsP (a ++ b)) ∧ w.grownBy w' v.ownBlock ∧ (v'.ownBlock = v.ownBlock ∨ v'.ownBlock = some w.heap.size) := by
  subst hn
  obtain ⟨i0, hi, hz0, hz1, hz2⟩ := info_parts infoP
  cases ao with
  | none =>
    have hb : b = [] := by
      rcases hL with h | ⟨b', o, e, _⟩
      · exact h
      · cases e
    subst hb
    have hc := hno rfl
    subst hc
    refine ⟨v, w, run_append_owned_none w 0 26 26 41 i0 22 Try.underlying26 hi v a.length (cellsP a) hown, ?_, World.grownBy.refl w _, .inl rfl⟩
    rw [List.append_nil]; exact hown
  | some ad =>
    have hcl : ∀ j u, (cellsP b)[j]? = some u → w.cell? (ad.add j) = some u := by
      rcases hL with h | ⟨b', o, e, h⟩
      · subst h; intro j u hu; simp [cellsP] at hu
      · cases e; intro j u hu; rw [addr_addP]; exact h j u hu
    obtain ⟨v', w', hrun, hown', hg, _, hat⟩ := run_append_own_at w 0 26 26 41 i0 _ 22 200 Try.underlying26 hi hz0 hz1 hz2 rfl (by decide) v a.length (cellsP a) hown ad b.length cap (cellsP b) (cellsP_len b) hcl (cellsP_one b) (by unfold maxLen; omega) (by omega) (Nat.zero_le _)
    refine ⟨v', w', hrun, ?_, hg, hat⟩
    rw [cellsP_append, List.length_append]; exact hown'
theorem NewP.appO {W wx : World} {v : Value} {a : List O} (h : NewP W wx v a) (ao : Option Addr) (n cap : Nat) (b : List O) (hn : n = b.length) (hno : ao = none → cap = 0) (hL : LiesP wx ao b) (hlen : a.length + b.length ≤ 1073741825) :
    ∃ v' w', (Builtin.append_ #[26, 26] 26 #[v, .slice ao n cap]).run Try.prog wx = .ok v' w' ∧ NewP W w' v' (a ++ b) ∧ wx.grownBy w' v.ownBlock := by
  obtain ⟨v', w', hr, ho, hg, hb⟩ := run_appendO wx v a h.owns ao n cap b hn hno hL hlen
  refine ⟨v', w', hr, ⟨ho, ?_, fun k hk => ?_⟩, hg⟩
  · exact h.touch.then ((Touch.refl (fun i => v.ownBlock = some i) wx).grown hg (fun i e _ => e)) fun i hi e => absurd hi (Nat.not_lt.2 (h.fresh i e))
  · rcases hb with e | e
    · exact h.fresh k (e ▸ hk)
    · rw [hk] at e; have := h.touch.size; simp at e; omega
theorem NewP.app1O {W wx : World} {v : Value} {a : List O} (h : NewP W wx v a) (r : O) (hlen : a.length ≤ 1073741824) :
    ∃ v' w', (Builtin.append_ #[26, 26] 26 #[v, .slice (some ⟨wx.heap.size, 0, none⟩) 1 1]).run Try.prog (wx.alloc (opO r)) = .ok v' w' ∧ NewP W w' v' (a ++ [r]) ∧ (wx.alloc (opO r)).grownBy w' v.ownBlock :=
  NewP.appO (h.on ((Touch.refl _ wx).alloc _)) (some ⟨wx.heap.size, 0, none⟩) 1 1 [r] rfl (fun h => by cases h) (LiesP.new wx r) (by simp; omega)
theorem wpList_append_runO {w w' : World} {ops : Array Oper} {rest : List Oper} {o : Oper} {a : Act} {Q : Exit → Act → World → Prop} (hgd : o.guard = none) (s x : Operand)
    (ho : o.op = .call { callee := .builtin .append, args := #[s, x], argTypes := #[26, 26] }) (v y v' : Value) (hs : a.eval s = v) (hx : a.eval x = y)
    (hrun : (Builtin.append_ #[26, 26] o.type #[v, y]).run Try.prog w = .ok v' w') (h : wpList Try.prog ops Q rest (a.put o.dst v') w') : wpList Try.prog ops Q (o :: rest) a w := by
  refine wpList_plain hgd fun K' hK' => ?_
  unfold Oper.wp
  simp [execOp, ho, resolve, invoke, builtin, hs, hx, hrun, Result.andThen]
  exact hK' _ _ h
end Go.Proofs.Ytegldlfbmaapiaa

/- Slices of ids: how they lie, are cut, grow. -/
namespace Go.Proofs.Ytegldlfbmaapiaa
open Go.RowKit Go.Maps
set_option linter.unusedVariables false
set_option linter.unusedSimpArgs false

structure Ip where
  c : Int
  k : Int
deriving DecidableEq, Inhabited
abbrev ipO (r : Ip) : Obj := .cells #[.int .u64 r.c, .int .u64 r.k] 34
def cellD (r : Ip) : List Value := [.int .u64 r.c, .int .u64 r.k]
def cellsD (l : List Ip) : List Value := l.flatMap cellD
theorem cellsD_cons (r : Ip) (l : List Ip) : cellsD (r :: l) = .int .u64 r.c :: .int .u64 r.k :: cellsD l := rfl
theorem cellsD_append (a b : List Ip) : cellsD (a ++ b) = cellsD a ++ cellsD b := by simp [cellsD]
theorem cellsD_one (l : List Ip) : ∀ u ∈ cellsD l, u.oneCell' = true := by
  intro u hu
  obtain ⟨f, _, hf⟩ := List.mem_flatMap.1 hu
  simp only [cellD, List.mem_cons, List.not_mem_nil, or_false] at hf
  rcases hf with rfl | rfl <;> rfl
theorem cellsD_len (l : List Ip) : (cellsD l).length = l.length * 2 := by
  induction l with
  | nil => rfl
  | cons f r ih => rw [cellsD_cons]; simp only [List.length_cons, ih]; omega
theorem cellsD_get : ∀ (l : List Ip) (j : Nat) (h : j < l.length), (cellsD l)[j * 2]? = some (.int .u64 l[j].c) ∧ (cellsD l)[j * 2 + 1]? = some (.int .u64 l[j].k)
  | f :: r, 0, _ => ⟨rfl, rfl⟩
  | f :: r, j + 1, h => by
    have ih := cellsD_get r j (by simpa using h)
    rw [cellsD_cons, show (j + 1) * 2 = j * 2 + 2 from by omega]
    exact ih
theorem cellsD_set : ∀ (l : List Ip) (j : Nat) (h : j < l.length) (r : Ip), ((cellsD l).set (j * 2) (.int .u64 r.c)).set (j * 2 + 1) (.int .u64 r.k) = cellsD (l.set j r)
  | f :: l, 0, _, r => rfl
  | f :: l, j + 1, h, r => by
    have ih := cellsD_set l j (by simpa using h) r
    rw [cellsD_cons, List.set_cons_succ, cellsD_cons, ← ih, show (j + 1) * 2 = j * 2 + 2 from by omega]
    rfl
/-- One field laid anew. -/
theorem cellsD_to : ∀ (l : List Ip) (j : Nat) (h : j < l.length) (y : Int), (cellsD l).set (j * 2 + 1) (.int .u64 y) = cellsD (l.set j ⟨l[j].c, y⟩)
  | f :: l, 0, _, y => rfl
  | f :: l, j + 1, h, y => by
    have ih := cellsD_to l j (by simpa using h) y
    have hj : j < l.length := by simpa using h
    have e : (f :: l).set (j + 1) ⟨(f :: l)[j + 1].c, y⟩ = f :: l.set j ⟨l[j].c, y⟩ := rfl
    rw [e, cellsD_cons, cellsD_cons, ← ih, show (j + 1) * 2 = j * 2 + 2 from by omega]
    rfl
theorem infoD : (Try.prog.info? 34).map (fun i => (i.zero, i.size, i.bytes)) = some (some (.agg #[.int .u64 0, .int .u64 0]), 2, 16) := by kernel_rfl
/-- They lie where a slice of that address begins. -/
def LiesD (w : World) (ao : Option Addr) (l : List Ip) : Prop := l = [] ∨ ∃ b o, ao = some ⟨b, o, none⟩ ∧ ∀ j u, (cellsD l)[j]? = some u → w.cell? ⟨b, o + j, none⟩ = some u
theorem LiesD.touch {W W' : World} {ao : Option Addr} {b : List Ip} (h : LiesD W ao b) (t : Touch (fun _ => False) W W') : LiesD W' ao b := by
  rcases h with h | ⟨b, o, e, h⟩
  · exact .inl h
  · refine .inr ⟨b, o, e, fun j u hu => ?_⟩
    have := h j u hu
    rw [World.cell?_of_block (t.block _ (World.block_lt_of_cell? _ _ this) id)]; exact this
theorem LiesD.new (W : World) (f : Ip) : LiesD (W.alloc (ipO f)) (some ⟨W.heap.size, 0, none⟩) [f] := by
  refine .inr ⟨_, _, rfl, fun j u hu => ?_⟩
  rw [Nat.zero_add, cell_of_block (heap_alloc_new W (ipO f))]
  have e : cellsD [f] = [.int .u64 f.c, .int .u64 f.k] := rfl
  rw [e] at hu
  simpa using hu
theorem addr_addD (g o j : Nat) : (⟨g, o, none⟩ : Addr).add j = ⟨g, o + j, none⟩ := by
  unfold Addr.add
  split <;> simp_all
/-- v is a slice of l. -/
def SlD (w : World) (v : Value) (l : List Ip) : Prop := ∃ ao cap, v = .slice ao l.length cap ∧ (ao = none → cap = 0) ∧ l.length ≤ cap ∧ cap ≤ 9223372036854775807 ∧ LiesD w ao l
theorem SlD.touch {W W' : World} {v : Value} {l : List Ip} (h : SlD W v l) (t : Touch (fun _ => False) W W') : SlD W' v l := by
  obtain ⟨ao, cap, e, h1, h2, h3, h4⟩ := h
  exact ⟨ao, cap, e, h1, h2, h3, h4.touch t⟩
theorem SlD.nil (w : World) : SlD w (.slice none 0 0) [] := ⟨none, 0, rfl, fun _ => rfl, Nat.le_refl _, by omega, .inl rfl⟩
/-- Its cells, where there are any. -/
theorem SlD.row {w : World} {v : Value} {l : List Ip} (h : SlD w v l) (hne : l ≠ []) : ∃ b o cap, v = .slice (some ⟨b, o, none⟩) l.length cap ∧ l.length ≤ cap ∧ cap ≤ 9223372036854775807 ∧ b < w.heap.size ∧ ∀ j (h : j < l.length), w.cell? ⟨b, o + j * 2, none⟩ = some (.int .u64 l[j].c) ∧ w.cell? ⟨b, o + j * 2 + 1, none⟩ = some (.int .u64 l[j].k) := by
  obtain ⟨ao, cap, e, h1, h2, h3, h4⟩ := h
  rcases h4 with h4 | ⟨b, o, rfl, hc⟩
  · exact absurd h4 hne
  · have hx : ∀ j (h : j < l.length), w.cell? ⟨b, o + j * 2, none⟩ = some (.int .u64 l[j].c) ∧ w.cell? ⟨b, o + j * 2 + 1, none⟩ = some (.int .u64 l[j].k) := fun j hj => by
      obtain ⟨a0, a1⟩ := cellsD_get l j hj
      exact ⟨hc _ _ a0, hc _ _ a1⟩
    refine ⟨b, o, cap, e, h2, h3, ?_, hx⟩
    have hp : 0 < l.length := List.length_pos_iff.2 hne
    exact World.block_lt_of_cell? _ _ (hx 0 hp).1
theorem SlD.shape {w : World} {v : Value} {l : List Ip} (h : SlD w v l) : ∃ ao cap, v = .slice ao l.length cap ∧ (ao = none → cap = 0) ∧ l.length ≤ cap ∧ cap ≤ 9223372036854775807 := by
  obtain ⟨ao, cap, e, h1, h2, h3, h4⟩ := h
  exact ⟨ao, cap, e, h1, h2, h3⟩
theorem SlD.from {w : World} {ao : Option Addr} {n cap : Nat} {l : List Ip} (h : SlD w (.slice ao n cap) l) (c : Nat) (hc : c ≤ l.length) : SlD w (.slice (if cap = c then ao else ao.map (·.add (c * 2))) (n - c) (cap - c)) (l.drop c) := by
  obtain ⟨ao', cap', e, h1, h2, h3, h4⟩ := h
  simp only [Value.slice.injEq] at e
  obtain ⟨rfl, rfl, rfl⟩ := e
  refine ⟨_, _, by rw [List.length_drop], ?_, by rw [List.length_drop]; omega, by omega, ?_⟩
  · intro e
    split at e
    · have := h1 e; omega
    · rw [Option.map_eq_none_iff] at e
      have := h1 e; omega
  · by_cases hd : l.drop c = []
    · exact .inl hd
    · have hlt : c < l.length := by
        rcases Nat.lt_or_ge c l.length with x | x
        · exact x
        · exact absurd (List.drop_of_length_le x) hd
      rcases h4 with h4 | ⟨b, o, rfl, hx⟩
      · subst h4; simp at hlt
      · rw [if_neg (by omega), Option.map_some, addr_addD]
        refine .inr ⟨b, o + c * 2, rfl, fun j u hu => ?_⟩
        have e2 : cellsD l = cellsD (l.take c) ++ cellsD (l.drop c) := by rw [← cellsD_append, List.take_append_drop]
        have hlen : (cellsD (l.take c)).length = c * 2 := by rw [cellsD_len, List.length_take]; omega
        have : (cellsD l)[c * 2 + j]? = some u := by
          rw [e2, List.getElem?_append_right (by omega), hlen, Nat.add_sub_cancel_left]; exact hu
        have := hx _ u this
        rw [Nat.add_assoc]; exact this
theorem SlD.upto {w : World} {ao : Option Addr} {n cap : Nat} {l : List Ip} (h : SlD w (.slice ao n cap) l) (c : Nat) (hc : c ≤ l.length) : SlD w (.slice ao c cap) (l.take c) := by
  obtain ⟨ao', cap', e, h1, h2, h3, h4⟩ := h
  simp only [Value.slice.injEq] at e
  obtain ⟨rfl, rfl, rfl⟩ := e
  have hlen : (l.take c).length = c := by rw [List.length_take]; omega
  refine ⟨_, _, by rw [hlen], h1, by omega, h3, ?_⟩
  rcases h4 with h4 | ⟨b, o, rfl, hx⟩
  · exact .inl (by rw [h4]; simp)
  · refine .inr ⟨b, o, rfl, fun j u hu => hx j u ?_⟩
    have e2 : cellsD l = cellsD (l.take c) ++ cellsD (l.drop c) := by rw [← cellsD_append, List.take_append_drop]
    rw [e2, List.getElem?_append_left (by rw [List.getElem?_eq_some_iff] at hu; exact hu.1)]; exact hu
theorem sliceD_from (vo : Option Addr) (n cap c : Nat) (h : c ≤ n) (W : World) : (Instr.slice 64 (.slice vo n cap) (some (.int .i64 (c : Int))) none none).run Try.prog W = .ok (.slice (if cap = c then vo else vo.map (·.add (c * 2))) (n - c) (cap - c)) W := by
  have h1 : (c : Int) ≤ (n : Int) := by omega
  have hu := Try.underlying64
  obtain ⟨i0, hi, hz0, hz1, hz2⟩ := info_parts infoD
  simp [Instr.slice, run_underlying hu, Instr.sliceBounds, run_sliceBound, h1, sizeOf, typeInfo, hi, hz1]
theorem sliceD_to (vo : Option Addr) (n cap c : Nat) (h : c ≤ cap) (W : World) : (Instr.slice 64 (.slice vo n cap) none (some (.int .i64 (c : Int))) none).run Try.prog W = .ok (.slice vo c cap) W := by
  have h1 : (c : Int) ≤ (cap : Int) := by omega
  have hu := Try.underlying64
  have ha : ∀ a : Addr, a.add 0 = a := fun a => by cases a; simp [Addr.add]
  obtain ⟨i0, hi, hz0, hz1, hz2⟩ := info_parts infoD
  simp [Instr.slice, run_underlying hu, Instr.sliceBounds, run_sliceBound, h1, sizeOf, typeInfo, hi, ha]

theorem ownD_touch {S : Nat → Prop} {w w' : World} {v : Value} {n : Nat} {xs : List Value} (h : w.ownsRow 0 34 2 v n xs) (t : Touch S w w') (hs : ∀ k, v.ownBlock = some k → ¬ S k) : w'.ownsRow 0 34 2 v n xs := by
  refine ⟨h.1, ?_⟩
  rcases h.2 with h | ⟨g, cap, cur, rfl, hb, hg, r⟩
  · exact .inl h
  · exact .inr ⟨g, cap, cur, rfl, hb, (t.block g (lt_of_heap hg) (hs g rfl)).trans hg, r⟩
/-- A slice that was made since W, of the cells xs. -/
structure OwnD (W w : World) (v : Value) (n : Nat) (xs : List Value) : Prop where
  owns : w.ownsRow 0 34 2 v n xs
  touch : Touch (fun _ => False) W w
  fresh : ∀ k, v.ownBlock = some k → W.heap.size ≤ k
abbrev NewD (W w : World) (v : Value) (l : List Ip) : Prop := OwnD W w v l.length (cellsD l)
theorem NewD.nil (W w : World) (t : Touch (fun _ => False) W w) : NewD W w (.slice none 0 0) [] := ⟨World.ownsRow_nil _ _ _ _, t, fun k hk => by simp [Value.ownBlock] at hk⟩
theorem OwnD.on {W w w' : World} {v : Value} {n : Nat} {xs : List Value} (h : OwnD W w v n xs) (t : Touch (fun _ => False) w w') : OwnD W w' v n xs :=
  ⟨ownD_touch h.owns t (fun _ _ => id), h.touch.trans t, h.fresh⟩
/-- It was made since any world ahead, too. -/
theorem OwnD.since {W0 W w : World} {v : Value} {n : Nat} {xs : List Value} (h : OwnD W w v n xs) (t : Touch (fun _ => False) W0 W) : OwnD W0 w v n xs :=
  ⟨h.owns, t.trans h.touch, fun k hk => Nat.le_trans t.size (h.fresh k hk)⟩
theorem NewD.sl {W w : World} {v : Value} {l : List Ip} (h : NewD W w v l) : SlD w v l := by
  rcases h.owns.2 with ⟨e, h0⟩ | ⟨g, cap, cur, e, hb, hg, q1, q2, q3, q4⟩
  · have : l = [] := List.length_eq_zero_iff.1 (by omega)
    subst this
    rw [e]; exact SlD.nil w
  · refine ⟨_, cap, e, (fun h => by cases h), q1, q2, .inr ⟨g, 0, rfl, fun j u hu => ?_⟩⟩
    rw [← q4, List.getElem?_take] at hu
    split at hu
    · rw [cell_of_block hg, Nat.zero_add, ← Array.getElem?_toList]; exact hu
    · cases hu
theorem run_appendD (w : World) (v : Value) (a : List Ip) (hown : w.ownsRow 0 34 2 v a.length (cellsD a)) (ao : Option Addr) (n cap : Nat) (b : List Ip) (hn : n = b.length) (hno : ao = none → cap = 0) (hL : LiesD w ao b) (hlen : a.length + b.length ≤ 1073741825) :
    ∃ v' w', (Builtin.append_ #[64, 64] 64 #[v, .slice ao n cap]).run Try.prog w = .ok v' w' ∧ w'.ownsRow 0 34 2 v' (a ++ b).length (cellsD (a ++ b)) ∧ w.grownBy w' v.ownBlock ∧ (v'.ownBlock = v.ownBlock ∨ v'.ownBlock = some w.heap.size) := by
  subst hn
  obtain ⟨i0, hi, hz0, hz1, hz2⟩ := info_parts infoD
  cases ao with
  | none =>
    have hb : b = [] := by
      rcases hL with h | ⟨b', o, e, _⟩
      · exact h
      · cases e
    subst hb
    have hc := hno rfl
    subst hc
    refine ⟨v, w, run_append_owned_none w 0 64 64 34 i0 2 Try.underlying64 hi v a.length (cellsD a) hown, ?_, World.grownBy.refl w _, .inl rfl⟩
    rw [List.append_nil]; exact hown
  | some ad =>
    have hcl : ∀ j u, (cellsD b)[j]? = some u → w.cell? (ad.add j) = some u := by
      rcases hL with h | ⟨b', o, e, h⟩
      · subst h; intro j u hu; simp [cellsD] at hu
      · cases e; intro j u hu; rw [addr_addD]; exact h j u hu
    obtain ⟨v', w', hrun, hown', hg, _, hat⟩ := run_append_own_at w 0 64 64 34 i0 _ 2 16 Try.underlying64 hi hz0 hz1 hz2 rfl (by decide) v a.length (cellsD a) hown ad b.length cap (cellsD b) (cellsD_len b) hcl (cellsD_one b) (by unfold maxLen; omega) (by omega) (Nat.zero_le _)
    refine ⟨v', w', hrun, ?_, hg, hat⟩
    rw [cellsD_append, List.length_append]; exact hown'
theorem NewD.app {W wx : World} {v : Value} {a : List Ip} (h : NewD W wx v a) (ao : Option Addr) (n cap : Nat) (b : List Ip) (hn : n = b.length) (hno : ao = none → cap = 0) (hL : LiesD wx ao b) (hlen : a.length + b.length ≤ 1073741825) :
    ∃ v' w', (Builtin.append_ #[64, 64] 64 #[v, .slice ao n cap]).run Try.prog wx = .ok v' w' ∧ NewD W w' v' (a ++ b) ∧ wx.grownBy w' v.ownBlock := by
  obtain ⟨v', w', hr, ho, hg, hb⟩ := run_appendD wx v a h.owns ao n cap b hn hno hL hlen
  refine ⟨v', w', hr, ⟨ho, ?_, fun k hk => ?_⟩, hg⟩
  · exact h.touch.then ((Touch.refl (fun i => v.ownBlock = some i) wx).grown hg (fun i e _ => e)) fun i hi e => absurd hi (Nat.not_lt.2 (h.fresh i e))
  · rcases hb with e | e
    · exact h.fresh k (e ▸ hk)
    · rw [hk] at e; have := h.touch.size; simp at e; omega
/-- An append of one, out of a new block. -/
theorem NewD.app1 {W wx : World} {v : Value} {a : List Ip} (h : NewD W wx v a) (r : Ip) (hlen : a.length ≤ 1073741824) :
    ∃ v' w', (Builtin.append_ #[64, 64] 64 #[v, .slice (some ⟨wx.heap.size, 0, none⟩) 1 1]).run Try.prog (wx.alloc (ipO r)) = .ok v' w' ∧ NewD W w' v' (a ++ [r]) ∧ (wx.alloc (ipO r)).grownBy w' v.ownBlock :=
  NewD.app (h.on ((Touch.refl _ wx).alloc _)) (some ⟨wx.heap.size, 0, none⟩) 1 1 [r] rfl (fun h => by cases h) (LiesD.new wx r) (by simp; omega)
theorem wpList_append_runD {w w' : World} {ops : Array Oper} {rest : List Oper} {o : Oper} {a : Act} {Q : Exit → Act → World → Prop} (hgd : o.guard = none) (s x : Operand)
    (ho : o.op = .call { callee := .builtin .append, args := #[s, x], argTypes := #[64, 64] }) (v y v' : Value) (hs : a.eval s = v) (hx : a.eval x = y)
    (hrun : (Builtin.append_ #[64, 64] o.type #[v, y]).run Try.prog w = .ok v' w') (h : wpList Try.prog ops Q rest (a.put o.dst v') w') : wpList Try.prog ops Q (o :: rest) a w := by
  refine wpList_plain hgd fun K' hK' => ?_
  unfold Oper.wp
  simp [execOp, ho, resolve, invoke, builtin, hs, hx, hrun, Result.andThen]
  exact hK' _ _ h
/-- A cell of it laid anew. -/
theorem OwnD.set {W w : World} {v : Value} {n : Nat} {xs : List Value} (h : OwnD W w v n xs) {g cap : Nat} (e : v = .slice (some ⟨g, 0, none⟩) n cap) (i : Nat) (hi : i < n * 2) (y : Value) (hy : y.oneCell' = true) : OwnD W (w.setCell ⟨g, i, none⟩ y) v n (xs.set i y) := by
  have hf : W.heap.size ≤ g := h.fresh g (by rw [e]; rfl)
  have h1 := h.owns.1
  rcases h.owns.2 with ⟨e', h0⟩ | ⟨g', cap', cur, e', hb, hg, q1, q2, q3, q4⟩
  · rw [h0] at hi; omega
  · rw [e] at e'
    simp only [Value.slice.injEq, Option.some.injEq, Addr.mk.injEq] at e'
    obtain ⟨⟨rfl, _, _⟩, _, rfl⟩ := e'
    refine ⟨⟨?_, .inr ⟨g, cap, cur.setIfInBounds i y, e, hb, by rw [heap_setCell_same _ _ _ _ hg], q1, q2, ?_, ?_⟩⟩, h.touch.setCell _ _ (fun hk => absurd hk (Nat.not_lt.2 hf)), h.fresh⟩
    · rw [List.length_set]; exact h1
    · simpa using q3
    · rw [Array.toList_setIfInBounds, ← q4, List.take_set]
theorem OwnD.free {W w : World} {v : Value} {n : Nat} {xs : List Value} (h : OwnD W w v n xs) {g cap : Nat} (e : v = .slice (some ⟨g, 0, none⟩) n cap) (hn : 0 < n) (i : Nat) : w.frozen? ⟨g, i, none⟩ = false := by
  rcases h.owns.2 with ⟨e', h0⟩ | ⟨g', cap', cur, e', hb, hg, q1, q2, q3, q4⟩
  · omega
  · rw [e] at e'
    simp only [Value.slice.injEq, Option.some.injEq, Addr.mk.injEq] at e'
    obtain ⟨⟨rfl, _, _⟩, _, rfl⟩ := e'
    exact free_of_block hg
theorem OwnD.shape {W w : World} {v : Value} {n : Nat} {xs : List Value} (h : OwnD W w v n xs) : ∃ ao cap, v = .slice ao n cap ∧ (0 < n → ∃ g, ao = some ⟨g, 0, none⟩) ∧ n ≤ cap ∧ cap ≤ 9223372036854775807 := by
  rcases h.owns.2 with ⟨e, h0⟩ | ⟨g, cap, cur, e, hb, hg, q1, q2, q3, q4⟩
  · exact ⟨none, 0, by rw [e, h0], fun h => by omega, by omega, by omega⟩
  · exact ⟨_, cap, e, fun _ => ⟨g, rfl⟩, q1, q2⟩
end Go.Proofs.Ytegldlfbmaapiaa

/- quirelaw12.grown: the sets that it makes, as mathematics. -/
namespace Go.Proofs.Ytegldlfbmaapiaa
open Go.RowKit Go.Maps
set_option linter.unusedVariables false
set_option linter.unusedSimpArgs false
set_option maxRecDepth 100000

abbrev abcB : ByteArray := ByteArray.mk #[97, 98, 99]
def keyL (lo : Nat) : ByteArray := abcB.extract lo (lo + 1)
theorem keyL_short : ∀ lo, lo < 3 → (keyL lo).size = 1 ∧ (qL (keyL lo)).length ≤ 8 := by
  have : ∀ lo : Fin 3, (keyL lo.1).size = 1 ∧ (qL (keyL lo.1)).length ≤ 8 := by decide +kernel
  exact fun lo h => this ⟨lo, h⟩
theorem intL_short : ∀ i : Nat, i < 40 → (textL ⟨2, (i : Int), 0, ⟨#[]⟩⟩).length ≤ 20 := by
  have : ∀ i : Fin 40, (textL ⟨2, ((i.1 : Nat) : Int), 0, ⟨#[]⟩⟩).length ≤ 20 := by decide +kernel
  exact fun i h => this ⟨i, h⟩
/-- The value that the i-th set lays. -/
def GV (i : Nat) (v : V) : Prop := v = ⟨2, (i : Int), 0, ⟨#[]⟩⟩ ∨ v = ⟨5, 0, 0, ⟨#[]⟩⟩ ∨ v = ⟨0, 0, 0, ⟨#[]⟩⟩
def withC (o : O) (cl : Int) : O := { o with c := cl }
structure GOne (i : Nat) (o : O) : Prop where
  fits : o.fits
  kind : o.kind = 4
  k : o.k = ((i + 1 : Nat) : Int)
  nc : numOk o.c = true
  nk : numOk o.k = true
  ky : o.ky.size = 1
  short : ShortO o
theorem refBits_zero : refBits 0 = 0 := by decide
theorem gfit {k n : Int} (h1 : 0 ≤ k ∧ k ≤ 5) (h2 : 0 ≤ n ∧ n < 100) : V.fits ⟨k, n, refBits 0, ⟨#[]⟩⟩ := by
  rw [refBits_zero]
  constructor <;> first | (show (_ : Nat) ≤ _; exact Nat.zero_le _) | (simp only; omega) | decide
theorem GV.taken {i : Nat} {v : V} (h : GV i v) (hi : i < 40) : V.taken ⟨v.k, v.n, refBits v.f, v.s⟩ ∧ (textL ⟨v.k, v.n, refBits v.f, v.s⟩).length ≤ 20 ∧ v.s.size = 0 := by
  rcases h with rfl | rfl | rfl
  · refine ⟨⟨gfit (by simp only; omega) (by simp only; omega), by simp, by simp, by simp, by simp [refBits_zero], by simp⟩, ?_, rfl⟩
    simp only [refBits_zero]
    exact intL_short i hi
  · refine ⟨⟨gfit (by simp only; omega) (by simp only; omega), by simp, by simp, by simp, by simp [refBits_zero], by simp⟩, ?_, rfl⟩
    simp only [refBits_zero]
    decide
  · refine ⟨⟨gfit (by simp only; omega) (by simp only; omega), by simp, by simp, by simp, by simp [refBits_zero], by simp⟩, ?_, rfl⟩
    simp only [refBits_zero]
    decide
theorem gone_of {i lo : Nat} {st pc pk cl : Int} {v : V} (hi : i < 40) (hlo : lo < 3) (hst : 1 ≤ st ∧ st ≤ 5) (hcl : 1 ≤ cl ∧ cl ≤ 3) (hpc : U64 pc) (hpk : U64 pk) (hv : GV i v) : GOne i (withC (setO ((i + 1 : Nat) : Int) st pc pk (keyL lo) v) cl) := by
  have hk := keyL_short lo hlo
  obtain ⟨t1, t2, t3⟩ := hv.taken hi
  have hvf : v.f = 0 := by rcases hv with rfl | rfl | rfl <;> rfl
  have hvk : 0 ≤ v.k ∧ v.k ≤ 5 := by rcases hv with rfl | rfl | rfl <;> simp only <;> omega
  have hvn : 0 ≤ v.n ∧ v.n < 40 := by
    rcases hv with rfl | rfl | rfl
    · simp only; omega
    · simp only; omega
    · simp only; omega
  obtain ⟨p0, p1⟩ := hpc
  obtain ⟨p2, p3⟩ := hpk
  have hf0 : (setO ((i + 1 : Nat) : Int) st pc pk (keyL lo) v).fits := setO_fits (by omega) (by omega) (by omega) (by omega) (by omega) (by omega) (by omega)
  refine ⟨⟨(show 0 ≤ cl ∧ cl < 18446744073709551616 by omega), hf0.k0, hf0.kind, hf0.st, hf0.lc, hf0.lk, hf0.rc, hf0.rk, hf0.pc, hf0.pk, hf0.fc, hf0.fk, hf0.tc, hf0.tk, hf0.vk, hf0.vn, hf0.vf⟩, rfl, rfl, ?_, ?_, hk.1, t1, ?_, ?_, ?_⟩
  · exact numOk_iff.2 (show 1 ≤ cl ∧ cl ≤ 9007199254740991 by omega)
  · exact numOk_iff.2 (show 1 ≤ ((i + 1 : Nat) : Int) ∧ ((i + 1 : Nat) : Int) ≤ 9007199254740991 by omega)
  · show v.s.size ≤ _; omega
  · show (keyL lo).size ≤ _; omega
  · show (qL (keyL lo)).length + _ ≤ _
    have t4 : (textL (cleanO (withC (setO ((i + 1 : Nat) : Int) st pc pk (keyL lo) v) cl)).v).length ≤ 20 := t2
    omega
/-- Sets that can come one after the other. -/
def GrOk (G : List O) : Prop := (∀ i (h : i < G.length), GOne i G[i]) ∧ Chain G
/-- The maps that there are. -/
def InOk (G : List O) (I : List Ip) : Prop := ∀ p ∈ I, (p.c = 0 ∧ p.k = 0) ∨ ∃ x ∈ G, isMapB x = true ∧ x.c = p.c ∧ x.k = p.k
theorem GrOk.nil : GrOk [] := ⟨fun i h => by simp at h, Chain.nil⟩
theorem GrOk.snoc {G : List O} {o : O} (h : GrOk G) (ho : GOne G.length o) (hp : (o.pc = 0 ∧ o.pk = 0) ∨ ∃ x ∈ G, isMapB x = true ∧ x.c = o.pc ∧ x.k = o.pk) : GrOk (G ++ [o]) := by
  refine ⟨fun i hi => ?_, h.2.snoc hp⟩
  by_cases hl : i < G.length
  · rw [List.getElem_append_left hl]; exact h.1 i hl
  · have : i = G.length := by simp at hi; omega
    subst this
    rw [List.getElem_append_right (Nat.le_refl _)]
    simpa using ho
theorem InOk.more {G : List O} {I : List Ip} (h : InOk G I) (o : O) : InOk (G ++ [o]) I := fun p hp => by
  rcases h p hp with e | ⟨x, hx, e⟩
  · exact .inl e
  · exact .inr ⟨x, by simp [hx], e⟩
theorem InOk.snoc {G : List O} {I : List Ip} (h : InOk G I) {o : O} (hm : isMapB o = true) : InOk (G ++ [o]) (I ++ [⟨o.c, o.k⟩]) := fun p hp => by
  rcases List.mem_append.1 hp with hp | hp
  · exact h.more o p hp
  · rw [List.mem_singleton] at hp
    subst hp
    exact .inr ⟨o, by simp, hm, rfl, rfl⟩
theorem GrOk.fitsIn {G : List O} {I : List Ip} (h : GrOk G) (hI : InOk G I) {p : Ip} (hp : p ∈ I) : U64 p.c ∧ U64 p.k := by
  rcases hI p hp with ⟨e1, e2⟩ | ⟨x, hx, _, e1, e2⟩
  · rw [e1, e2]; exact ⟨u64_zero, u64_zero⟩
  · obtain ⟨i, hi, rfl⟩ := List.mem_iff_getElem.1 hx
    have := (h.1 i hi).fits
    rw [← e1, ← e2]; exact ⟨this.uc, this.uk⟩
/-- A slice of one id. -/
theorem NewD.lit1 (W w : World) (t : Touch (fun _ => False) W w) (r : Ip) : NewD W (w.alloc (ipO r)) (.slice (some ⟨w.heap.size, 0, none⟩) 1 1) [r] :=
  ⟨World.ownsRow_lit w #[.int .u64 r.c, .int .u64 r.k] 1 (Nat.zero_le _) (by decide) rfl, t.alloc _, fun k hk => by
    simp only [Value.ownBlock, Option.some.injEq] at hk
    subst hk
    exact t.size⟩
theorem run_build1O (o : O) (W : World) : (Instr.buildSlice 26 1 #[(0, o.val)]).run Try.prog W = .ok (.slice (some ⟨W.heap.size, 0, none⟩) 1 1) (W.alloc (opO o)) := by kernel_rfl
theorem run_build1D (c k : Int) (W : World) : (Instr.buildSlice 64 1 #[(0, .agg #[.int .u64 c, .int .u64 k])]).run Try.prog W = .ok (.slice (some ⟨W.heap.size, 0, none⟩) 1 1) (W.alloc (ipO ⟨c, k⟩)) := by kernel_rfl
/-- A map more, beside the sets. -/
theorem two_inD {w wr W6 : World} {v3 v4 : Value} {G : List O} {I : List Ip} (h3 : NewP w wr v3 G) (h4 : NewD w wr v4 I) (sep : ∀ k, v3.ownBlock = some k → v4.ownBlock ≠ some k) (t : Touch (fun _ => False) wr W6) (r : Ip) (hl : I.length ≤ 1000) :
    ∃ v' w', (Builtin.append_ #[64, 64] 64 #[v4, .slice (some ⟨W6.heap.size, 0, none⟩) 1 1]).run Try.prog (W6.alloc (ipO r)) = .ok v' w' ∧ NewP w w' v3 G ∧ NewD w w' v' (I ++ [r]) ∧ (∀ k, v3.ownBlock = some k → v'.ownBlock ≠ some k) ∧ ∀ Y, wr.heap.size ≤ Y → Y < W6.heap.size → w'.heap[Y]? = W6.heap[Y]? := by
  have h4' := h4.on (t.trans ((Touch.refl _ W6).alloc (ipO r)))
  obtain ⟨v', w', hr, ho, hg, hb⟩ := run_appendD (W6.alloc (ipO r)) v4 I h4'.owns (some ⟨W6.heap.size, 0, none⟩) 1 1 [r] rfl (fun h => by cases h) (LiesD.new W6 r) (by simp; omega)
  have h4t := h4.owns.lt
  have h3t := h3.owns.lt
  have t6 : Touch (fun i => v4.ownBlock = some i) W6 w' := (((Touch.refl (fun _ => False) W6).alloc (ipO r)).mono fun _ _ q => q.elim).grown hg fun i e _ => e
  have tr : Touch (fun i => v4.ownBlock = some i) wr w' := ((t.trans ((Touch.refl _ W6).alloc (ipO r))).mono fun _ _ q => q.elim).grown hg fun i e _ => e
  have tw : Touch (fun _ => False) w w' := h4.touch.then tr fun i hi e => absurd hi (Nat.not_lt.2 (h4.fresh i e))
  have hs : (W6.alloc (ipO r)).heap.size = W6.heap.size + 1 := by simp
  refine ⟨v', w', hr, ⟨ownP_touch h3.owns tr fun k hk e => sep k hk e, tw, h3.fresh⟩, ⟨ho, tw, fun k hk => ?_⟩, fun k hk e => ?_, fun Y h1 h2 => t6.block Y h2 fun e => ?_⟩
  · rcases hb with e | e
    · exact h4.fresh k (e ▸ hk)
    · rw [hk] at e; have := h4'.touch.size; have := Option.some.inj e; omega
  · rcases hb with e2 | e2
    · exact sep k hk (by rw [← e2]; exact e)
    · rw [e] at e2; have := h3t k hk; have := t.size; have := Option.some.inj e2; omega
  · have := (h4t Y e).2; omega
/-- A set more, beside the maps. -/
theorem two_outP {w wr : World} {v3 v4 : Value} {G : List O} {I : List Ip} (h3 : NewP w wr v3 G) (h4 : NewD w wr v4 I) (sep : ∀ k, v3.ownBlock = some k → v4.ownBlock ≠ some k) (r : O) (hl : G.length ≤ 1000) :
    ∃ v' w', (Builtin.append_ #[26, 26] 26 #[v3, .slice (some ⟨wr.heap.size, 0, none⟩) 1 1]).run Try.prog (wr.alloc (opO r)) = .ok v' w' ∧ NewP w w' v' (G ++ [r]) ∧ NewD w w' v4 I ∧ (∀ k, v'.ownBlock = some k → v4.ownBlock ≠ some k) := by
  have h3' := h3.on ((Touch.refl _ wr).alloc (opO r))
  obtain ⟨v', w', hr, ho, hg, hb⟩ := run_appendO (wr.alloc (opO r)) v3 G h3'.owns (some ⟨wr.heap.size, 0, none⟩) 1 1 [r] rfl (fun h => by cases h) (LiesP.new wr r) (by simp; omega)
  have h4t := h4.owns.lt
  have tr : Touch (fun i => v3.ownBlock = some i) wr w' := (((Touch.refl (fun _ => False) wr).alloc (opO r)).mono fun _ _ q => q.elim).grown hg fun i e _ => e
  have tw : Touch (fun _ => False) w w' := h3.touch.then tr fun i hi e => absurd hi (Nat.not_lt.2 (h3.fresh i e))
  have hs : (wr.alloc (opO r)).heap.size = wr.heap.size + 1 := by simp
  refine ⟨v', w', hr, ⟨ho, tw, fun k hk => ?_⟩, ⟨ownD_touch h4.owns tr fun k hk e => sep k e hk, tw, h4.fresh⟩, fun k hk e => ?_⟩
  · rcases hb with e | e
    · exact h3.fresh k (e ▸ hk)
    · rw [hk] at e; have := h3'.touch.size; have := Option.some.inj e; omega
  · rcases hb with e2 | e2
    · exact sep k (by rw [← e2]; exact hk) e
    · rw [hk] at e2; have := (h4t k e).2; have := Option.some.inj e2; omega
end Go.Proofs.Ytegldlfbmaapiaa

/- quirelaw12.MapsAnyOrder, as mathematics. -/
namespace Go.Proofs.Ytegldlfbmaapiaa
open Go.RowKit Go.Maps
set_option linter.unusedVariables false
set_option linter.unusedSimpArgs false
set_option maxRecDepth 100000

/-- What is laid, and what is left. -/
structure AnyInv (G LB LF : List O) : Prop where
  up : LF.Pairwise (fun a b => a.k < b.k)
  mem : ∀ o, o ∈ G ↔ o ∈ LB ∨ o ∈ LF
  ap : ∀ x ∈ LB, ∀ y ∈ LF, x.k ≠ y.k
  len : LB.length + LF.length = G.length
section
variable {G LB LF L : List O} {s : MS}
theorem GrOk.one (h : GrOk G) {o : O} (ho : o ∈ G) : o.fits ∧ o.kind = 4 ∧ numOk o.c = true ∧ numOk o.k = true ∧ o.ky.size = 1 ∧ ShortO o := by
  obtain ⟨i, hi, rfl⟩ := List.mem_iff_getElem.1 ho
  have := h.1 i hi
  exact ⟨this.fits, this.kind, this.nc, this.nk, this.ky, this.short⟩
theorem AnyInv.start (h : GrOk G) : AnyInv G [] G := by
  refine ⟨List.pairwise_iff_getElem.2 fun i j hi hj hij => ?_, fun o => by simp, (fun x hx => by cases hx), by simp⟩
  rw [(h.1 i hi).k, (h.1 j hj).k]; omega
theorem okS_of (h : GrOk G) {o : O} (ho : o ∈ G) (hH : Has s LB) (hp : isS s o.pc o.pk = true) (hn : ∀ x ∈ LB, x.k ≠ o.k) : okS s o = true := by
  obtain ⟨f, h1, h2, h3, -, -⟩ := h.one ho
  exact ok_of hH f h1 h2 h3 ((hH.maps _ _ f.upc f.upk).1 hp) fun x hx e => hn x hx e.2
theorem AnyInv.first (hG : GrOk G) (h : AnyInv G LB LF) (hH : Has s LB) (h0 : 0 < LF.length) : isS s LF[0].pc LF[0].pk = true := by
  have hm : LF[0] ∈ G := (h.mem _).2 (.inr (List.getElem_mem _))
  obtain ⟨i, hi, e⟩ := List.mem_iff_getElem.1 hm
  have hf := (hG.one hm).1
  refine (hH.maps _ _ hf.upc hf.upk).2 ?_
  rcases hG.2 i hi with q | ⟨j, hj, q⟩
  · rw [e] at q; exact .inl q
  · rw [e] at q
    refine .inr ⟨G[j]'(by omega), ?_, q⟩
    rcases (h.mem _).1 (List.getElem_mem (l := G) (n := j) (by omega)) with e2 | e2
    · exact e2
    · obtain ⟨m, hm2, e3⟩ := List.mem_iff_getElem.1 e2
      have k1 := (hG.1 j (by omega)).k
      have k2 := (hG.1 i hi).k
      rw [e] at k2
      rw [← e3] at k1
      by_cases hm0 : m = 0
      · subst hm0; omega
      · have := List.pairwise_iff_getElem.1 h.up 0 m h0 hm2 (by omega)
        omega
theorem AnyInv.ok (hG : GrOk G) (h : AnyInv G LB LF) (hH : Has s LB) {j : Nat} (hj : j < LF.length) (hp : isS s LF[j].pc LF[j].pk = true) : okS s LF[j] = true :=
  okS_of hG ((h.mem _).2 (.inr (List.getElem_mem _))) hH hp fun x hx => h.ap x hx _ (List.getElem_mem _)
theorem AnyInv.step (h : AnyInv G LB LF) {j : Nat} (hj : j < LF.length) : AnyInv G (LB ++ [LF[j]]) (LF.take j ++ LF.drop (j + 1)) := by
  have e : LF = LF.take j ++ LF[j] :: LF.drop (j + 1) := by
    rw [← List.drop_eq_getElem_cons hj, List.take_append_drop]
  have hup := h.up
  rw [e] at hup
  obtain ⟨u1, u2, u3⟩ := List.pairwise_append.1 hup
  obtain ⟨u4, u5⟩ := List.pairwise_cons.1 u2
  refine ⟨List.pairwise_append.2 ⟨u1, u5, fun a ha b hb => u3 a ha b (List.mem_cons_of_mem _ hb)⟩, fun o => ?_, fun x hx y hy => ?_, ?_⟩
  · rw [h.mem]
    conv => lhs; rw [e]
    simp only [List.mem_append, List.mem_cons, List.mem_singleton, List.not_mem_nil, or_false]
    constructor
    · rintro (q | q | q | q)
      · exact .inl (.inl q)
      · exact .inr (.inl q)
      · exact .inl (.inr q)
      · exact .inr (.inr q)
    · rintro ((q | q) | q | q)
      · exact .inl q
      · exact .inr (.inr (.inl q))
      · exact .inr (.inl q)
      · exact .inr (.inr (.inr q))
  · have hy2 : y ∈ LF := by
      rcases List.mem_append.1 hy with q | q
      · exact List.mem_of_mem_take q
      · exact List.mem_of_mem_drop q
    rcases List.mem_append.1 hx with q | q
    · exact h.ap x q y hy2
    · rw [List.mem_singleton] at q
      subst q
      rcases List.mem_append.1 hy with q | q
      · have := u3 y q _ (List.mem_cons_self ..); omega
      · have := u4 y q; omega
  · have := h.len
    simp only [List.length_append, List.length_take, List.length_drop, List.length_cons, List.length_nil]
    omega
theorem GrOk.okA (hG : GrOk G) {i : Nat} (hi : i < G.length) (hH : Has s (G.take i)) : okS s G[i] = true := by
  have hf := (hG.1 i hi).fits
  refine okS_of hG (List.getElem_mem _) hH ((hH.maps _ _ hf.upc hf.upk).2 ?_) fun x hx e => ?_
  · rcases hG.2 i hi with q | ⟨j, hj, q⟩
    · exact .inl q
    · refine .inr ⟨G[j]'(by omega), ?_, q⟩
      exact List.mem_iff_getElem.2 ⟨j, by simp; omega, by simp⟩
  · obtain ⟨j, hj, rfl⟩ := List.mem_iff_getElem.1 hx
    simp only [List.length_take] at hj
    rw [List.getElem_take, (hG.1 j (by omega)).k, (hG.1 i hi).k] at e
    omega
/-- Its text is not too long. -/
theorem txt_of (h : Has s L) (hC : Chain L) (hA : Apart L) (hS : ∀ o ∈ L, ShortO o) (hl : L.length ≤ 40) : OkEs (L.length + 1) (viewE s (L.length + 1) 0 0) ∧ (etsT 0 (viewE s (L.length + 1) 0 0)).length ≤ 1000000000000000 := by
  refine ⟨view_ok h hS _ _ _ u64_zero u64_zero, ?_⟩
  have h1 := view_len h hC hA hS (L.length + 1) (L.length + 1) 0 0 0 L.length u64_zero u64_zero (by omega) (.inl ⟨rfl, rfl, rfl⟩)
  have h2 : 2 ^ L.length ≤ 2 ^ 40 := Nat.pow_le_pow_right (by decide) hl
  have h3 : (2 * (L.length + 1) + 70) * 2 ^ L.length ≤ 152 * 2 ^ 40 := Nat.mul_le_mul (by omega) h2
  have h4 : 152 * 2 ^ 40 ≤ 1000000000000000 := by decide
  omega
theorem lv_parts {w0 w : World} {K : Nat → Prop} {g : Nat} (h : Lv w0 K w g s L) : Has s L ∧ Chain L ∧ Apart L := by
  obtain ⟨F, h⟩ := h
  exact ⟨h.has, h.chain, h.apart⟩
end
end Go.Proofs.Ytegldlfbmaapiaa

/- quirelaw12.MapsNested, as mathematics. -/
namespace Go.Proofs.Ytegldlfbmaapiaa
open Go.RowKit Go.Maps
set_option linter.unusedVariables false
set_option linter.unusedSimpArgs false
set_option maxRecDepth 100000

abbrev intV (i : Int) : V := ⟨2, i, 0, ⟨#[]⟩⟩
/-- The i-th map of the chain, the set that wins over the first one, the sets in the last one. -/
def chO (i : Nat) : O := setO ((100 + i : Nat) : Int) 7 (if i = 0 then 0 else 1) (if i = 0 then 0 else ((99 + i : Nat) : Int)) kM mapV
def cvO : O := setO 50 8 0 0 kM (intV 3)
def lfO (pc pk z : Int) (i : Nat) : O := setO ((200 + i : Nat) : Int) (z % 8 + 1) pc pk (keyL (z % 3).toNat) (intV (i : Int))
/-- What a Maps of them holds. -/
structure NestL (D m : Nat) (cv : Bool) (zs : List Int) (L : List O) : Prop where
  mem : ∀ o, o ∈ L ↔ (∃ i, i < D ∧ o = chO i) ∨ (cv = true ∧ o = cvO) ∨ (∃ j, j < m ∧ o = lfO 1 ((99 + D : Nat) : Int) (zs.getD j 0) j)
def pC (i : Nat) : Int := if i = 0 then 0 else 1
def pK (i : Nat) : Int := if i = 0 then 0 else ((99 + i : Nat) : Int)
theorem u64_p (i : Nat) (hi : i ≤ 1000) : U64 (pC i) ∧ U64 (pK i) := by
  unfold pC pK U64
  split <;> omega
theorem keyL_ne : ∀ lo, lo < 3 → keyL lo ≠ kM := by
  intro lo h e
  have : ∀ lo : Fin 3, (keyL lo.1).data.toList ≠ [109] := by decide +kernel
  exact this ⟨lo, h⟩ (by rw [e])
section
variable {D m n : Nat} {cv : Bool} {zs : List Int} {L L' : List O} {s s' : MS}
theorem lf_key (z : Int) : (z % 3).toNat < 3 := by omega
/-- At a level of the chain there is its map, at the first one also the one that wins. -/
theorem nest_at (hN : NestL D m cv zs L) {i : Nat} (hi : i < D) {o : O} (ho : o ∈ L) (ha : AtKey s (pC i) (pK i) kM o) : o = chO i ∨ (i = 0 ∧ cv = true ∧ o = cvO) := by
  obtain ⟨a1, a2, a3, -⟩ := ha
  rcases (hN.mem o).1 ho with ⟨j, hj, rfl⟩ | ⟨hc, rfl⟩ | ⟨j, hj, rfl⟩
  · refine .inl ?_
    have e1 : (if j = 0 then (0 : Int) else ((99 + j : Nat) : Int)) = pK i := a2
    unfold pK at e1
    have : j = i := by
      by_cases h1 : j = 0
      · by_cases h2 : i = 0
        · omega
        · rw [if_pos h1, if_neg h2] at e1; omega
      · by_cases h2 : i = 0
        · rw [if_neg h1, if_pos h2] at e1; omega
        · rw [if_neg h1, if_neg h2] at e1; omega
    rw [this]
  · refine .inr ⟨?_, hc, rfl⟩
    have e1 : (0 : Int) = pC i := a1
    unfold pC at e1
    by_cases h2 : i = 0
    · exact h2
    · rw [if_neg h2] at e1; omega
  · exact absurd a3 (keyL_ne _ (lf_key _))
theorem nest_lvl (h : Has s L) (hN : NestL D m cv zs L) {i : Nat} (hD : D ≤ 100) (hi : i < D) (hs : shS s 1 ((100 + i : Nat) : Int) = true) (hc : i = 0 → cv = true → shS s 1 50 = false) : getS s (pC i) (pK i) kM = (cleanO (chO i), true) := by
  have hu := u64_p i (by omega)
  have hm : chO i ∈ L := (hN.mem _).2 (.inl ⟨i, hi, rfl⟩)
  rw [get_eq (ky := kM) h hu.1 hu.2 hm ⟨rfl, rfl, rfl, hs⟩ fun o ho ha => ?_]
  · rw [if_pos (by show (5 : Int) ≠ 0; decide)]
  · rcases nest_at hN hi ho ha with e | ⟨e1, e2, rfl⟩
    · exact .inl e
    · have := ha.2.2.2
      rw [show shS s cvO.c cvO.k = shS s 1 50 from rfl, hc e1 e2] at this
      cases this
theorem nest_cov (h : Has s L) (hN : NestL D m true zs L) (hD : 0 < D) (hs : shS s 1 50 = true) : getS s 0 0 kM = (cleanO cvO, true) := by
  have hm : cvO ∈ L := (hN.mem _).2 (.inr (.inl ⟨rfl, rfl⟩))
  rw [get_eq (ky := kM) h u64_zero u64_zero hm ⟨rfl, rfl, rfl, hs⟩ fun o ho ha => ?_]
  · rw [if_pos (by show (2 : Int) ≠ 0; decide)]
  · rcases nest_at (s := s) hN hD (i := 0) ho ha with e | ⟨_, _, e⟩
    · right; rw [e]; exact lessM_iff.2 (.inl (by show (7 : Int) < 8; decide))
    · exact .inl e
theorem nest_keys (h : Has s L) (hN : NestL D m cv zs L) (hD : D ≤ 100) {i : Nat} (hi : i < D) : keysS s (pC i) (pK i) = [[109]] := by
  have hu := u64_p i (by omega)
  refine keys_eq h hu.1 hu.2 (List.pairwise_singleton _ _) fun ky => ?_
  constructor
  · intro hk
    rw [List.mem_singleton] at hk
    subst hk
    exact ⟨chO i, (hN.mem _).2 (.inl ⟨i, hi, rfl⟩), rfl, rfl, rfl⟩
  · rintro ⟨o, ho, e1, e2, e3⟩
    rcases (hN.mem o).1 ho with ⟨j, hj, rfl⟩ | ⟨hc, rfl⟩ | ⟨j, hj, rfl⟩
    · rw [← e3]; simp [chO, setO, kM]
    · rw [← e3]; simp [cvO, setO, kM]
    · have e4 : ((99 + D : Nat) : Int) = pK i := e2
      unfold pK at e4
      by_cases h2 : i = 0
      · rw [if_pos h2] at e4; omega
      · rw [if_neg h2] at e4; omega
theorem view_lvl (h : Has s L) (hN : NestL D m cv zs L) {i : Nat} (hD : D ≤ 100) (hi : i < D) (hs : shS s 1 ((100 + i : Nat) : Int) = true) (hc : i = 0 → cv = true → shS s 1 50 = false) : viewE s (n + 1) (pC i) (pK i) = [.mk kM mapV (viewE s n (pC (i + 1)) (pK (i + 1)))] := by
  rw [viewE_succ, nest_keys h hN hD hi]
  simp only [List.filterMap_cons, List.filterMap_nil]
  rw [show strK [109] = kM from rfl, nest_lvl h hN hD hi hs hc]
  have e1 : pC (i + 1) = 1 := by unfold pC; rw [if_neg (by omega)]
  have e2 : pK (i + 1) = ((100 + i : Nat) : Int) := by unfold pK; rw [if_neg (by omega)]; omega
  rw [e1, e2]
  rfl
theorem view_cov (h : Has s L) (hN : NestL D m true zs L) (hD : 0 < D) (hD2 : D ≤ 100) (hs : shS s 1 50 = true) : viewE s (n + 1) 0 0 = [.mk kM (intV 3) []] := by
  have hk : keysS s 0 0 = [[109]] := nest_keys h hN hD2 (i := 0) hD
  rw [viewE_succ, hk]
  simp only [List.filterMap_cons, List.filterMap_nil]
  rw [show strK [109] = kM from rfl, nest_cov h hN hD hs]
  rfl
theorem cov_text : etsT 0 [.mk kM (intV 3) []] = [109, 32, 34, 109, 34, 61, 51, 10] := by decide +kernel
theorem find_chain (h : Has s L) (hN : NestL D m cv zs L) (hD : D ≤ 100) (hs : ∀ i, i < D → shS s 1 ((100 + i : Nat) : Int) = true) (hc : cv = true → shS s 1 50 = false) : ∀ (r i : Nat), i + r = D → findS s (pC i) (pK i) (List.replicate r [109]) = (pC D, pK D, true)
  | 0, i, e => by
    have : i = D := by omega
    subst this; rfl
  | r + 1, i, e => by
    rw [List.replicate_succ]
    unfold findS
    rw [show strK [109] = kM from rfl, nest_lvl h hN hD (by omega) (hs i (by omega)) (fun _ => hc), if_pos ⟨rfl, rfl⟩]
    have e1 : pC (i + 1) = 1 := by unfold pC; rw [if_neg (by omega)]
    have e2 : pK (i + 1) = ((100 + i : Nat) : Int) := by unfold pK; rw [if_neg (by omega)]; omega
    have := find_chain h hN hD hs hc r (i + 1) (by omega)
    rw [e1, e2] at this
    exact this
theorem find_cov (h : Has s L) (hN : NestL D m true zs L) (hD : 0 < D) (hs : shS s 1 50 = true) : findS s 0 0 (List.replicate D [109]) = (0, 0, false) := by
  obtain ⟨r, rfl⟩ : ∃ r, D = r + 1 := ⟨D - 1, by omega⟩
  rw [List.replicate_succ]
  unfold findS
  rw [show strK [109] = kM from rfl, nest_cov h hN hD hs, if_neg (by rintro ⟨_, q⟩; cases q)]
/-- What is in the last map is what a Maps of the same sets in the root shows. -/
theorem leaf_get (h : Has s L) (hN : NestL D m cv zs L) (hD : 0 < D) (hD2 : D ≤ 100) (h' : Has s' L') (hm' : ∀ o, o ∈ L' ↔ ∃ j, j < m ∧ o = lfO 0 0 (zs.getD j 0) j) (hs : ∀ j, j < m → shS s 1 ((200 + j : Nat) : Int) = true) (hs' : ∀ j, j < m → shS s' 1 ((200 + j : Nat) : Int) = true) (ky : Key) (f g : Int → Int → List Et) :
    entE f (getS s 1 ((99 + D : Nat) : Int) (strK ky)) ky = entE g (getS s' 0 0 (strK ky)) ky := by
  have hu : U64 ((99 + D : Nat) : Int) := by unfold U64; omega
  have hu1 : U64 1 := by unfold U64; decide
  have hat : ∀ j, j < m → (AtKey s 1 ((99 + D : Nat) : Int) (strK ky) (lfO 1 ((99 + D : Nat) : Int) (zs.getD j 0) j) ↔ AtKey s' 0 0 (strK ky) (lfO 0 0 (zs.getD j 0) j)) := fun j hj =>
    ⟨fun q => ⟨rfl, rfl, q.2.2.1, hs' j hj⟩, fun q => ⟨rfl, rfl, q.2.2.1, hs j hj⟩⟩
  have hleaf : ∀ o ∈ L, AtKey s 1 ((99 + D : Nat) : Int) (strK ky) o → ∃ j, j < m ∧ o = lfO 1 ((99 + D : Nat) : Int) (zs.getD j 0) j := fun o ho ha => by
    rcases (hN.mem o).1 ho with ⟨j, hj, rfl⟩ | ⟨hc, rfl⟩ | q
    · have e1 : (if j = 0 then (0 : Int) else ((99 + j : Nat) : Int)) = ((99 + D : Nat) : Int) := ha.2.1
      split at e1 <;> omega
    · have e1 : (0 : Int) = 1 := ha.1
      omega
    · exact q
  rcases get_is h hu1 hu (strK ky) with ⟨hn, e⟩ | ⟨b, hb, ha, hg, e⟩
  · rw [e, get_none h' u64_zero u64_zero fun o ho q => ?_]
    · rfl
    · obtain ⟨j, hj, rfl⟩ := (hm' o).1 ho
      exact hn _ ((hN.mem _).2 (.inr (.inr ⟨j, hj, rfl⟩))) ((hat j hj).2 q)
  · obtain ⟨j, hj, rfl⟩ := hleaf b hb ha
    have hb' : lfO 0 0 (zs.getD j 0) j ∈ L' := (hm' _).2 ⟨j, hj, rfl⟩
    rw [e, get_eq h' u64_zero u64_zero hb' ((hat j hj).1 ha) fun o ho q => ?_]
    · rw [if_pos (by show (2 : Int) ≠ 0; decide), if_pos (by show (2 : Int) ≠ 0; decide)]
      rfl
    · obtain ⟨j', hj', rfl⟩ := (hm' o).1 ho
      have h1 := hg _ ((hN.mem _).2 (.inr (.inr ⟨j', hj', rfl⟩))) ((hat j' hj').2 q)
      by_cases e : j' = j
      · subst e; exact .inl rfl
      · refine .inr (lessM_iff.2 ?_)
        rw [lessM_not] at h1
        have h1 : ¬ (zs.getD j 0 % 8 + 1 < zs.getD j' 0 % 8 + 1 ∨ (zs.getD j 0 % 8 + 1 = zs.getD j' 0 % 8 + 1 ∧ ((1 : Int) < 1 ∨ ((1 : Int) = 1 ∧ ((200 + j : Nat) : Int) < ((200 + j' : Nat) : Int))))) := h1
        show zs.getD j' 0 % 8 + 1 < zs.getD j 0 % 8 + 1 ∨ (zs.getD j' 0 % 8 + 1 = zs.getD j 0 % 8 + 1 ∧ ((1 : Int) < 1 ∨ ((1 : Int) = 1 ∧ ((200 + j' : Nat) : Int) < ((200 + j : Nat) : Int))))
        omega
theorem leaf_view (h : Has s L) (hN : NestL D m cv zs L) (hD : 0 < D) (hD2 : D ≤ 100) (h' : Has s' L') (hm' : ∀ o, o ∈ L' ↔ ∃ j, j < m ∧ o = lfO 0 0 (zs.getD j 0) j) (hs : ∀ j, j < m → shS s 1 ((200 + j : Nat) : Int) = true) (hs' : ∀ j, j < m → shS s' 1 ((200 + j : Nat) : Int) = true) (n n' : Nat) :
    viewE s (n + 1) (pC D) (pK D) = viewE s' (n' + 1) 0 0 := by
  have e1 : pC D = 1 := by unfold pC; rw [if_neg (by omega)]
  have e2 : pK D = ((99 + D : Nat) : Int) := by unfold pK; rw [if_neg (by omega)]
  have hu : U64 ((99 + D : Nat) : Int) := by unfold U64; omega
  have hu1 : U64 1 := by unfold U64; decide
  have hk : keysS s 1 ((99 + D : Nat) : Int) = keysS s' 0 0 := by
    refine keys_eq h hu1 hu (h'.keys 0 0 u64_zero u64_zero).1 fun ky => ?_
    rw [(h'.keys 0 0 u64_zero u64_zero).2]
    constructor
    · rintro ⟨o, ho, q1, q2, q3⟩
      obtain ⟨j, hj, rfl⟩ := (hm' o).1 ho
      exact ⟨_, (hN.mem _).2 (.inr (.inr ⟨j, hj, rfl⟩)), rfl, rfl, q3⟩
    · rintro ⟨o, ho, q1, q2, q3⟩
      rcases (hN.mem o).1 ho with ⟨j, hj, rfl⟩ | ⟨hc, rfl⟩ | ⟨j, hj, rfl⟩
      · have e1 : (if j = 0 then (0 : Int) else ((99 + j : Nat) : Int)) = ((99 + D : Nat) : Int) := q2
        split at e1 <;> omega
      · have e1 : (0 : Int) = 1 := q1
        omega
      · exact ⟨_, (hm' _).2 ⟨j, hj, rfl⟩, rfl, rfl, q3⟩
  rw [e1, e2, viewE_succ, viewE_succ, hk]
  exact filterMap_same fun ky _ => leaf_get h hN hD hD2 h' hm' hs hs' ky _ _
end
end Go.Proofs.Ytegldlfbmaapiaa

/- quirelaw12.MapsNested: that each set is taken, and told. -/
namespace Go.Proofs.Ytegldlfbmaapiaa
open Go.RowKit Go.Maps
set_option linter.unusedVariables false
set_option linter.unusedSimpArgs false
set_option maxRecDepth 100000

def chL (i : Nat) : List O := (List.range i).map chO
def lfP (pc pk : Int) (zs : List Int) (m : Nat) : List O := (List.range m).map fun j => lfO pc pk (zs.getD j 0) j
theorem chL_succ (i : Nat) : chL (i + 1) = chL i ++ [chO i] := by unfold chL; rw [List.range_succ, List.map_append]; rfl
theorem lfP_succ (pc pk : Int) (zs : List Int) (m : Nat) : lfP pc pk zs (m + 1) = lfP pc pk zs m ++ [lfO pc pk (zs.getD m 0) m] := by unfold lfP; rw [List.range_succ, List.map_append]; rfl
theorem mem_chL {i : Nat} {o : O} : o ∈ chL i ↔ ∃ j, j < i ∧ o = chO j := by
  unfold chL
  simp only [List.mem_map, List.mem_range]
  exact ⟨fun ⟨j, h, e⟩ => ⟨j, h, e.symm⟩, fun ⟨j, h, e⟩ => ⟨j, h, e.symm⟩⟩
theorem mem_lfP {pc pk : Int} {zs : List Int} {m : Nat} {o : O} : o ∈ lfP pc pk zs m ↔ ∃ j, j < m ∧ o = lfO pc pk (zs.getD j 0) j := by
  unfold lfP
  simp only [List.mem_map, List.mem_range]
  exact ⟨fun ⟨j, h, e⟩ => ⟨j, h, e.symm⟩, fun ⟨j, h, e⟩ => ⟨j, h, e.symm⟩⟩
theorem chL_len (i : Nat) : (chL i).length = i := by unfold chL; simp
theorem lfP_len (pc pk : Int) (zs : List Int) (m : Nat) : (lfP pc pk zs m).length = m := by unfold lfP; simp
theorem nest_one (D : Nat) (zs : List Int) : NestL D 0 false zs (chL D) := ⟨fun o => by
  rw [mem_chL]
  constructor
  · exact .inl
  · rintro (e | ⟨e, _⟩ | ⟨j, hj, _⟩)
    · exact e
    · cases e
    · omega⟩
theorem nest_two (D m : Nat) (zs : List Int) : NestL D m true zs (chL D ++ [cvO] ++ lfP 1 ((99 + D : Nat) : Int) zs m) := ⟨fun o => by
  simp only [List.mem_append, List.mem_singleton, mem_chL, mem_lfP]
  constructor
  · rintro ((e | e) | e)
    · exact .inl e
    · exact .inr (.inl ⟨by trivial, e⟩)
    · exact .inr (.inr e)
  · rintro (e | ⟨_, e⟩ | e)
    · exact .inl (.inl e)
    · exact .inl (.inr e)
    · exact .inr e⟩
section
variable {D m : Nat} {zs : List Int} {s : MS} {L : List O}
theorem fits_ch (i : Nat) (hi : i ≤ 1000) : (chO i).fits := by
  have h := u64_p i hi
  unfold pC pK U64 at h
  exact setO_fits (by omega) (by omega) (by omega) (by omega) (by decide) (by decide) (by decide)
theorem fits_cv : cvO.fits := setO_fits (by decide) (by decide) (by decide) (by decide) (by decide) (by decide) (by decide)
theorem fits_lf {pc pk z : Int} {i : Nat} (hi : i ≤ 1000) (h1 : U64 pc) (h2 : U64 pk) : (lfO pc pk z i).fits := by
  obtain ⟨a, b⟩ := h1
  obtain ⟨c, d⟩ := h2
  exact setO_fits (by omega) (by omega) (by omega) (by omega) (show -9223372036854775808 ≤ (2 : Int) ∧ (2 : Int) < 9223372036854775808 by decide) (by simp only [intV]; omega) (show (0 : Nat) < 18446744073709551616 by decide)
theorem num_one : numOk 1 = true := by decide
theorem num_of {x : Nat} (h : 1 ≤ x ∧ x ≤ 100000) : numOk (x : Int) = true := numOk_iff.2 (by omega)
theorem ok_ch (h : Has s (chL m)) (hm : m ≤ 100) : okS s (chO m) = true := by
  refine ok_of h (fits_ch m (by omega)) rfl num_one (num_of (x := 100 + m) (by omega)) ?_ ?_
  · by_cases h0 : m = 0
    · left
      show (if m = 0 then (0 : Int) else 1) = 0 ∧ (if m = 0 then (0 : Int) else ((99 + m : Nat) : Int)) = 0
      rw [if_pos h0, if_pos h0]; exact ⟨rfl, rfl⟩
    · refine .inr ⟨chO (m - 1), mem_chL.2 ⟨m - 1, by omega, rfl⟩, rfl, ?_, ?_⟩
      · show (1 : Int) = if m = 0 then (0 : Int) else 1
        rw [if_neg h0]
      · show ((100 + (m - 1) : Nat) : Int) = if m = 0 then (0 : Int) else ((99 + m : Nat) : Int)
        rw [if_neg h0]; omega
  · rintro x hx ⟨_, e⟩
    obtain ⟨j, hj, rfl⟩ := mem_chL.1 hx
    have e : ((100 + j : Nat) : Int) = ((100 + m : Nat) : Int) := e
    omega
theorem ok_cv (h : Has s (chL D)) : okS s cvO = true := by
  refine ok_of h fits_cv rfl num_one (num_of (x := 50) (by omega)) (.inl ⟨rfl, rfl⟩) ?_
  rintro x hx ⟨_, e⟩
  obtain ⟨j, hj, rfl⟩ := mem_chL.1 hx
  have e : ((100 + j : Nat) : Int) = 50 := e
  omega
theorem ok_lf (h : Has s L) (hN : NestL D m true zs L) (hD : 0 < D) (hD2 : D ≤ 50) (hm : m ≤ 100) (z : Int) : okS s (lfO 1 ((99 + D : Nat) : Int) z m) = true := by
  refine ok_of h (fits_lf (by omega) (by unfold U64; decide) (by unfold U64; omega)) rfl num_one (num_of (x := 200 + m) (by omega)) (.inr ⟨chO (D - 1), (hN.mem _).2 (.inl ⟨D - 1, by omega, rfl⟩), rfl, rfl, ?_⟩) ?_
  · show ((100 + (D - 1) : Nat) : Int) = ((99 + D : Nat) : Int)
    omega
  · rintro x hx ⟨_, e⟩
    rcases (hN.mem x).1 hx with ⟨j, hj, rfl⟩ | ⟨_, rfl⟩ | ⟨j, hj, rfl⟩
    · have e : ((100 + j : Nat) : Int) = ((200 + m : Nat) : Int) := e
      omega
    · have e : (50 : Int) = ((200 + m : Nat) : Int) := e
      omega
    · have e : ((200 + j : Nat) : Int) = ((200 + m : Nat) : Int) := e
      omega
theorem ok_want (h : Has s (lfP 0 0 zs m)) (hm : m ≤ 100) (z : Int) : okS s (lfO 0 0 z m) = true := by
  refine ok_of h (fits_lf (by omega) u64_zero u64_zero) rfl num_one (num_of (x := 200 + m) (by omega)) (.inl ⟨rfl, rfl⟩) ?_
  rintro x hx ⟨_, e⟩
  obtain ⟨j, hj, rfl⟩ := mem_lfP.1 hx
  have e : ((200 + j : Nat) : Int) = ((200 + m : Nat) : Int) := e
  omega
theorem short_ch (i : Nat) : ShortO (chO i) := by
  refine ⟨((GV.taken (i := 0) (.inr (.inl rfl)) (by decide)).1 : V.taken ⟨5, 0, refBits 0, ⟨#[]⟩⟩), (by show (0 : Nat) ≤ _; omega), (by show (1 : Nat) ≤ _; omega), ?_⟩
  have : (qL kM).length + (textL ⟨5, 0, refBits 0, ⟨#[]⟩⟩).length ≤ 66 := by decide +kernel
  exact this
theorem short_lf {pc pk z : Int} {i : Nat} (hi : i < 40) : ShortO (lfO pc pk z i) := by
  have hv : GV i (intV (i : Int)) := .inl rfl
  have t := hv.taken hi
  have hk := keyL_short _ (lf_key z)
  refine ⟨t.1, (by show (0 : Nat) ≤ _; omega), (by show (keyL _).size ≤ _; omega), ?_⟩
  have t2 : (textL (cleanO (lfO pc pk z i)).v).length ≤ 20 := t.2.1
  show (qL (keyL (z % 3).toNat)).length + _ ≤ _
  omega
theorem short_cv : ShortO cvO := by
  refine ⟨((GV.taken (i := 3) (.inl rfl) (by decide)).1 : V.taken ⟨2, ((3 : Nat) : Int), refBits 0, ⟨#[]⟩⟩), (by show (0 : Nat) ≤ _; omega), (by show (1 : Nat) ≤ _; omega), ?_⟩
  have : (qL kM).length + (textL ⟨2, 3, refBits 0, ⟨#[]⟩⟩).length ≤ 66 := by decide +kernel
  exact this
theorem short_all (hN : NestL D m true zs L) (hm : m ≤ 40) : ∀ o ∈ L, ShortO o := fun o ho => by
  rcases (hN.mem o).1 ho with ⟨j, hj, rfl⟩ | ⟨_, rfl⟩ | ⟨j, hj, rfl⟩
  · exact short_ch j
  · exact short_cv
  · exact short_lf (by omega)
end
/-- Stores into kept blocks leave a Maps alone. -/
theorem Lv.storedT {w0 w w' : World} {K T : Nat → Prop} {g : Nat} {s : MS} {L : List O} (h : Lv w0 K w g s L) (t : Touch T w w') (hT : ∀ k, T k → K k ∧ w0.heap.size ≤ k) : Lv w0 K w' g s L := by
  obtain ⟨F, h⟩ := h
  exact ⟨F, h.at_.touch t fun k hk e => (h.own k hk).2 (hT k e).1, h.own, fun k hk => Nat.lt_of_lt_of_le (h.old k hk) t.size, h.touch.then t fun k hk e => by have := (hT k e).2; omega, h.has, h.ord, h.chain, h.apart, h.cnt, h.len⟩
end Go.Proofs.Ytegldlfbmaapiaa

/- Slices of strings: how they lie, are cut, grow. -/
namespace Go.Proofs.Ytegldlfbmaapiaa
open Go.RowKit Go.Maps
set_option linter.unusedVariables false
set_option linter.unusedSimpArgs false

abbrev zO (r : ByteArray) : Obj := .cells #[.string r] 9
def cellZ (r : ByteArray) : List Value := [.string r]
def cellsZ (l : List ByteArray) : List Value := l.flatMap cellZ
theorem cellsZ_cons (r : ByteArray) (l : List ByteArray) : cellsZ (r :: l) = .string r :: cellsZ l := rfl
theorem cellsZ_append (a b : List ByteArray) : cellsZ (a ++ b) = cellsZ a ++ cellsZ b := by simp [cellsZ]
theorem cellsZ_one (l : List ByteArray) : ∀ u ∈ cellsZ l, u.oneCell' = true := by
  intro u hu
  obtain ⟨f, _, hf⟩ := List.mem_flatMap.1 hu
  simp only [cellZ, List.mem_cons, List.not_mem_nil, or_false] at hf
  rcases hf with rfl <;> rfl
theorem cellsZ_len (l : List ByteArray) : (cellsZ l).length = l.length * 1 := by
  induction l with
  | nil => rfl
  | cons f r ih => rw [cellsZ_cons]; simp only [List.length_cons, ih]; omega
theorem cellsZ_get : ∀ (l : List ByteArray) (j : Nat) (h : j < l.length), (cellsZ l)[j * 1]? = some (.string l[j])
  | f :: r, 0, _ => rfl
  | f :: r, j + 1, h => by
    have ih := cellsZ_get r j (by simpa using h)
    rw [cellsZ_cons, show (j + 1) * 1 = j * 1 + 1 from by omega]
    exact ih
theorem cellsZ_set : ∀ (l : List ByteArray) (j : Nat) (h : j < l.length) (r : ByteArray), (cellsZ l).set (j * 1) (.string r) = cellsZ (l.set j r)
  | f :: l, 0, _, r => rfl
  | f :: l, j + 1, h, r => by
    have ih := cellsZ_set l j (by simpa using h) r
    rw [cellsZ_cons, List.set_cons_succ, cellsZ_cons, ← ih, show (j + 1) * 1 = j * 1 + 1 from by omega]
    rfl
theorem infoZ : (Try.prog.info? 9).map (fun i => (i.zero, i.size, i.bytes)) = some (some (.string ⟨#[]⟩), 1, 16) := by kernel_rfl
/-- They lie where a slice of that address begins. -/
def LiesZ (w : World) (ao : Option Addr) (l : List ByteArray) : Prop := l = [] ∨ ∃ b o, ao = some ⟨b, o, none⟩ ∧ (∃ c, w.heap[b]? = some (.cells c 9 (0, 0))) ∧ ∀ j u, (cellsZ l)[j]? = some u → w.cell? ⟨b, o + j, none⟩ = some u
theorem LiesZ.touch {W W' : World} {ao : Option Addr} {b : List ByteArray} (h : LiesZ W ao b) (t : Touch (fun _ => False) W W') : LiesZ W' ao b := by
  rcases h with h | ⟨b, o, e, ⟨c, hT⟩, h⟩
  · exact .inl h
  · refine .inr ⟨b, o, e, ⟨c, (t.block _ (Array.getElem?_eq_some_iff.1 hT).1 id).trans hT⟩, fun j u hu => ?_⟩
    have := h j u hu
    rw [World.cell?_of_block (t.block _ (World.block_lt_of_cell? _ _ this) id)]; exact this
theorem LiesZ.new (W : World) (f : ByteArray) : LiesZ (W.alloc (zO f)) (some ⟨W.heap.size, 0, none⟩) [f] := by
  refine .inr ⟨_, _, rfl, ⟨_, heap_alloc_new W (zO f)⟩, fun j u hu => ?_⟩
  rw [Nat.zero_add, cell_of_block (heap_alloc_new W (zO f))]
  have e : cellsZ [f] = [.string f] := rfl
  rw [e] at hu
  simpa using hu
theorem addr_addZ (g o j : Nat) : (⟨g, o, none⟩ : Addr).add j = ⟨g, o + j, none⟩ := by
  unfold Addr.add
  split <;> simp_all
/-- v is a slice of l. -/
def SlZ (w : World) (v : Value) (l : List ByteArray) : Prop := ∃ ao cap, v = .slice ao l.length cap ∧ (ao = none → cap = 0) ∧ l.length ≤ cap ∧ cap ≤ 9223372036854775807 ∧ LiesZ w ao l
theorem SlZ.touch {W W' : World} {v : Value} {l : List ByteArray} (h : SlZ W v l) (t : Touch (fun _ => False) W W') : SlZ W' v l := by
  obtain ⟨ao, cap, e, h1, h2, h3, h4⟩ := h
  exact ⟨ao, cap, e, h1, h2, h3, h4.touch t⟩
theorem SlZ.nil (w : World) : SlZ w (.slice none 0 0) [] := ⟨none, 0, rfl, fun _ => rfl, Nat.le_refl _, by omega, .inl rfl⟩
/-- Its cells, where there are any. -/
theorem SlZ.row {w : World} {v : Value} {l : List ByteArray} (h : SlZ w v l) (hne : l ≠ []) : ∃ b o cap, v = .slice (some ⟨b, o, none⟩) l.length cap ∧ l.length ≤ cap ∧ cap ≤ 9223372036854775807 ∧ b < w.heap.size ∧ ∀ j (h : j < l.length), w.cell? ⟨b, o + j * 1, none⟩ = some (.string l[j]) := by
  obtain ⟨ao, cap, e, h1, h2, h3, h4⟩ := h
  rcases h4 with h4 | ⟨b, o, rfl, _, hc⟩
  · exact absurd h4 hne
  · have hx : ∀ j (h : j < l.length), w.cell? ⟨b, o + j * 1, none⟩ = some (.string l[j]) := fun j hj => by
      have a0 := cellsZ_get l j hj
      exact hc _ _ a0
    refine ⟨b, o, cap, e, h2, h3, ?_, hx⟩
    have hp : 0 < l.length := List.length_pos_iff.2 hne
    exact World.block_lt_of_cell? _ _ (hx 0 hp)
theorem SlZ.shape {w : World} {v : Value} {l : List ByteArray} (h : SlZ w v l) : ∃ ao cap, v = .slice ao l.length cap ∧ (ao = none → cap = 0) ∧ l.length ≤ cap ∧ cap ≤ 9223372036854775807 := by
  obtain ⟨ao, cap, e, h1, h2, h3, h4⟩ := h
  exact ⟨ao, cap, e, h1, h2, h3⟩
theorem SlZ.from {w : World} {ao : Option Addr} {n cap : Nat} {l : List ByteArray} (h : SlZ w (.slice ao n cap) l) (c : Nat) (hc : c ≤ l.length) : SlZ w (.slice (if cap = c then ao else ao.map (·.add (c * 1))) (n - c) (cap - c)) (l.drop c) := by
  obtain ⟨ao', cap', e, h1, h2, h3, h4⟩ := h
  simp only [Value.slice.injEq] at e
  obtain ⟨rfl, rfl, rfl⟩ := e
  refine ⟨_, _, by rw [List.length_drop], ?_, by rw [List.length_drop]; omega, by omega, ?_⟩
  · intro e
    split at e
    · have := h1 e; omega
    · rw [Option.map_eq_none_iff] at e
      have := h1 e; omega
  · by_cases hd : l.drop c = []
    · exact .inl hd
    · have hlt : c < l.length := by
        rcases Nat.lt_or_ge c l.length with x | x
        · exact x
        · exact absurd (List.drop_of_length_le x) hd
      rcases h4 with h4 | ⟨b, o, rfl, hT, hx⟩
      · subst h4; simp at hlt
      · rw [if_neg (by omega), Option.map_some, addr_addZ]
        refine .inr ⟨b, o + c * 1, rfl, hT, fun j u hu => ?_⟩
        have e2 : cellsZ l = cellsZ (l.take c) ++ cellsZ (l.drop c) := by rw [← cellsZ_append, List.take_append_drop]
        have hlen : (cellsZ (l.take c)).length = c * 1 := by rw [cellsZ_len, List.length_take]; omega
        have : (cellsZ l)[c * 1 + j]? = some u := by
          rw [e2, List.getElem?_append_right (by omega), hlen, Nat.add_sub_cancel_left]; exact hu
        have := hx _ u this
        rw [Nat.add_assoc]; exact this
theorem SlZ.upto {w : World} {ao : Option Addr} {n cap : Nat} {l : List ByteArray} (h : SlZ w (.slice ao n cap) l) (c : Nat) (hc : c ≤ l.length) : SlZ w (.slice ao c cap) (l.take c) := by
  obtain ⟨ao', cap', e, h1, h2, h3, h4⟩ := h
  simp only [Value.slice.injEq] at e
  obtain ⟨rfl, rfl, rfl⟩ := e
  have hlen : (l.take c).length = c := by rw [List.length_take]; omega
  refine ⟨_, _, by rw [hlen], h1, by omega, h3, ?_⟩
  rcases h4 with h4 | ⟨b, o, rfl, hT, hx⟩
  · exact .inl (by rw [h4]; simp)
  · refine .inr ⟨b, o, rfl, hT, fun j u hu => hx j u ?_⟩
    have e2 : cellsZ l = cellsZ (l.take c) ++ cellsZ (l.drop c) := by rw [← cellsZ_append, List.take_append_drop]
    rw [e2, List.getElem?_append_left (by rw [List.getElem?_eq_some_iff] at hu; exact hu.1)]; exact hu
theorem sliceZ_from (vo : Option Addr) (n cap c : Nat) (h : c ≤ n) (W : World) : (Instr.slice 48 (.slice vo n cap) (some (.int .i64 (c : Int))) none none).run Try.prog W = .ok (.slice (if cap = c then vo else vo.map (·.add (c * 1))) (n - c) (cap - c)) W := by
  have h1 : (c : Int) ≤ (n : Int) := by omega
  have hu := Try.underlying48
  obtain ⟨i0, hi, hz0, hz1, hz2⟩ := info_parts infoZ
  simp [Instr.slice, run_underlying hu, Instr.sliceBounds, run_sliceBound, h1, sizeOf, typeInfo, hi, hz1]
theorem sliceZ_to (vo : Option Addr) (n cap c : Nat) (h : c ≤ cap) (W : World) : (Instr.slice 48 (.slice vo n cap) none (some (.int .i64 (c : Int))) none).run Try.prog W = .ok (.slice vo c cap) W := by
  have h1 : (c : Int) ≤ (cap : Int) := by omega
  have hu := Try.underlying48
  have ha : ∀ a : Addr, a.add 0 = a := fun a => by cases a; simp [Addr.add]
  obtain ⟨i0, hi, hz0, hz1, hz2⟩ := info_parts infoZ
  simp [Instr.slice, run_underlying hu, Instr.sliceBounds, run_sliceBound, h1, sizeOf, typeInfo, hi, ha]

theorem ownZ_touch {S : Nat → Prop} {w w' : World} {v : Value} {n : Nat} {xs : List Value} (h : w.ownsRow 0 9 1 v n xs) (t : Touch S w w') (hs : ∀ k, v.ownBlock = some k → ¬ S k) : w'.ownsRow 0 9 1 v n xs := by
  refine ⟨h.1, ?_⟩
  rcases h.2 with h | ⟨g, cap, cur, rfl, hb, hg, r⟩
  · exact .inl h
  · exact .inr ⟨g, cap, cur, rfl, hb, (t.block g (lt_of_heap hg) (hs g rfl)).trans hg, r⟩
/-- A slice that was made since W, of the cells xs. -/
structure OwnZ (W w : World) (v : Value) (n : Nat) (xs : List Value) : Prop where
  owns : w.ownsRow 0 9 1 v n xs
  touch : Touch (fun _ => False) W w
  fresh : ∀ k, v.ownBlock = some k → W.heap.size ≤ k
abbrev NewZ (W w : World) (v : Value) (l : List ByteArray) : Prop := OwnZ W w v l.length (cellsZ l)
theorem NewZ.nil (W w : World) (t : Touch (fun _ => False) W w) : NewZ W w (.slice none 0 0) [] := ⟨World.ownsRow_nil _ _ _ _, t, fun k hk => by simp [Value.ownBlock] at hk⟩
theorem OwnZ.on {W w w' : World} {v : Value} {n : Nat} {xs : List Value} (h : OwnZ W w v n xs) (t : Touch (fun _ => False) w w') : OwnZ W w' v n xs :=
  ⟨ownZ_touch h.owns t (fun _ _ => id), h.touch.trans t, h.fresh⟩
/-- It was made since any world ahead, too. -/
theorem OwnZ.since {W0 W w : World} {v : Value} {n : Nat} {xs : List Value} (h : OwnZ W w v n xs) (t : Touch (fun _ => False) W0 W) : OwnZ W0 w v n xs :=
  ⟨h.owns, t.trans h.touch, fun k hk => Nat.le_trans t.size (h.fresh k hk)⟩
theorem NewZ.sl {W w : World} {v : Value} {l : List ByteArray} (h : NewZ W w v l) : SlZ w v l := by
  rcases h.owns.2 with ⟨e, h0⟩ | ⟨g, cap, cur, e, hb, hg, q1, q2, q3, q4⟩
  · have : l = [] := List.length_eq_zero_iff.1 (by omega)
    subst this
    rw [e]; exact SlZ.nil w
  · refine ⟨_, cap, e, (fun h => by cases h), q1, q2, .inr ⟨g, 0, rfl, ⟨_, hg⟩, fun j u hu => ?_⟩⟩
    rw [← q4, List.getElem?_take] at hu
    split at hu
    · rw [cell_of_block hg, Nat.zero_add, ← Array.getElem?_toList]; exact hu
    · cases hu
theorem run_appendZ (w : World) (v : Value) (a : List ByteArray) (hown : w.ownsRow 0 9 1 v a.length (cellsZ a)) (ao : Option Addr) (n cap : Nat) (b : List ByteArray) (hn : n = b.length) (hno : ao = none → cap = 0) (hL : LiesZ w ao b) (hlen : a.length + b.length ≤ 1073741825) :
    ∃ v' w', (Builtin.append_ #[48, 48] 48 #[v, .slice ao n cap]).run Try.prog w = .ok v' w' ∧ w'.ownsRow 0 9 1 v' (a ++ b).length (cellsZ (a ++ b)) ∧ w.grownBy w' v.ownBlock ∧ (v'.ownBlock = v.ownBlock ∨ v'.ownBlock = some w.heap.size) := by
  subst hn
  obtain ⟨i0, hi, hz0, hz1, hz2⟩ := info_parts infoZ
  cases ao with
  | none =>
    have hb : b = [] := by
      rcases hL with h | ⟨b', o, e, _⟩
      · exact h
      · cases e
    subst hb
    have hc := hno rfl
    subst hc
    refine ⟨v, w, run_append_owned_none w 0 48 48 9 i0 1 Try.underlying48 hi v a.length (cellsZ a) hown, ?_, World.grownBy.refl w _, .inl rfl⟩
    rw [List.append_nil]; exact hown
  | some ad =>
    have hcl : ∀ j u, (cellsZ b)[j]? = some u → w.cell? (ad.add j) = some u := by
      rcases hL with h | ⟨b', o, e, _, h⟩
      · subst h; intro j u hu; simp [cellsZ] at hu
      · cases e; intro j u hu; rw [addr_addZ]; exact h j u hu
    obtain ⟨v', w', hrun, hown', hg, _, hat⟩ := run_append_own_at w 0 48 48 9 i0 _ 1 16 Try.underlying48 hi hz0 hz1 hz2 rfl (by decide) v a.length (cellsZ a) hown ad b.length cap (cellsZ b) (cellsZ_len b) hcl (cellsZ_one b) (by unfold maxLen; omega) (by omega) (Nat.zero_le _)
    refine ⟨v', w', hrun, ?_, hg, hat⟩
    rw [cellsZ_append, List.length_append]; exact hown'
theorem NewZ.app {W wx : World} {v : Value} {a : List ByteArray} (h : NewZ W wx v a) (ao : Option Addr) (n cap : Nat) (b : List ByteArray) (hn : n = b.length) (hno : ao = none → cap = 0) (hL : LiesZ wx ao b) (hlen : a.length + b.length ≤ 1073741825) :
    ∃ v' w', (Builtin.append_ #[48, 48] 48 #[v, .slice ao n cap]).run Try.prog wx = .ok v' w' ∧ NewZ W w' v' (a ++ b) ∧ wx.grownBy w' v.ownBlock := by
  obtain ⟨v', w', hr, ho, hg, hb⟩ := run_appendZ wx v a h.owns ao n cap b hn hno hL hlen
  refine ⟨v', w', hr, ⟨ho, ?_, fun k hk => ?_⟩, hg⟩
  · exact h.touch.then ((Touch.refl (fun i => v.ownBlock = some i) wx).grown hg (fun i e _ => e)) fun i hi e => absurd hi (Nat.not_lt.2 (h.fresh i e))
  · rcases hb with e | e
    · exact h.fresh k (e ▸ hk)
    · rw [hk] at e; have := h.touch.size; simp at e; omega
/-- An append of one, out of a new block. -/
theorem NewZ.app1 {W wx : World} {v : Value} {a : List ByteArray} (h : NewZ W wx v a) (r : ByteArray) (hlen : a.length ≤ 1073741824) :
    ∃ v' w', (Builtin.append_ #[48, 48] 48 #[v, .slice (some ⟨wx.heap.size, 0, none⟩) 1 1]).run Try.prog (wx.alloc (zO r)) = .ok v' w' ∧ NewZ W w' v' (a ++ [r]) ∧ (wx.alloc (zO r)).grownBy w' v.ownBlock :=
  NewZ.app (h.on ((Touch.refl _ wx).alloc _)) (some ⟨wx.heap.size, 0, none⟩) 1 1 [r] rfl (fun h => by cases h) (LiesZ.new wx r) (by simp; omega)
theorem wpList_append_runZ {w w' : World} {ops : Array Oper} {rest : List Oper} {o : Oper} {a : Act} {Q : Exit → Act → World → Prop} (hgd : o.guard = none) (s x : Operand)
    (ho : o.op = .call { callee := .builtin .append, args := #[s, x], argTypes := #[48, 48] }) (v y v' : Value) (hs : a.eval s = v) (hx : a.eval x = y)
    (hrun : (Builtin.append_ #[48, 48] o.type #[v, y]).run Try.prog w = .ok v' w') (h : wpList Try.prog ops Q rest (a.put o.dst v') w') : wpList Try.prog ops Q (o :: rest) a w := by
  refine wpList_plain hgd fun K' hK' => ?_
  unfold Oper.wp
  simp [execOp, ho, resolve, invoke, builtin, hs, hx, hrun, Result.andThen]
  exact hK' _ _ h
/-- A cell of it laid anew. -/
theorem OwnZ.set {W w : World} {v : Value} {n : Nat} {xs : List Value} (h : OwnZ W w v n xs) {g cap : Nat} (e : v = .slice (some ⟨g, 0, none⟩) n cap) (i : Nat) (hi : i < n * 1) (y : Value) (hy : y.oneCell' = true) : OwnZ W (w.setCell ⟨g, i, none⟩ y) v n (xs.set i y) := by
  have hf : W.heap.size ≤ g := h.fresh g (by rw [e]; rfl)
  have h1 := h.owns.1
  rcases h.owns.2 with ⟨e', h0⟩ | ⟨g', cap', cur, e', hb, hg, q1, q2, q3, q4⟩
  · rw [h0] at hi; omega
  · rw [e] at e'
    simp only [Value.slice.injEq, Option.some.injEq, Addr.mk.injEq] at e'
    obtain ⟨⟨rfl, _, _⟩, _, rfl⟩ := e'
    refine ⟨⟨?_, .inr ⟨g, cap, cur.setIfInBounds i y, e, hb, by rw [heap_setCell_same _ _ _ _ hg], q1, q2, ?_, ?_⟩⟩, h.touch.setCell _ _ (fun hk => absurd hk (Nat.not_lt.2 hf)), h.fresh⟩
    · rw [List.length_set]; exact h1
    · simpa using q3
    · rw [Array.toList_setIfInBounds, ← q4, List.take_set]
theorem OwnZ.free {W w : World} {v : Value} {n : Nat} {xs : List Value} (h : OwnZ W w v n xs) {g cap : Nat} (e : v = .slice (some ⟨g, 0, none⟩) n cap) (hn : 0 < n) (i : Nat) : w.frozen? ⟨g, i, none⟩ = false := by
  rcases h.owns.2 with ⟨e', h0⟩ | ⟨g', cap', cur, e', hb, hg, q1, q2, q3, q4⟩
  · omega
  · rw [e] at e'
    simp only [Value.slice.injEq, Option.some.injEq, Addr.mk.injEq] at e'
    obtain ⟨⟨rfl, _, _⟩, _, rfl⟩ := e'
    exact free_of_block hg
theorem OwnZ.shape {W w : World} {v : Value} {n : Nat} {xs : List Value} (h : OwnZ W w v n xs) : ∃ ao cap, v = .slice ao n cap ∧ (0 < n → ∃ g, ao = some ⟨g, 0, none⟩) ∧ n ≤ cap ∧ cap ≤ 9223372036854775807 := by
  rcases h.owns.2 with ⟨e, h0⟩ | ⟨g, cap, cur, e, hb, hg, q1, q2, q3, q4⟩
  · exact ⟨none, 0, by rw [e, h0], fun h => by omega, by omega, by omega⟩
  · exact ⟨_, cap, e, fun _ => ⟨g, rfl⟩, q1, q2⟩
end Go.Proofs.Ytegldlfbmaapiaa

/- quirehelp.Place, among at most 1000000 places. -/
namespace Go.Proofs.Ytegldlfbmaapiaa
open Go.RowKit Go.Maps
set_option linter.unusedVariables false
set_option linter.unusedSimpArgs false
set_option maxRecDepth 100000

set_option maxHeartbeats 800000 in
theorem placeG_any (k : Int) (m : Nat) (hm : 1 ≤ m ∧ m ≤ 1000000) (w : World) (h0 : -9223372036854775808 ≤ k) (h1 : k ≤ 9223372036854775807) : Calls Try.prog 14 #[.int .i64 k, .int .i64 (m : Int)] w fun e w' => ∃ p : Nat, e = .returned (.int .i64 (p : Int)) ∧ p < m ∧ w' = w := by
  have ha := Int.tmod_lt_of_pos k (b := (m : Int)) (by omega)
  have hb : -(m : Int) < k.tmod (m : Int) := by
    have := Int.lt_tmod_of_pos k (b := (m : Int)) (by omega)
    omega
  generalize ht : k.tmod (m : Int) = t at *
  have e0 : ((m : Int) == 0) = false := by simp; omega
  have e1 : ¬ ((m : Int) = 0) := by omega
  have e2 : ¬ ((m : Int) = -1) := by omega
  by_cases hn : t < 0
  · obtain ⟨p, hp⟩ : ∃ p : Nat, (p : Int) = t + (m : Int) := ⟨(t + (m : Int)).toNat, by omega⟩
    have HP : Hid ((p : Int) = t + (m : Int)) := hp
    have ew : IntKind.i64.wrap (t + (m : Int)) = t + (m : Int) := by rw [IntKind.wrap_i64]; omega
    clear hp
    go_enter Try.func14, Try.ntmps14
    go_wp2_with fail
    go_ret
    exact ⟨p, by rw [HP.out]; rfl, by have := HP.out; omega, rfl⟩
  · obtain ⟨p, hp⟩ : ∃ p : Nat, (p : Int) = t := ⟨t.toNat, by omega⟩
    have HP : Hid ((p : Int) = t) := hp
    clear hp
    go_enter Try.func14, Try.ntmps14
    go_wp2_with fail
    go_ret
    exact ⟨p, by rw [HP.out]; rfl, by have := HP.out; omega, rfl⟩
theorem Lv.keptT {w0 w w' : World} {K : Nat → Prop} {g g' : Nat} {s s' : MS} {L L' : List O} (h : Lv w0 K w g s L) (h' : Lv w0 K w' g' s' L') (hk : Kept K w w') (hs : w.heap.size ≤ w'.heap.size) : Touch (fun k => ¬ K k) w w' := by
  have t1 := h.touch0
  have t2 := h'.touch0
  exact ⟨t2.os.trans t1.os.symm, t2.tape.trans t1.tape.symm, t2.output.trans t1.output.symm, hs, fun k _ hn => hk k (Classical.not_not.1 hn)⟩
theorem Lv.boxesT {w0 w w' : World} {K T : Nat → Prop} {g : Nat} {s : MS} {L : List O} (h : Lv w0 K w g s L) (t : Touch T w w') (hT : ∀ k, T k → K k ∧ w0.heap.size ≤ k) : Lv w0 (fun k => K k ∨ (w.heap.size ≤ k ∧ k < w'.heap.size)) w' g s L := by
  obtain ⟨F, h⟩ := h
  refine ⟨F, h.at_.touch t fun k hk e => (h.own k hk).2 (hT k e).1, fun k hk => ⟨(h.own k hk).1, ?_⟩, ?_, h.touch.then t fun k hk e => by have := (hT k e).2; omega, h.has, h.ord, h.chain, h.apart, h.cnt, h.len⟩
  · rintro (e | e)
    · exact (h.own k hk).2 e
    · have := h.at_.lt hk; omega
  · rintro k (e | e)
    · exact Nat.lt_of_lt_of_le (h.old k e) t.size
    · exact e.2
theorem OwnZ.keptT {W w w' : World} {K : Nat → Prop} {v : Value} {n : Nat} {xs : List Value} (h : OwnZ W w v n xs) (t : Touch (fun k => ¬ K k) w w') (hK : ∀ k, v.ownBlock = some k → K k) (tw : Touch (fun _ => False) W w') : OwnZ W w' v n xs :=
  ⟨ownZ_touch h.owns t fun k hk hn => hn (hK k hk), tw, h.fresh⟩
/-- A text more, at a slice of one's own. -/
theorem strs_more {W wx : World} {v : Value} {a : List ByteArray} (h : NewZ W wx v a) (r : ByteArray) (hlen : a.length ≤ 1000) :
    ∃ v' w', (Builtin.append_ #[48, 48] 48 #[v, .slice (some ⟨wx.heap.size, 0, none⟩) 1 1]).run Try.prog (wx.alloc (zO r)) = .ok v' w' ∧ NewZ W w' v' (a ++ [r]) ∧ Touch (fun k => v.ownBlock = some k) wx w' ∧ (v'.ownBlock = v.ownBlock ∨ ∃ k, v'.ownBlock = some k ∧ wx.heap.size ≤ k ∧ k < w'.heap.size) := by
  have h' := h.on ((Touch.refl _ wx).alloc (zO r))
  obtain ⟨v', w', hr, ho, hg, hb⟩ := run_appendZ (wx.alloc (zO r)) v a h'.owns (some ⟨wx.heap.size, 0, none⟩) 1 1 [r] rfl (fun h => by cases h) (LiesZ.new wx r) (by simp; omega)
  have tr : Touch (fun i => v.ownBlock = some i) wx w' := (((Touch.refl (fun _ => False) wx).alloc (zO r)).mono fun _ _ q => q.elim).grown hg fun i e _ => e
  have tw : Touch (fun _ => False) W w' := h.touch.then tr fun i hi e => absurd hi (Nat.not_lt.2 (h.fresh i e))
  have hs : (wx.alloc (zO r)).heap.size = wx.heap.size + 1 := by simp
  refine ⟨v', w', hr, ⟨ho, tw, fun k hk => ?_⟩, tr, ?_⟩
  · rcases hb with e | e
    · exact h.fresh k (e ▸ hk)
    · rw [hk] at e; have := h.touch.size; have := Option.some.inj e; omega
  · rcases hb with e | e
    · exact .inl e
    · exact .inr ⟨_, e, by omega, (ho.lt _ e).2⟩
theorem run_build1S (r : ByteArray) (W : World) : (Instr.buildSlice 48 1 #[(0, .string r)]).run Try.prog W = .ok (.slice (some ⟨W.heap.size, 0, none⟩) 1 1) (W.alloc (zO r)) := by kernel_rfl
theorem cells_rep : ∀ n : Nat, cellsZ (List.replicate n kM) = (List.replicate n ([109] : Key)).map encStr
  | 0 => rfl
  | n + 1 => by rw [List.replicate_succ, List.replicate_succ, cellsZ_cons, List.map_cons, cells_rep n]
theorem NewZ.strs {W w : World} {v : Value} {n : Nat} (h : NewZ W w v (List.replicate n kM)) : StrsAt w v (List.replicate n [109]) := by
  refine strs_of (B := 0) ?_
  have := h.owns
  rw [cells_rep] at this
  simpa using this
end Go.Proofs.Ytegldlfbmaapiaa

/- quirelaw12.MapsNested. -/
namespace Go.Proofs.Ytegldlfbmaapiaa
open Go.RowKit Go.Maps
set_option linter.unusedVariables false
set_option linter.unusedSimpArgs false
set_option maxRecDepth 100000

theorem LiesK.atN {w : World} {k : IntKind} {ao : Option Addr} {zs : List Int} (h : LiesK w k ao zs) {i : Nat} (hi : i < zs.length) : ∃ b o, ao = some ⟨b, o, none⟩ ∧ ∀ W, Touch (fun _ => False) w W → W.cell? ⟨b, o + i, none⟩ = some (.int k zs[i]) := by
  rcases h with e | ⟨b, o, e, hc⟩
  · subst e; simp at hi
  · refine ⟨b, o, e, fun W t => ?_⟩
    have := hc i hi
    rw [World.cell?_of_block (t.block _ (World.block_lt_of_cell? _ _ this) id)]; exact this
theorem setO_call {ck st pc pk : Int} {ky : ByteArray} {v : V} {o : O} (ho : o = setO ck st pc pk ky v) : ∀ W, Calls Try.prog 15 #[.int .u64 ck, .int .u64 st, .agg #[.int .u64 pc, .int .u64 pk], .string ky, .agg #[.int .i64 v.k, .int .i64 v.n, .float .f64 v.f, .string v.s]] W fun e w' => e = .returned (.agg o.vals) ∧ Touch (fun _ => False) W w' := fun W => by
  have := setO_any ck st pc pk ky v W
  rw [← ho] at this; exact this
theorem idO_stored {W : World} {X : Nat} {a b c d : Int} (h : W.heap[X]? = some (idO a b)) : (W.setCells X 0 [.int .u64 c, .int .u64 d]).heap[X]? = some (idO c d) := by
  rw [cells_storedS h]; rfl
theorem neq_id1 (W : World) : (binOp .neq 34 (.agg #[.int .u64 1, .int .u64 100]) (.agg #[.int .u64 1, .int .u64 100])).run Try.prog W = .ok (.bool false) W := by kernel_rfl
theorem neq_id2 (W : World) : (binOp .neq 34 (.agg #[.int .u64 1, .int .u64 101]) (.agg #[.int .u64 1, .int .u64 101])).run Try.prog W = .ok (.bool false) W := by kernel_rfl
theorem neq_id3 (W : World) : (binOp .neq 34 (.agg #[.int .u64 1, .int .u64 102]) (.agg #[.int .u64 1, .int .u64 102])).run Try.prog W = .ok (.bool false) W := by kernel_rfl
theorem neq_id4 (W : World) : (binOp .neq 34 (.agg #[.int .u64 1, .int .u64 103]) (.agg #[.int .u64 1, .int .u64 103])).run Try.prog W = .ok (.bool false) W := by kernel_rfl
theorem neq_id5 (W : World) : (binOp .neq 34 (.agg #[.int .u64 1, .int .u64 104]) (.agg #[.int .u64 1, .int .u64 104])).run Try.prog W = .ok (.bool false) W := by kernel_rfl
theorem neq_id6 (W : World) : (binOp .neq 34 (.agg #[.int .u64 1, .int .u64 105]) (.agg #[.int .u64 1, .int .u64 105])).run Try.prog W = .ok (.bool false) W := by kernel_rfl
theorem neq_id {i : Nat} (h0 : 0 < i) (h6 : i ≤ 6) : ∀ W, (binOp .neq 34 (.agg #[.int .u64 (pC i), .int .u64 (pK i)]) (.agg #[.int .u64 (pC i), .int .u64 (pK i)])).run Try.prog W = .ok (.bool false) W := by
  have : i = 1 ∨ i = 2 ∨ i = 3 ∨ i = 4 ∨ i = 5 ∨ i = 6 := by omega
  rcases this with rfl | rfl | rfl | rfl | rfl | rfl
  · exact neq_id1
  · exact neq_id2
  · exact neq_id3
  · exact neq_id4
  · exact neq_id5
  · exact neq_id6
abbrev covB : ByteArray := ⟨#[109, 32, 34, 109, 34, 61, 51, 10]⟩
theorem cov_any {w0 w : World} {K : Nat → Prop} {g D m : Nat} {s : MS} {L : List O} {zs : List Int} (h : Lv w0 K w g s L) (hN : NestL D m true zs L) (hD : 0 < D) (hD2 : D ≤ 100) (hs : shS s 1 50 = true) (hlen : L.length ≤ 1000) :
    Calls Try.prog 13 #[.pointer (some ⟨g, 0, none⟩)] w fun e w' => ∃ v, e = .returned v ∧ Touch (fun _ => False) w w' ∧ Calls Try.prog 12 #[v] w' fun e w'' => e = .returned (.string covB) ∧ Touch (fun _ => False) w' w'' := by
  refine (lv_view h).mono ?_
  rintro e w' ⟨v, rfl, hE, t⟩
  refine ⟨v, rfl, t, ?_⟩
  rw [view_cov h.hasL hN hD hD2 hs] at hE
  have := text_any hE (by
    intro e he
    rw [List.mem_singleton] at he
    subst he
    refine ⟨(GV.taken (i := 3) (.inl rfl) (by decide)).1, (by show (0 : Nat) ≤ _; omega), (by show (1 : Nat) ≤ _; omega), ?_⟩
    simp only [Et.kids]
    cases L.length with
    | zero => rfl
    | succ n => intro e he; cases he) (by omega) (by rw [cov_text]; decide)
  rw [cov_text] at this
  exact this
theorem run_build_50 (W : World) : (Instr.buildSlice 24 1 #[(0, rgV ⟨1, 50, 51⟩)]).run Try.prog W = .ok (.slice (some ⟨W.heap.size, 0, none⟩) 1 1) (W.alloc (rgO ⟨1, 50, 51⟩)) := by kernel_rfl
theorem run_build_100 (W : World) : (Instr.buildSlice 24 1 #[(0, rgV ⟨1, 100, 101⟩)]).run Try.prog W = .ok (.slice (some ⟨W.heap.size, 0, none⟩) 1 1) (W.alloc (rgO ⟨1, 100, 101⟩)) := by kernel_rfl
theorem has_50 (k : Int) (h : 100 ≤ k) : hasB [⟨1, 50, 51⟩] 1 k = false := by
  have e : ([⟨1, 50, 51⟩] : List Rg).filter Rg.ok = [⟨1, 50, 51⟩] := by decide
  unfold hasB
  rw [e]
  simp [Rg.has]
  omega
theorem has_50b : hasB [⟨1, 50, 51⟩] 1 50 = true := by decide
theorem has_100 : hasB [⟨1, 100, 101⟩] 1 50 = false := by decide
theorem chO_pc (i : Nat) : (chO i).pc = pC i ∧ (chO i).pk = pK i := ⟨rfl, rfl⟩
set_option maxHeartbeats 64000000 in
theorem mapsNested_any (w : World) (ao : Option Addr) (zs : List Int) (n cap : Nat) (hL : n = zs.length) (hS : LiesK w .u16 ao zs) (hX : cap ≤ maxLen) (hM : n ≤ cap) (hY : ∀ y ∈ zs, 0 ≤ y ∧ y < 65536)
    (dp : Int) (hdp : -9223372036854775808 ≤ dp ∧ dp < 9223372036854775808) :
    Calls Try.prog 4 #[.slice ao n cap, .int .i64 dp] w fun e w' => e = .returned (.bool true) ∧ Touch (fun _ => False) w w' := by
  subst hL
  have HKn : Hid (Calls Try.prog 6 #[] w fun e w' => e = .returned (.bool true) ∧ Touch (fun _ => False) w w') := known_any w
  have HZ : Hid (LiesK w .u16 ao zs ∧ (∀ y ∈ zs, 0 ≤ y ∧ y < 65536)) := ⟨hS, hY⟩
  have hn1 : zs.length ≤ 9223372036854775807 := by unfold maxLen at hX; omega
  have Hdp : Hid (-9223372036854775808 ≤ dp ∧ dp < 9223372036854775808) := hdp
  clear hS hX hY hM hdp
  go_enter Try.func4, Try.ntmps4
  go_wp2_with fail
  refine HKn.out.mono ?_
  rintro e w1 ⟨rfl, tk⟩
  have HT1 : Hid (Touch (fun _ => False) w w1) := tk
  clear tk HKn
  by_cases h30 : 30 < zs.length
  · have d1 : (30 : Int) < (zs.length : Int) := by omega
    go_wp2_with fail
    go_ret
    exact ⟨rfl, HT1.out⟩
  have d1 : ¬ (30 : Int) < (zs.length : Int) := by omega
  have hz30 : zs.length ≤ 30 := by omega
  clear h30
  have HPl : Hid (Calls Try.prog 14 #[.int .i64 dp, .int .i64 6] w1 fun e w' => ∃ p : Nat, e = .returned (.int .i64 (p : Int)) ∧ p < 6 ∧ w' = w1) := placeG_any dp 6 (by omega) w1 Hdp.out.1 (by have := Hdp.out.2; omega)
  go_wp2_with fail
  refine HPl.out.mono ?_
  rintro e v1 ⟨p, rfl, hp6, rfl⟩
  obtain ⟨D, hD⟩ : ∃ D, D = p + 1 := ⟨_, rfl⟩
  have hD1 : 0 < D := by omega
  have hD6 : D ≤ 6 := by omega
  have wD : IntKind.i64.wrap (1 + (p : Int)) = (D : Int) := by rw [IntKind.wrap_i64]; omega
  clear HPl hD d1
  have HNA : Hid (Calls Try.prog 8 #[] v1 fun e w' => ∃ g, e = .returned (.pointer (some ⟨g, 0, none⟩)) ∧ Lv v1 (fun _ => False) w' g newS []) := lv_new v1
  go_wp2_with fail
  refine HNA.out.mono ?_
  rintro e w2 ⟨g, rfl, hA2⟩
  have HA2 : Hid (Lv v1 (fun _ => False) w2 g newS []) := hA2
  clear hA2 HNA wD hp6
  go_upto_region 7 with fail
  refine wp_region_lit ?_
  iterate 2 (refine wpList_plain rfl fun K hK => ?_; go_simp; refine hK _ _ ?_; clear hK K)
  refine wpList_store_mid rfl 34 (.tmp 6) (.tmp 29) rfl w2.heap.size 0 #[.int .u64 0, .int .u64 0] rfl rfl (there_ofS (heap_alloc_new w2 (idO 0 0)) 0 2 (by decide)) (by kernel_rfl) (by kernel_rfl) ?_
  simp only [Act.put]
  obtain ⟨X, hX⟩ : ∃ X, Hid (X = w2.heap.size) := ⟨_, Eq.refl _⟩
  obtain ⟨w3, hw3⟩ : ∃ W, Hid (W = (w2.alloc (idO 0 0)).setCells w2.heap.size 0 [.int .u64 0, .int .u64 0]) := ⟨_, Eq.refl _⟩
  have HA3 : Hid (Lv v1 (fun k => k = X) w3 g newS [] ∧ w3.heap[X]? = some (idO (pC 0) (pK 0)) ∧ v1.heap.size ≤ X ∧ Touch (fun _ => False) v1 w3) := by
    have t1 : Touch (fun _ => False) w2 w3 := by rw [hw3.out]; exact ((Touch.refl _ _).alloc _).stores (Nat.le_refl _) 0 _
    have hb : w3.heap[X]? = some (idO (pC 0) (pK 0)) := by
      rw [hw3.out, hX.out]; exact idO_stored (heap_alloc_new w2 (idO 0 0))
    exact ⟨(HA2.out.box t1 (by rw [hX.out]; exact Nat.le_refl _) (lt_of_heap hb)).weaken fun k hk => .inr hk, hb, by rw [hX.out]; exact HA2.out.touch0.size, HA2.out.touch0.trans t1⟩
  rw [← hw3.out, ← hX.out]
  clear hw3 hX HA2
  have HXv : Hid (v1.heap.size ≤ X) := HA3.out.2.2.1
  go_wp2_with fail
  go_loopg [7, 8] D (fun gk s7 s8 wr => ∃ (i : Nat) (s : MS), i + gk = D ∧ s8 = .int .i64 (i : Int) ∧ Hid (s.hid = [] ∧ wr.heap[X]? = some (idO (pC i) (pK i)) ∧ NewZ v1 wr s7 (List.replicate i kM) ∧ ∃ K : Nat → Prop, Lv v1 K wr g s (chL i) ∧ K X ∧ ∀ k, s7.ownBlock = some k → K k ∧ k ≠ X))
  case atStart => exact ⟨0, newS, by omega, rfl, rfl, HA3.out.2.1, NewZ.nil v1 w3 HA3.out.2.2.2, _, HA3.out.1, rfl, fun k hk => by simp [Value.ownBlock] at hk⟩
  case round =>
    obtain ⟨i, s, hig, rfl, HR⟩ := hrel
    obtain ⟨hsh, hX0, hN7, KM, hLv, hKX, hKo⟩ := HR.out
    obtain ⟨ao7, cap7, hv7, -⟩ := hN7.shape
    rw [List.length_replicate] at hv7
    subst hv7
    have HQ : Hid (s.hid = [] ∧ wr.heap[X]? = some (idO (pC i) (pK i)) ∧ NewZ v1 wr (.slice ao7 i cap7) (List.replicate i kM) ∧ Lv v1 KM wr g s (chL i) ∧ KM X ∧ ∀ k, (Value.slice ao7 i cap7).ownBlock = some k → KM k ∧ k ≠ X) := ⟨hsh, hX0, hN7, hLv, hKX, hKo⟩
    clear hsh hX0 hN7 hLv hKX hKo HR HA3
    have Hig : Hid (i + gk = D) := hig
    by_cases hil : i < D
    · have l1 : (i : Int) < (D : Int) := by omega
      obtain ⟨ck, hck⟩ : ∃ ck, ck = ((100 + i : Nat) : Int) := ⟨_, rfl⟩
      have q1 : IntKind.i64.wrap (100 + (i : Int)) = ck := by rw [IntKind.wrap_i64]; omega
      have q2 : IntKind.u64.wrap ck = ck := wrap_u64_small _ (by omega) (by omega)
      obtain ⟨x, hx⟩ : ∃ x, Hid (x = chO i) := ⟨_, Eq.refl _⟩
      have hS0 := setO_call (o := x) (ck := ck) (st := 7) (pc := pC i) (pk := pK i) (ky := kM) (v := mapV) (by rw [hx.out, hck]; rfl)
      have HSet : Hid (∀ W, Calls Try.prog 15 #[.int .u64 ck, .int .u64 7, .agg #[.int .u64 (pC i), .int .u64 (pK i)], .string ⟨#[109]⟩, .agg #[.int .i64 5, .int .i64 0, .float .f64 0, .string ⟨#[]⟩]] W fun e w' => e = .returned (.agg x.vals) ∧ Touch (fun _ => False) W w') := hS0
      have Hck : Hid (ck = ((100 + i : Nat) : Int)) := hck
      clear hS0 hck hig
      go_upto_region 12 with fail
      refine wp_region_lit ?_
      iterate 3 (refine wpList_plain rfl fun K hK => ?_; go_simp; refine hK _ _ ?_; clear hK K)
      refine wpList_load_mid rfl 34 (.tmp 6) rfl X 0 rfl [.int .u64 (pC i), .int .u64 (pK i)] _ (rangeAt_id HQ.out.2.1) Try.underlying34 rfl (by kernel_rfl) ?_
      simp only [Act.put, List.setIfInBounds_toArray, List.set_cons_succ, List.set_cons_zero]
      iterate 1 (refine wpList_plain rfl fun K hK => ?_; go_simp; refine hK _ _ ?_; clear hK K)
      refine wpList_plain rfl fun K hK => ?_
      go_simp
      refine (HSet.out _).mono ?_
      rintro e w4 ⟨rfl, t4⟩
      refine hK _ _ ?_
      clear hK K
      have HT4 : Hid (Touch (fun _ => False) wr w4) := t4
      clear t4 HSet
      iterate 1 (refine wpList_plain rfl fun K hK => ?_; go_simp; refine hK _ _ ?_; clear hK K)
      refine wpList_store_mid rfl 41 (.tmp 9) (.tmp 40) rfl w4.heap.size 0 x.vals rfl rfl (OpAt.there (o := zeroO) (heap_alloc_new w4 zeroOp) 0 22 (by decide)) (by kernel_rfl) (by kernel_rfl) ?_
      simp only [Act.put]
      have hnn := newOpM w4 x
      obtain ⟨Y, hYy⟩ : ∃ Y, Hid (Y = w4.heap.size) := ⟨_, Eq.refl _⟩
      obtain ⟨w5, hw5⟩ : ∃ W, Hid (W = (w4.alloc zeroOp).setCells w4.heap.size 0 x.vals.toList) := ⟨_, Eq.refl _⟩
      rw [← hw5.out] at hnn ⊢
      rw [← hYy.out] at hnn ⊢
      have HL5 : Hid (Lv v1 (fun k => KM k ∨ k = Y) w5 g s (chL i) ∧ OpAt Y x w5 ∧ Touch (fun _ => False) wr w5 ∧ wr.heap.size ≤ Y) := ⟨(HQ.out.2.2.2.1.on HT4.out).box hnn.1 (by rw [hYy.out]; exact Nat.le_refl _) (lt_of_heap hnn.2), hnn.2, HT4.out.trans hnn.1, by rw [hYy.out]; exact HT4.out.size⟩
      clear hw5 hnn hYy HT4
      generalize Value.agg x.vals = vx
      have hokx := ok_ch (m := i) HL5.out.1.hasL (by omega)
      rw [← hx.out] at hokx
      have hfx : x.fits ∧ x.ky.size = 1 ∧ x.c = pC (i + 1) ∧ x.k = pK (i + 1) := by
        rw [hx.out]
        refine ⟨fits_ch i (by omega), rfl, ?_, ?_⟩
        · unfold pC; rw [if_neg (by omega)]; rfl
        · unfold pK; rw [if_neg (by omega)]
          show ((100 + i : Nat) : Int) = _
          omega
      have Hfx : Hid (x.fits ∧ x.ky.size = 1 ∧ x.c = pC (i + 1) ∧ x.k = pK (i + 1)) := hfx
      have HC : Hid (Calls Try.prog 10 #[.pointer (some ⟨g, 0, none⟩), .agg x.vals] w5 fun e w' => e = .returned (.bool true) ∧ Lv v1 (fun k => KM k ∨ k = Y) w' g (setS s x) (chL i ++ [x]) ∧ Kept (fun k => KM k ∨ k = Y) w5 w' ∧ w5.heap.size ≤ w'.heap.size) := lv_set2 HL5.out.1 x hfx.1 (by rw [hfx.2.1]; decide) (by rw [chL_len]; omega) hokx
      clear hokx hfx
      go_upto_region 13 with fail
      refine wp_region_lit ?_
      iterate 1 (refine wpList_plain rfl fun K hK => ?_; go_simp; refine hK _ _ ?_; clear hK K)
      refine wpList_load_mid rfl 41 (.tmp 9) rfl Y 0 rfl x.vals.toList _ (rangeAt_of HL5.out.2.1) Try.underlying41 rfl (by kernel_rfl) ?_
      simp only [Act.put, List.setIfInBounds_toArray, List.set_cons_succ, List.set_cons_zero]
      refine wpList_plain rfl fun K hK => ?_
      go_simp
      refine HC.out.mono ?_
      rintro e w6 ⟨rfl, hl6, hk6, hs6⟩
      refine hK _ _ ?_
      clear hK K
      have HL6 : Hid (Lv v1 (fun k => KM k ∨ k = Y) w6 g (setS s x) (chL (i + 1)) ∧ OpAt Y x w6 ∧ w6.heap[X]? = some (idO (pC i) (pK i)) ∧ NewZ v1 w6 (.slice ao7 i cap7) (List.replicate i kM) ∧ v1.heap.size ≤ X ∧ X ≠ Y) := by
        have e1 : chL (i + 1) = chL i ++ [x] := by rw [chL_succ, hx.out]
        have tt := HL5.out.1.keptT hl6 hk6 hs6
        have hX5 := (HL5.out.2.2.1.block X (lt_of_heap HQ.out.2.1) id).trans HQ.out.2.1
        have hXY : X < wr.heap.size := lt_of_heap HQ.out.2.1
        have hY0 := HL5.out.2.2.2
        refine ⟨by rw [e1]; exact hl6, (hk6 Y (.inr rfl)).trans HL5.out.2.1, (hk6 X (.inl HQ.out.2.2.2.2.1)).trans hX5, (HQ.out.2.2.1.on HL5.out.2.2.1).keptT tt (fun k hk => .inl (HQ.out.2.2.2.2.2 k hk).1) hl6.touch0, HXv.out, by omega⟩
      clear hl6 hk6 hs6 HC HL5
      generalize Value.agg x.vals = vx2
      go_upto_region 15 with fail
      refine wp_region_lit ?_
      iterate 1 (refine wpList_plain rfl fun K hK => ?_; go_simp; refine hK _ _ ?_; clear hK K)
      refine wpList_load_mid rfl 34 (.tmp 45) rfl Y 0 rfl [.int .u64 x.c, .int .u64 x.k] _ HL6.out.2.1.idAt Try.underlying34 rfl (by kernel_rfl) ?_
      simp only [Act.put, List.setIfInBounds_toArray, List.set_cons_succ, List.set_cons_zero]
      refine wpList_store_mid rfl 34 (.tmp 6) (.tmp 46) rfl X 0 #[.int .u64 x.c, .int .u64 x.k] rfl rfl (there_ofS HL6.out.2.2.1 0 2 (by show 0 + 2 ≤ 2; decide)) (by kernel_rfl) (by kernel_rfl) ?_
      simp only [Act.put]
      obtain ⟨w7, hw7⟩ : ∃ W, Hid (W = w6.setCells X 0 [.int .u64 x.c, .int .u64 x.k]) := ⟨_, Eq.refl _⟩
      have t67 : Touch (fun k => k = X) w6 w7 := by rw [hw7.out]; exact Touch.cells X _ 0 w6
      have HL7 : Hid (Lv v1 (fun k => KM k ∨ k = Y) w7 g (setS s x) (chL (i + 1)) ∧ w7.heap[X]? = some (idO (pC (i + 1)) (pK (i + 1))) ∧ NewZ v1 w7 (.slice ao7 i cap7) (List.replicate i kM)) := by
        have hXv := HXv.out
        refine ⟨HL6.out.1.stored t67 (.inl HQ.out.2.2.2.2.1) hXv, ?_, ?_⟩
        · rw [hw7.out, idO_stored HL6.out.2.2.1, Hfx.out.2.2.1, Hfx.out.2.2.2]
        · have h4 := HL6.out.2.2.2.1
          exact ⟨ownZ_touch h4.owns t67 fun k hk => (HQ.out.2.2.2.2.2 k hk).2, h4.touch.then t67 fun k hk e => by omega, h4.fresh⟩
      rw [← hw7.out]
      clear hw7 t67 HL6
      obtain ⟨v8, w8, hrun8, hN8, t8, ho8⟩ := strs_more HL7.out.2.2 kM (by rw [List.length_replicate]; omega)
      have HL8 : Hid ((setS s x).hid = [] ∧ w8.heap[X]? = some (idO (pC (i + 1)) (pK (i + 1))) ∧ NewZ v1 w8 v8 (List.replicate (i + 1) kM) ∧ ∃ K : Nat → Prop, Lv v1 K w8 g (setS s x) (chL (i + 1)) ∧ K X ∧ ∀ k, v8.ownBlock = some k → K k ∧ k ≠ X) := by
        have hX7 := lt_of_heap HL7.out.2.1
        refine ⟨by rw [hid_set]; exact HQ.out.1, (t8.block X hX7 fun e => (HQ.out.2.2.2.2.2 X e).2 rfl).trans HL7.out.2.1, by rw [List.replicate_succ']; exact hN8, _, HL7.out.1.boxesT t8 (fun k hk => ⟨.inl (HQ.out.2.2.2.2.2 k hk).1, HL7.out.2.2.fresh k hk⟩), .inl (.inl HQ.out.2.2.2.2.1), fun k hk => ?_⟩
        rcases ho8 with e | ⟨k2, e, h1, h2⟩
        · rw [e] at hk
          exact ⟨.inl (.inl (HQ.out.2.2.2.2.2 k hk).1), (HQ.out.2.2.2.2.2 k hk).2⟩
        · rw [e] at hk
          have := Option.some.inj hk
          subst this
          exact ⟨.inr ⟨h1, h2⟩, by omega⟩
      clear hN8 t8 ho8 HQ Hfx hx
      have hbs := run_build1S kM w7
      go_upto_region 16 with fail
      refine wp_region_lit ?_
      iterate 2 (refine wpList_plain rfl fun K hK => ?_; go_simp; refine hK _ _ ?_; clear hK K)
      refine wpList_append_runZ rfl (.tmp 47) (.tmp 48) rfl _ _ _ rfl rfl hrun8 ?_
      simp only [Act.put, List.setIfInBounds_toArray, List.set_cons_succ, List.set_cons_zero]
      clear hrun8 hbs HL7
      have w1' : IntKind.i64.wrap ((i : Int) + 1) = ((i + 1 : Nat) : Int) := by rw [IntKind.wrap_i64]; omega
      go_wp2_with fail
      go_roundg (D - (i + 1))
      case measure => have := Hig.out; omega
      case rel => exact ⟨i + 1, setS s x, by omega, rfl, HL8.out⟩
    · have hiD : i = D := by omega
      subst hiD
      have l1 : ¬ (i : Int) < (i : Int) := by omega
      clear hig hil
      have hfc := find_chain HQ.out.2.2.2.1.hasL (nest_one i zs) (by omega) (fun j hj => by unfold shS; rw [HQ.out.1]; rfl) (fun h => by cases h) i 0 (by omega)
      have C1 := lv_find HQ.out.2.2.2.1 _ _ HQ.out.2.2.1.strs (fun k hk => by rw [List.eq_of_mem_replicate hk]; decide) (by rw [List.length_replicate]; omega)
      rw [show findS s 0 0 (List.replicate i [109]) = (pC i, pK i, true) from hfc] at C1
      have C1h : Hid (Calls Try.prog 16 #[.pointer (some ⟨g, 0, none⟩), .slice ao7 i cap7] wr fun e w' => e = .returned (.tuple #[.agg #[.int .u64 (pC i), .int .u64 (pK i)], .bool true]) ∧ Touch (fun _ => False) wr w') := C1
      clear C1 hfc
      go_upto_region 17 with fail
      refine wp_region_lit ?_
      iterate 2 (refine wpList_plain rfl fun K hK => ?_; go_simp; refine hK _ _ ?_; clear hK K)
      refine wpList_plain rfl fun K hK => ?_
      go_simp
      refine C1h.out.mono ?_
      rintro e w9 ⟨rfl, t9⟩
      refine hK _ _ ?_
      clear hK K
      have HT9 : Hid (Touch (fun _ => False) wr w9) := t9
      clear t9 C1h
      iterate 4 (refine wpList_plain rfl fun K hK => ?_; go_simp; refine hK _ _ ?_; clear hK K)
      refine wpList_store_mid rfl 34 (.tmp 10) (.tmp 54) rfl w9.heap.size 0 #[.int .u64 (pC i), .int .u64 (pK i)] rfl rfl (there_ofS (heap_alloc_new w9 (idO 0 0)) 0 2 (by show 0 + 2 ≤ 2; decide)) (by kernel_rfl) (by kernel_rfl) ?_
      simp only [Act.put]
      obtain ⟨Z, hZz⟩ : ∃ X, Hid (X = w9.heap.size) := ⟨_, Eq.refl _⟩
      obtain ⟨w10, hw10⟩ : ∃ W, Hid (W = (w9.alloc (idO 0 0)).setCells w9.heap.size 0 [.int .u64 (pC i), .int .u64 (pK i)]) := ⟨_, Eq.refl _⟩
      have hb10 : w10.heap[Z]? = some (idO (pC i) (pK i)) := by
        rw [hw10.out, hZz.out]; exact idO_stored (heap_alloc_new w9 (idO 0 0))
      have t10 : Touch (fun _ => False) wr w10 := by rw [hw10.out]; exact HT9.out.trans (((Touch.refl _ _).alloc _).stores (Nat.le_refl _) 0 _)
      rw [← hw10.out, ← hZz.out]
      clear hw10 hZz HT9
      have HL10 : Hid (s.hid = [] ∧ w10.heap[X]? = some (idO (pC i) (pK i)) ∧ NewZ v1 w10 (.slice ao7 i cap7) (List.replicate i kM) ∧ Lv v1 KM w10 g s (chL i) ∧ KM X ∧ (∀ k, (Value.slice ao7 i cap7).ownBlock = some k → KM k)) := ⟨HQ.out.1, (t10.block X (lt_of_heap HQ.out.2.1) id).trans HQ.out.2.1, HQ.out.2.2.1.on t10, HQ.out.2.2.2.1.on t10, HQ.out.2.2.2.2.1, fun k hk => (HQ.out.2.2.2.2.2 k hk).1⟩
      clear t10 HQ
      have x0 : w10.cell? ⟨X, 0, none⟩ = some (.int .u64 (pC i)) := by rw [cell_of_block HL10.out.2.1]; rfl
      have x1 : w10.cell? ⟨X, 1, none⟩ = some (.int .u64 (pK i)) := by rw [cell_of_block HL10.out.2.1]; rfl
      have z0 : w10.cell? ⟨Z, 0, none⟩ = some (.int .u64 (pC i)) := by rw [cell_of_block hb10]; rfl
      have z1 : w10.cell? ⟨Z, 1, none⟩ = some (.int .u64 (pK i)) := by rw [cell_of_block hb10]; rfl
      have hneq := neq_id (i := i) hD1 hD6
      go_upto_region 20 with fail
      obtain ⟨y, hy⟩ : ∃ y, Hid (y = cvO) := ⟨_, Eq.refl _⟩
      have hS0 := setO_call (o := y) (ck := 50) (st := 8) (pc := 0) (pk := 0) (ky := kM) (v := intV 3) (by rw [hy.out]; rfl)
      have HSet : Hid (∀ W, Calls Try.prog 15 #[.int .u64 50, .int .u64 8, .agg #[.int .u64 0, .int .u64 0], .string ⟨#[109]⟩, .agg #[.int .i64 2, .int .i64 3, .float .f64 0, .string ⟨#[]⟩]] W fun e w' => e = .returned (.agg y.vals) ∧ Touch (fun _ => False) W w') := hS0
      clear hS0 x0 x1 z0 z1 hb10 hneq
      refine wp_region_lit ?_
      iterate 2 (refine wpList_plain rfl fun K hK => ?_; go_simp; refine hK _ _ ?_; clear hK K)
      refine wpList_plain rfl fun K hK => ?_
      go_simp
      refine (HSet.out _).mono ?_
      rintro e w11 ⟨rfl, t11⟩
      refine hK _ _ ?_
      clear hK K
      have HT11 : Hid (Touch (fun _ => False) w10 w11) := t11
      clear t11 HSet
      iterate 1 (refine wpList_plain rfl fun K hK => ?_; go_simp; refine hK _ _ ?_; clear hK K)
      refine wpList_store_mid rfl 41 (.tmp 12) (.tmp 65) rfl w11.heap.size 0 y.vals rfl rfl (OpAt.there (o := zeroO) (heap_alloc_new w11 zeroOp) 0 22 (by decide)) (by kernel_rfl) (by kernel_rfl) ?_
      simp only [Act.put]
      have hnn := newOpM w11 y
      obtain ⟨Y, hYy⟩ : ∃ Y, Hid (Y = w11.heap.size) := ⟨_, Eq.refl _⟩
      obtain ⟨w12, hw12⟩ : ∃ W, Hid (W = (w11.alloc zeroOp).setCells w11.heap.size 0 y.vals.toList) := ⟨_, Eq.refl _⟩
      rw [← hw12.out] at hnn ⊢
      rw [← hYy.out] at hnn ⊢
      have t12 := HT11.out.trans hnn.1
      have HL12 : Hid (s.hid = [] ∧ w12.heap[X]? = some (idO (pC i) (pK i)) ∧ NewZ v1 w12 (.slice ao7 i cap7) (List.replicate i kM) ∧ Lv v1 KM w12 g s (chL i) ∧ KM X ∧ (∀ k, (Value.slice ao7 i cap7).ownBlock = some k → KM k) ∧ OpAt Y y w12) := ⟨HL10.out.1, (t12.block X (lt_of_heap HL10.out.2.1) id).trans HL10.out.2.1, HL10.out.2.2.1.on t12, HL10.out.2.2.2.1.on t12, HL10.out.2.2.2.2.1, HL10.out.2.2.2.2.2, hnn.2⟩
      clear hw12 hnn hYy HT11 t12 HL10
      generalize Value.agg y.vals = vy
      have hoky := ok_cv HL12.out.2.2.2.1.hasL
      rw [← hy.out] at hoky
      have HC : Hid (Calls Try.prog 10 #[.pointer (some ⟨g, 0, none⟩), .agg y.vals] w12 fun e w' => e = .returned (.bool true) ∧ Lv v1 KM w' g (setS s y) (chL i ++ [y]) ∧ Kept KM w12 w' ∧ w12.heap.size ≤ w'.heap.size) := lv_set2 HL12.out.2.2.2.1 y (by rw [hy.out]; exact fits_cv) (by rw [hy.out]; decide) (by rw [chL_len]; omega) hoky
      clear hoky
      go_upto_region 21 with fail
      refine wp_region_lit ?_
      iterate 1 (refine wpList_plain rfl fun K hK => ?_; go_simp; refine hK _ _ ?_; clear hK K)
      refine wpList_load_mid rfl 41 (.tmp 12) rfl Y 0 rfl y.vals.toList _ (rangeAt_of HL12.out.2.2.2.2.2.2) Try.underlying41 rfl (by kernel_rfl) ?_
      simp only [Act.put, List.setIfInBounds_toArray, List.set_cons_succ, List.set_cons_zero]
      refine wpList_plain rfl fun K hK => ?_
      go_simp
      refine HC.out.mono ?_
      rintro e w13 ⟨rfl, hl13, hk13, hs13⟩
      refine hK _ _ ?_
      clear hK K
      obtain ⟨s1, hs1⟩ : ∃ s1, Hid (s1 = setS s y) := ⟨_, Eq.refl _⟩
      have HL13 : Hid (s1.hid = [] ∧ w13.heap[X]? = some (idO (pC i) (pK i)) ∧ NewZ v1 w13 (.slice ao7 i cap7) (List.replicate i kM) ∧ Lv v1 KM w13 g s1 (chL i ++ [cvO] ++ lfP 1 ((99 + i : Nat) : Int) zs 0) ∧ KM X ∧ (∀ k, (Value.slice ao7 i cap7).ownBlock = some k → KM k)) := by
        have tt := HL12.out.2.2.2.1.keptT hl13 hk13 hs13
        refine ⟨by rw [hs1.out, hid_set]; exact HL12.out.1, (hk13 X HL12.out.2.2.2.2.1).trans HL12.out.2.1, HL12.out.2.2.1.keptT tt HL12.out.2.2.2.2.2.1 hl13.touch0, ?_, HL12.out.2.2.2.2.1, HL12.out.2.2.2.2.2.1⟩
        rw [hs1.out]
        have e1 : chL i ++ [cvO] ++ lfP 1 ((99 + i : Nat) : Int) zs 0 = chL i ++ [y] := by rw [hy.out]; exact List.append_nil _
        rw [e1]; exact hl13
      clear hl13 hk13 hs13 HC HL12 hs1 hy
      generalize Value.agg y.vals = vy2
      have hsh1 : ∀ c k, shS s1 c k = true := fun c k => by unfold shS; rw [HL13.out.1]; rfl
      have C2 := lv_find HL13.out.2.2.2.1 _ _ HL13.out.2.2.1.strs (fun k hk => by rw [List.eq_of_mem_replicate hk]; decide) (by rw [List.length_replicate]; omega)
      rw [find_cov HL13.out.2.2.2.1.hasL (nest_two i 0 zs) hD1 (hsh1 1 50)] at C2
      have C2h : Hid (Calls Try.prog 16 #[.pointer (some ⟨g, 0, none⟩), .slice ao7 i cap7] w13 fun e w' => e = .returned (.tuple #[.agg #[.int .u64 0, .int .u64 0], .bool false]) ∧ Touch (fun _ => False) w13 w') := C2
      clear C2 hsh1
      go_upto_region 22 with fail
      refine wp_region_lit ?_
      iterate 2 (refine wpList_plain rfl fun K hK => ?_; go_simp; refine hK _ _ ?_; clear hK K)
      refine wpList_plain rfl fun K hK => ?_
      go_simp
      refine C2h.out.mono ?_
      rintro e w14 ⟨rfl, t14⟩
      refine hK _ _ ?_
      clear hK K
      have HT14 : Hid (Touch (fun _ => False) w13 w14) := t14
      clear t14 C2h
      iterate 4 (refine wpList_plain rfl fun K hK => ?_; go_simp; refine hK _ _ ?_; clear hK K)
      refine wpList_store_mid rfl 34 (.tmp 13) (.tmp 73) rfl w14.heap.size 0 #[.int .u64 0, .int .u64 0] rfl rfl (there_ofS (heap_alloc_new w14 (idO 0 0)) 0 2 (by show 0 + 2 ≤ 2; decide)) (by kernel_rfl) (by kernel_rfl) ?_
      simp only [Act.put]
      obtain ⟨w15, hw15⟩ : ∃ W, Hid (W = (w14.alloc (idO 0 0)).setCells w14.heap.size 0 [.int .u64 0, .int .u64 0]) := ⟨_, Eq.refl _⟩
      have t15 : Touch (fun _ => False) w13 w15 := by rw [hw15.out]; exact HT14.out.trans (((Touch.refl _ _).alloc _).stores (Nat.le_refl _) 0 _)
      rw [← hw15.out]
      obtain ⟨Z2, hZ2⟩ : ∃ Z, Hid (Z = w14.heap.size) := ⟨_, Eq.refl _⟩
      rw [← hZ2.out]
      clear hw15 hZ2 HT14
      have HL15 : Hid (s1.hid = [] ∧ w15.heap[X]? = some (idO (pC i) (pK i)) ∧ Lv v1 KM w15 g s1 (chL i ++ [cvO] ++ lfP 1 ((99 + i : Nat) : Int) zs 0) ∧ KM X) := ⟨HL13.out.1, (t15.block X (lt_of_heap HL13.out.2.1) id).trans HL13.out.2.1, HL13.out.2.2.2.1.on t15, HL13.out.2.2.2.2.1⟩
      clear t15 HL13
      have HV1 : Hid (Calls Try.prog 13 #[.pointer (some ⟨g, 0, none⟩)] w15 fun e w' => ∃ v, e = .returned v ∧ Touch (fun _ => False) w15 w' ∧ Calls Try.prog 12 #[v] w' fun e w'' => e = .returned (.string covB) ∧ Touch (fun _ => False) w' w'') := cov_any HL15.out.2.2.1 (nest_two i 0 zs) hD1 (by omega) (by unfold shS; rw [HL15.out.1]; rfl) (by simp [chL_len, lfP_len]; omega)
      go_wp2_with fail
      refine HV1.out.mono ?_
      rintro e w16 ⟨vv, rfl, t16, hc16⟩
      have HC16 : Hid (Touch (fun _ => False) w15 w16 ∧ Calls Try.prog 12 #[vv] w16 fun e w'' => e = .returned (.string covB) ∧ Touch (fun _ => False) w16 w'') := ⟨t16, hc16⟩
      clear t16 hc16 HV1
      go_wp2_with fail
      refine HC16.out.2.mono ?_
      rintro e w17 ⟨rfl, t17⟩
      have HL17 : Hid (s1.hid = [] ∧ w17.heap[X]? = some (idO (pC i) (pK i)) ∧ Lv v1 KM w17 g s1 (chL i ++ [cvO] ++ lfP 1 ((99 + i : Nat) : Int) zs 0) ∧ KM X) := by
        have tt := HC16.out.1.trans t17
        exact ⟨HL15.out.1, (tt.block X (lt_of_heap HL15.out.2.1) id).trans HL15.out.2.1, HL15.out.2.2.1.on tt, HL15.out.2.2.2⟩
      clear t17 HC16 HL15
      go_wp2_with fail
      go_loopg [15] zs.length (fun gk s15 wr => ∃ (j : Nat) (s : MS), j + gk = zs.length ∧ s15 = .int .i64 (j : Int) ∧ Hid (s.hid = [] ∧ wr.heap[X]? = some (idO (pC i) (pK i)) ∧ Lv v1 KM wr g s (chL i ++ [cvO] ++ lfP 1 ((99 + i : Nat) : Int) zs j)))
      case atStart => exact ⟨0, s1, by omega, rfl, HL17.out.1, HL17.out.2.1, HL17.out.2.2.1⟩
      case round =>
        obtain ⟨j, s, hjg, rfl, HR⟩ := hrel
        have HKX : Hid (KM X) := HL17.out.2.2.2
        clear HL17
        by_cases hjl : j < zs.length
        · obtain ⟨sb, so, rfl, hzc⟩ := HZ.out.1.atN hjl
          obtain ⟨z, hz⟩ : ∃ z, z = zs[j]'hjl := ⟨_, rfl⟩
          have hz2 := HZ.out.2 z (by rw [hz]; exact List.getElem_mem _)
          have hgd : zs.getD j 0 = z := by rw [hz, List.getD_eq_getElem?_getD, List.getElem?_eq_getElem hjl]; rfl
          rw [← hz] at hzc
          have l1 : (j : Int) < (zs.length : Int) := by omega
          have l0 : (0 : Int) ≤ (j : Int) := by omega
          have l3 : (j : Int) < 40 := by omega
          obtain ⟨ck, hck⟩ : ∃ ck, ck = ((200 + j : Nat) : Int) := ⟨_, rfl⟩
          have c1 : IntKind.i64.wrap (200 + (j : Int)) = ck := by rw [IntKind.wrap_i64]; omega
          have c2 : IntKind.u64.wrap ck = ck := wrap_u64_small _ (by omega) (by omega)
          obtain ⟨r8, hr8⟩ : ∃ r, r = z % 8 := ⟨_, rfl⟩
          obtain ⟨st, hst⟩ : ∃ r, r = z % 8 + 1 := ⟨_, rfl⟩
          have y1 : Int.tmod z 8 = r8 := by rw [Int.tmod_eq_emod_of_nonneg hz2.1, ← hr8]
          have y2 : IntKind.u16.wrap r8 = r8 := by simp [IntKind.wrap, IntKind.signed, IntKind.bits]; omega
          have y3 : IntKind.u16.wrap (r8 + 1) = st := by simp [IntKind.wrap, IntKind.signed, IntKind.bits]; omega
          have y4 : IntKind.u64.wrap st = st := wrap_u64_small _ (by omega) (by omega)
          obtain ⟨lo, hlo⟩ : ∃ r : Nat, r = (z % 3).toNat := ⟨_, rfl⟩
          obtain ⟨hi, hhi⟩ : ∃ r : Int, r = (lo : Int) + 1 := ⟨_, rfl⟩
          have hlo3 : lo < 3 := by omega
          have u3 : Int.tmod z 3 = (lo : Int) := by rw [Int.tmod_eq_emod_of_nonneg hz2.1, hlo]; omega
          have u4 : IntKind.u16.wrap (lo : Int) = (lo : Int) := by simp [IntKind.wrap, IntKind.signed, IntKind.bits]; omega
          have u5 : IntKind.u16.wrap ((lo : Int) + 1) = hi := by simp [IntKind.wrap, IntKind.signed, IntKind.bits]; omega
          have u6 : (0 : Int) ≤ (lo : Int) := by omega
          have u7 : (lo : Int) ≤ hi := by omega
          have u8 : hi ≤ 3 := by omega
          have u9 : hi.toNat = lo + 1 := by omega
          have u10 : (0 : Int) ≤ hi := by omega
          have u11 : (ByteArray.mk #[97, 98, 99]).size = 3 := rfl
          obtain ⟨x, hx⟩ : ∃ x, Hid (x = lfO 1 ((99 + i : Nat) : Int) z j) := ⟨_, Eq.refl _⟩
          obtain ⟨xc, hxc⟩ : ∃ c, c = pC i := ⟨_, rfl⟩
          obtain ⟨xk, hxk⟩ : ∃ c, c = pK i := ⟨_, rfl⟩
          have e1 : xc = 1 := by rw [hxc]; unfold pC; rw [if_neg (by omega)]
          have e2 : xk = ((99 + i : Nat) : Int) := by rw [hxk]; unfold pK; rw [if_neg (by omega)]
          have hS0 := setO_call (o := x) (ck := ck) (st := st) (pc := xc) (pk := xk) (ky := keyL lo) (v := intV (j : Int)) (by rw [hx.out, hck, hst, hlo, e1, e2]; rfl)
          have HSet : Hid (∀ W, Calls Try.prog 15 #[.int .u64 ck, .int .u64 st, .agg #[.int .u64 xc, .int .u64 xk], .string (ByteArray.extract (ByteArray.mk #[97, 98, 99]) lo (lo + 1)), .agg #[.int .i64 2, .int .i64 (j : Int), .float .f64 0, .string ⟨#[]⟩]] W fun e w' => e = .returned (.agg x.vals) ∧ Touch (fun _ => False) W w') := hS0
          have hokx := ok_lf HR.out.2.2.hasL (nest_two i j zs) hD1 (by omega) (by omega) z
          rw [← hx.out] at hokx
          have hfx : x.fits ∧ x.ky.size ≤ 281474976710656 := by
            rw [hx.out]
            refine ⟨fits_lf (by omega) (by unfold U64; decide) (by unfold U64; omega), ?_⟩
            have := (keyL_short _ (lf_key z)).1
            show (keyL (z % 3).toNat).size ≤ _
            omega
          have HC : Hid (∀ W, Touch (fun _ => False) wr W → Calls Try.prog 10 #[.pointer (some ⟨g, 0, none⟩), .agg x.vals] W fun e w' => e = .returned (.bool true) ∧ Lv v1 KM w' g (setS s x) (chL i ++ [cvO] ++ lfP 1 ((99 + i : Nat) : Int) zs j ++ [x]) ∧ Kept KM W w' ∧ W.heap.size ≤ w'.heap.size) := fun W t => lv_set2 (HR.out.2.2.on t) x hfx.1 hfx.2 (by simp [chL_len, lfP_len]; omega) hokx
          have HS : Hid (∀ V, Touch (fun _ => False) wr V → (V.cell? ⟨sb, so + j, none⟩ = some (.int .u16 z) ∧ V.cell? ⟨X, 0, none⟩ = some (.int .u64 xc) ∧ V.cell? ⟨X, 1, none⟩ = some (.int .u64 xk))) := fun V t => by
            have hb := (t.block X (lt_of_heap HR.out.2.1) id).trans HR.out.2.1
            exact ⟨hzc V (HT1.out.trans (HR.out.2.2.touch0.trans t)), by rw [cell_of_block hb, hxc]; rfl, by rw [cell_of_block hb, hxk]; rfl⟩
          have HS9 : Hid (∀ u2 u3, Touch (fun _ => False) wr u2 → Lv v1 KM u3 g (setS s x) (chL i ++ [cvO] ++ lfP 1 ((99 + i : Nat) : Int) zs j ++ [x]) → Kept KM u2 u3 → u2.heap.size ≤ u3.heap.size → (u3.cell? ⟨sb, so + j, none⟩ = some (.int .u16 z) ∧ u3.cell? ⟨X, 0, none⟩ = some (.int .u64 xc) ∧ u3.cell? ⟨X, 1, none⟩ = some (.int .u64 xk))) := fun u2 u3 t hl hk _ => by
            have hb := (hk X HKX.out).trans ((t.block X (lt_of_heap HR.out.2.1) id).trans HR.out.2.1)
            exact ⟨hzc u3 (HT1.out.trans hl.touch0), by rw [cell_of_block hb, hxc]; rfl, by rw [cell_of_block hb, hxk]; rfl⟩
          have HF : Hid (∀ u2 u3, Touch (fun _ => False) wr u2 → Lv v1 KM u3 g (setS s x) (chL i ++ [cvO] ++ lfP 1 ((99 + i : Nat) : Int) zs j ++ [x]) → Kept KM u2 u3 → ((setS s x).hid = [] ∧ u3.heap[X]? = some (idO (pC i) (pK i)) ∧ Lv v1 KM u3 g (setS s x) (chL i ++ [cvO] ++ lfP 1 ((99 + i : Nat) : Int) zs (j + 1)))) := fun u2 u3 t hl hk => by
            refine ⟨by rw [hid_set]; exact HR.out.1, (hk X HKX.out).trans ((t.block X (lt_of_heap HR.out.2.1) id).trans HR.out.2.1), ?_⟩
            rw [lfP_succ, hgd, ← hx.out, ← List.append_assoc]; exact hl
          have Hjl : Hid (j < zs.length ∧ j + gk = zs.length) := ⟨hjl, hjg⟩
          clear hzc hz hgd hck hr8 hst hlo hhi hxc hxk e1 e2 hS0 hokx hfx hz2 hlo3 hjg hx
          go_upto_region 28 with fail
          refine wp_region_held_drew (S := fun V => V.cell? ⟨sb, so + j, none⟩ = some (.int .u16 z) ∧ V.cell? ⟨X, 0, none⟩ = some (.int .u64 xc) ∧ V.cell? ⟨X, 1, none⟩ = some (.int .u64 xk)) (by kernel_rfl) (HS.out _ ((Touch.refl _ _).drew)) (fun hHeld => ?_)
          obtain ⟨U9, hU9⟩ : ∃ U9, Hid (U9 = wr.drew) := ⟨_, Eq.refl _⟩
          have HU9 : Hid (Touch (fun _ => False) wr U9) := by rw [hU9.out]; exact (Touch.refl _ _).drew
          rw [← hU9.out] at hHeld ⊢
          clear hU9
          refine wpAnyH_take (i := 0) (oi := { dst := some 88, op := Go.Op.move (Go.Operand.tmp 5), type := 28, pos := "law.go:188", after := #[], guard := none }) (v := .pointer (some ⟨g, 0, none⟩)) rfl (by kernel_rfl) (by kernel_rfl) (by kernel_rfl) (fun _ _ _ h => h) (Or.inl ⟨by kernel_rfl, ?_⟩) hHeld ?_
          · intro V1 hV1; obtain ⟨z0, y0, y1⟩ := hV1; go_simp
          simp only [Act.put, List.setIfInBounds_toArray, List.set_cons_succ, List.set_cons_zero]
          refine wpAnyH_take (i := 1) (oi := { dst := some 89, op := Go.Op.move (Go.Operand.tmp 15), type := 3, pos := "law.go:188", after := #[], guard := none }) (v := .int .i64 (j : Int)) rfl (by kernel_rfl) (by kernel_rfl) (by kernel_rfl) (fun _ _ _ h => h) (Or.inl ⟨by kernel_rfl, ?_⟩) hHeld ?_
          · intro V1 hV1; obtain ⟨z0, y0, y1⟩ := hV1; go_simp
          simp only [Act.put, List.setIfInBounds_toArray, List.set_cons_succ, List.set_cons_zero]
          refine wpAnyH_take (i := 2) (oi := { dst := some 90, op := Go.Op.binOp Go.BinOp.add 3 (Go.Operand.const (Go.Value.int Go.IntKind.i64 200)) (Go.Operand.tmp 89) 3, type := 3, pos := "law.go:188", after := #[{ on := 1, ground := Go.Ground.data }], guard := none }) (v := .int .i64 ck) rfl (by kernel_rfl) (by kernel_rfl) (by kernel_rfl) (fun _ _ _ h => h) (Or.inl ⟨by kernel_rfl, ?_⟩) hHeld ?_
          · intro V1 hV1; obtain ⟨z0, y0, y1⟩ := hV1; go_simp
          simp only [Act.put, List.setIfInBounds_toArray, List.set_cons_succ, List.set_cons_zero]
          refine wpAnyH_take (i := 3) (oi := { dst := some 91, op := Go.Op.convert 3 32 (Go.Operand.tmp 90), type := 32, pos := "law.go:188", after := #[{ on := 2, ground := Go.Ground.data }], guard := none }) (v := .int .u64 ck) rfl (by kernel_rfl) (by kernel_rfl) (by kernel_rfl) (fun _ _ _ h => h) (Or.inl ⟨by kernel_rfl, ?_⟩) hHeld ?_
          · intro V1 hV1; obtain ⟨z0, y0, y1⟩ := hV1; go_simp
          simp only [Act.put, List.setIfInBounds_toArray, List.set_cons_succ, List.set_cons_zero]
          refine wpAnyH_take (i := 4) (oi := { dst := some 92, op := Go.Op.move (Go.Operand.tmp 0), type := 22, pos := "law.go:188", after := #[], guard := none }) (v := .slice (some ⟨sb, so, none⟩) zs.length cap) rfl (by kernel_rfl) (by kernel_rfl) (by kernel_rfl) (fun _ _ _ h => h) (Or.inl ⟨by kernel_rfl, ?_⟩) hHeld ?_
          · intro V1 hV1; obtain ⟨z0, y0, y1⟩ := hV1; go_simp
          simp only [Act.put, List.setIfInBounds_toArray, List.set_cons_succ, List.set_cons_zero]
          refine wpAnyH_take (i := 5) (oi := { dst := some 93, op := Go.Op.move (Go.Operand.tmp 15), type := 3, pos := "law.go:188", after := #[], guard := none }) (v := .int .i64 (j : Int)) rfl (by kernel_rfl) (by kernel_rfl) (by kernel_rfl) (fun _ _ _ h => h) (Or.inl ⟨by kernel_rfl, ?_⟩) hHeld ?_
          · intro V1 hV1; obtain ⟨z0, y0, y1⟩ := hV1; go_simp
          simp only [Act.put, List.setIfInBounds_toArray, List.set_cons_succ, List.set_cons_zero]
          refine wpAnyH_take (i := 6) (oi := { dst := some 94, op := Go.Op.indexAddr 22 (Go.Operand.tmp 92) (Go.Operand.tmp 93), type := 0, pos := "law.go:188", after := #[{ on := 4, ground := Go.Ground.data }, { on := 5, ground := Go.Ground.data }], guard := none }) (v := .pointer (some ⟨sb, so + j, none⟩)) rfl (by kernel_rfl) (by kernel_rfl) (by kernel_rfl) (fun _ _ _ h => h) (Or.inl ⟨by kernel_rfl, ?_⟩) hHeld ?_
          · intro V1 hV1; obtain ⟨z0, y0, y1⟩ := hV1; go_simp
          simp only [Act.put, List.setIfInBounds_toArray, List.set_cons_succ, List.set_cons_zero]
          refine wpAnyH_take (i := 7) (oi := { dst := some 95, op := Go.Op.load 52 (Go.Operand.tmp 94), type := 52, pos := "law.go:188", after := #[{ on := 6, ground := Go.Ground.data }], guard := none }) (v := .int .u16 z) rfl (by kernel_rfl) (by kernel_rfl) (by kernel_rfl) (fun _ _ _ h => h) (Or.inl ⟨by kernel_rfl, ?_⟩) hHeld ?_
          · intro V1 hV1; obtain ⟨z0, y0, y1⟩ := hV1; go_simp
          simp only [Act.put, List.setIfInBounds_toArray, List.set_cons_succ, List.set_cons_zero]
          refine wpAnyH_take (i := 8) (oi := { dst := some 96, op := Go.Op.binOp Go.BinOp.rem 52 (Go.Operand.tmp 95) (Go.Operand.const (Go.Value.int Go.IntKind.u16 8)) 52, type := 52, pos := "law.go:188", after := #[{ on := 7, ground := Go.Ground.data }], guard := none }) (v := .int .u16 r8) rfl (by kernel_rfl) (by kernel_rfl) (by kernel_rfl) (fun _ _ _ h => h) (Or.inl ⟨by kernel_rfl, ?_⟩) hHeld ?_
          · intro V1 hV1; obtain ⟨z0, y0, y1⟩ := hV1; go_simp
          simp only [Act.put, List.setIfInBounds_toArray, List.set_cons_succ, List.set_cons_zero]
          refine wpAnyH_take (i := 9) (oi := { dst := some 97, op := Go.Op.binOp Go.BinOp.add 52 (Go.Operand.tmp 96) (Go.Operand.const (Go.Value.int Go.IntKind.u16 1)) 52, type := 52, pos := "law.go:188", after := #[{ on := 8, ground := Go.Ground.data }], guard := none }) (v := .int .u16 st) rfl (by kernel_rfl) (by kernel_rfl) (by kernel_rfl) (fun _ _ _ h => h) (Or.inl ⟨by kernel_rfl, ?_⟩) hHeld ?_
          · intro V1 hV1; obtain ⟨z0, y0, y1⟩ := hV1; go_simp
          simp only [Act.put, List.setIfInBounds_toArray, List.set_cons_succ, List.set_cons_zero]
          refine wpAnyH_take (i := 10) (oi := { dst := some 98, op := Go.Op.convert 52 32 (Go.Operand.tmp 97), type := 32, pos := "law.go:188", after := #[{ on := 9, ground := Go.Ground.data }], guard := none }) (v := .int .u64 st) rfl (by kernel_rfl) (by kernel_rfl) (by kernel_rfl) (fun _ _ _ h => h) (Or.inl ⟨by kernel_rfl, ?_⟩) hHeld ?_
          · intro V1 hV1; obtain ⟨z0, y0, y1⟩ := hV1; go_simp
          simp only [Act.put, List.setIfInBounds_toArray, List.set_cons_succ, List.set_cons_zero]
          refine wpAnyH_take (i := 11) (oi := { dst := some 99, op := Go.Op.load 34 (Go.Operand.tmp 6), type := 34, pos := "law.go:188", after := #[], guard := none }) (v := .agg #[.int .u64 xc, .int .u64 xk]) rfl (by kernel_rfl) (by kernel_rfl) (by kernel_rfl) (fun _ _ _ h => h) (Or.inl ⟨by kernel_rfl, ?_⟩) hHeld ?_
          · intro V1 hV1; obtain ⟨z0, y0, y1⟩ := hV1; go_simp
          simp only [Act.put, List.setIfInBounds_toArray, List.set_cons_succ, List.set_cons_zero]
          refine wpAnyH_take (i := 12) (oi := { dst := some 100, op := Go.Op.move (Go.Operand.tmp 0), type := 22, pos := "law.go:188", after := #[], guard := none }) (v := .slice (some ⟨sb, so, none⟩) zs.length cap) rfl (by kernel_rfl) (by kernel_rfl) (by kernel_rfl) (fun _ _ _ h => h) (Or.inl ⟨by kernel_rfl, ?_⟩) hHeld ?_
          · intro V1 hV1; obtain ⟨z0, y0, y1⟩ := hV1; go_simp
          simp only [Act.put, List.setIfInBounds_toArray, List.set_cons_succ, List.set_cons_zero]
          refine wpAnyH_take (i := 13) (oi := { dst := some 101, op := Go.Op.move (Go.Operand.tmp 15), type := 3, pos := "law.go:188", after := #[], guard := none }) (v := .int .i64 (j : Int)) rfl (by kernel_rfl) (by kernel_rfl) (by kernel_rfl) (fun _ _ _ h => h) (Or.inl ⟨by kernel_rfl, ?_⟩) hHeld ?_
          · intro V1 hV1; obtain ⟨z0, y0, y1⟩ := hV1; go_simp
          simp only [Act.put, List.setIfInBounds_toArray, List.set_cons_succ, List.set_cons_zero]
          refine wpAnyH_take (i := 14) (oi := { dst := some 102, op := Go.Op.indexAddr 22 (Go.Operand.tmp 100) (Go.Operand.tmp 101), type := 0, pos := "law.go:188", after := #[{ on := 12, ground := Go.Ground.data }, { on := 13, ground := Go.Ground.data }], guard := none }) (v := .pointer (some ⟨sb, so + j, none⟩)) rfl (by kernel_rfl) (by kernel_rfl) (by kernel_rfl) (fun _ _ _ h => h) (Or.inl ⟨by kernel_rfl, ?_⟩) hHeld ?_
          · intro V1 hV1; obtain ⟨z0, y0, y1⟩ := hV1; go_simp
          simp only [Act.put, List.setIfInBounds_toArray, List.set_cons_succ, List.set_cons_zero]
          refine wpAnyH_take (i := 15) (oi := { dst := some 103, op := Go.Op.load 52 (Go.Operand.tmp 102), type := 52, pos := "law.go:188", after := #[{ on := 14, ground := Go.Ground.data }], guard := none }) (v := .int .u16 z) rfl (by kernel_rfl) (by kernel_rfl) (by kernel_rfl) (fun _ _ _ h => h) (Or.inl ⟨by kernel_rfl, ?_⟩) hHeld ?_
          · intro V1 hV1; obtain ⟨z0, y0, y1⟩ := hV1; go_simp
          simp only [Act.put, List.setIfInBounds_toArray, List.set_cons_succ, List.set_cons_zero]
          refine wpAnyH_take (i := 16) (oi := { dst := some 104, op := Go.Op.binOp Go.BinOp.rem 52 (Go.Operand.tmp 103) (Go.Operand.const (Go.Value.int Go.IntKind.u16 3)) 52, type := 52, pos := "law.go:188", after := #[{ on := 15, ground := Go.Ground.data }], guard := none }) (v := .int .u16 (lo : Int)) rfl (by kernel_rfl) (by kernel_rfl) (by kernel_rfl) (fun _ _ _ h => h) (Or.inl ⟨by kernel_rfl, ?_⟩) hHeld ?_
          · intro V1 hV1; obtain ⟨z0, y0, y1⟩ := hV1; go_simp
          simp only [Act.put, List.setIfInBounds_toArray, List.set_cons_succ, List.set_cons_zero]
          refine wpAnyH_take (i := 17) (oi := { dst := some 105, op := Go.Op.move (Go.Operand.tmp 0), type := 22, pos := "law.go:188", after := #[], guard := none }) (v := .slice (some ⟨sb, so, none⟩) zs.length cap) rfl (by kernel_rfl) (by kernel_rfl) (by kernel_rfl) (fun _ _ _ h => h) (Or.inl ⟨by kernel_rfl, ?_⟩) hHeld ?_
          · intro V1 hV1; obtain ⟨z0, y0, y1⟩ := hV1; go_simp
          simp only [Act.put, List.setIfInBounds_toArray, List.set_cons_succ, List.set_cons_zero]
          refine wpAnyH_take (i := 18) (oi := { dst := some 106, op := Go.Op.move (Go.Operand.tmp 15), type := 3, pos := "law.go:188", after := #[], guard := none }) (v := .int .i64 (j : Int)) rfl (by kernel_rfl) (by kernel_rfl) (by kernel_rfl) (fun _ _ _ h => h) (Or.inl ⟨by kernel_rfl, ?_⟩) hHeld ?_
          · intro V1 hV1; obtain ⟨z0, y0, y1⟩ := hV1; go_simp
          simp only [Act.put, List.setIfInBounds_toArray, List.set_cons_succ, List.set_cons_zero]
          refine wpAnyH_take (i := 19) (oi := { dst := some 107, op := Go.Op.indexAddr 22 (Go.Operand.tmp 105) (Go.Operand.tmp 106), type := 0, pos := "law.go:188", after := #[{ on := 17, ground := Go.Ground.data }, { on := 18, ground := Go.Ground.data }], guard := none }) (v := .pointer (some ⟨sb, so + j, none⟩)) rfl (by kernel_rfl) (by kernel_rfl) (by kernel_rfl) (fun _ _ _ h => h) (Or.inl ⟨by kernel_rfl, ?_⟩) hHeld ?_
          · intro V1 hV1; obtain ⟨z0, y0, y1⟩ := hV1; go_simp
          simp only [Act.put, List.setIfInBounds_toArray, List.set_cons_succ, List.set_cons_zero]
          refine wpAnyH_take (i := 20) (oi := { dst := some 108, op := Go.Op.load 52 (Go.Operand.tmp 107), type := 52, pos := "law.go:188", after := #[{ on := 19, ground := Go.Ground.data }], guard := none }) (v := .int .u16 z) rfl (by kernel_rfl) (by kernel_rfl) (by kernel_rfl) (fun _ _ _ h => h) (Or.inl ⟨by kernel_rfl, ?_⟩) hHeld ?_
          · intro V1 hV1; obtain ⟨z0, y0, y1⟩ := hV1; go_simp
          simp only [Act.put, List.setIfInBounds_toArray, List.set_cons_succ, List.set_cons_zero]
          refine wpAnyH_take (i := 21) (oi := { dst := some 109, op := Go.Op.binOp Go.BinOp.rem 52 (Go.Operand.tmp 108) (Go.Operand.const (Go.Value.int Go.IntKind.u16 3)) 52, type := 52, pos := "law.go:188", after := #[{ on := 20, ground := Go.Ground.data }], guard := none }) (v := .int .u16 (lo : Int)) rfl (by kernel_rfl) (by kernel_rfl) (by kernel_rfl) (fun _ _ _ h => h) (Or.inl ⟨by kernel_rfl, ?_⟩) hHeld ?_
          · intro V1 hV1; obtain ⟨z0, y0, y1⟩ := hV1; go_simp
          simp only [Act.put, List.setIfInBounds_toArray, List.set_cons_succ, List.set_cons_zero]
          refine wpAnyH_take (i := 22) (oi := { dst := some 110, op := Go.Op.binOp Go.BinOp.add 52 (Go.Operand.tmp 109) (Go.Operand.const (Go.Value.int Go.IntKind.u16 1)) 52, type := 52, pos := "law.go:188", after := #[{ on := 21, ground := Go.Ground.data }], guard := none }) (v := .int .u16 hi) rfl (by kernel_rfl) (by kernel_rfl) (by kernel_rfl) (fun _ _ _ h => h) (Or.inl ⟨by kernel_rfl, ?_⟩) hHeld ?_
          · intro V1 hV1; obtain ⟨z0, y0, y1⟩ := hV1; go_simp
          simp only [Act.put, List.setIfInBounds_toArray, List.set_cons_succ, List.set_cons_zero]
          refine wpAnyH_take (i := 23) (oi := { dst := some 111, op := Go.Op.slice 9 (Go.Operand.const (Go.Value.string { data := #[97, 98, 99] })) (some (Go.Operand.tmp 104)) (some (Go.Operand.tmp 110)) none, type := 9, pos := "law.go:188", after := #[{ on := 16, ground := Go.Ground.data }, { on := 22, ground := Go.Ground.data }], guard := none }) (v := .string (ByteArray.extract (ByteArray.mk #[97, 98, 99]) lo (lo + 1))) rfl (by kernel_rfl) (by kernel_rfl) (by kernel_rfl) (fun _ _ _ h => h) (Or.inl ⟨by kernel_rfl, ?_⟩) hHeld ?_
          · intro V1 hV1; obtain ⟨z0, y0, y1⟩ := hV1; go_simp
          simp only [Act.put, List.setIfInBounds_toArray, List.set_cons_succ, List.set_cons_zero]
          refine wpAnyH_take (i := 24) (oi := { dst := some 112, op := Go.Op.move (Go.Operand.tmp 15), type := 3, pos := "law.go:188", after := #[], guard := none }) (v := .int .i64 (j : Int)) rfl (by kernel_rfl) (by kernel_rfl) (by kernel_rfl) (fun _ _ _ h => h) (Or.inl ⟨by kernel_rfl, ?_⟩) hHeld ?_
          · intro V1 hV1; obtain ⟨z0, y0, y1⟩ := hV1; go_simp
          simp only [Act.put, List.setIfInBounds_toArray, List.set_cons_succ, List.set_cons_zero]
          refine wpAnyH_take (i := 25) (oi := { dst := some 113, op := Go.Op.build 37 #[(0, Go.Operand.const (Go.Value.int Go.IntKind.i64 2)), (1, Go.Operand.tmp 112)], type := 37, pos := "law.go:188", after := #[{ on := 24, ground := Go.Ground.data }], guard := none }) (v := .agg #[.int .i64 2, .int .i64 (j : Int), .float .f64 0, .string ⟨#[]⟩]) rfl (by kernel_rfl) (by kernel_rfl) (by kernel_rfl) (fun _ _ _ h => h) (Or.inl ⟨by kernel_rfl, ?_⟩) hHeld ?_
          · intro V1 hV1; obtain ⟨z0, y0, y1⟩ := hV1; go_simp
          simp only [Act.put, List.setIfInBounds_toArray, List.set_cons_succ, List.set_cons_zero]
          refine wpAnyH_ready (rs := [26]) (by kernel_rfl) (by simp) ?_
          refine AllReadyH.cons (o := { dst := some 114, op := Go.Op.call { callee := Go.Callee.value (Go.Operand.func 15), args := #[Go.Operand.tmp 91, Go.Operand.tmp 98, Go.Operand.tmp 99, Go.Operand.tmp 111, Go.Operand.tmp 113], argTypes := #[32, 32, 34, 9, 37] }, type := 41, pos := "law.go:188", after := #[{ on := 3, ground := Go.Ground.data }, { on := 10, ground := Go.Ground.data }, { on := 11, ground := Go.Ground.data }, { on := 23, ground := Go.Ground.data }, { on := 25, ground := Go.Ground.data }], guard := none }) rfl (fun K hK => ?_) AllReadyH.nil
          try rw [if_pos (by kernel_rfl)]
          go_simp
          refine (HSet.out U9).mono ?_
          rintro e u2 ⟨rfl, t2⟩
          have HU2 : Hid (Touch (fun _ => False) wr u2) := HU9.out.trans t2
          clear t2
          refine hK.out _ _ (HS.out _ HU2.out) (fun hHeld => ?_)
          clear hK K
          try simp only [Act.put, List.setIfInBounds_toArray, List.set_cons_succ, List.set_cons_zero]
          refine wpAnyH_ready (rs := [27]) (by kernel_rfl) (by simp) ?_
          refine AllReadyH.cons (o := { dst := some 115, op := Go.Op.call { callee := Go.Callee.value (Go.Operand.func 10), args := #[Go.Operand.tmp 88, Go.Operand.tmp 114], argTypes := #[28, 41] }, type := 4, pos := "law.go:188", after := #[{ on := 0, ground := Go.Ground.data }, { on := 26, ground := Go.Ground.data }, { on := 26, ground := Go.Ground.chain }], guard := none }) rfl (fun K hK => ?_) AllReadyH.nil
          try rw [if_pos (by kernel_rfl)]
          go_simp
          refine (HC.out u2 HU2.out).mono ?_
          rintro e u3 ⟨rfl, hl3, hk3, hs3⟩
          have HS3 := HS9.out u2 u3 HU2.out hl3 hk3 hs3
          refine hK.out _ _ HS3 (fun hHeld => ?_)
          clear hK K
          try simp only [Act.put, List.setIfInBounds_toArray, List.set_cons_succ, List.set_cons_zero]
          refine wpAnyH_done (by kernel_rfl) ?_ _
          try simp only [List.getElem_toArray, List.getElem_cons_succ, List.getElem_cons_zero, List.setIfInBounds_toArray, List.set_cons_succ, List.set_cons_zero]
          clear hHeld HS3
          have HF9 : Hid _ := HF.out u2 u3 HU2.out hl3 hk3
          clear hl3 hk3 hs3 HU2 HU9 HF HS9 HS HC HSet HR
          have w1' : IntKind.i64.wrap ((j : Int) + 1) = ((j + 1 : Nat) : Int) := by rw [IntKind.wrap_i64]; omega
          go_wp2_with fail
          go_roundg (zs.length - (j + 1))
          case measure => have := Hjl.out; omega
          case rel => exact ⟨j + 1, setS s x, by have := Hjl.out; omega, rfl, HF9.out⟩
        · have hjz : j = zs.length := by omega
          subst hjz
          clear hjg hjl
          have l1 : ¬ (zs.length : Int) < (zs.length : Int) := by omega
          have HV1 : Hid (Calls Try.prog 13 #[.pointer (some ⟨g, 0, none⟩)] wr fun e w' => ∃ v, e = .returned v ∧ Touch (fun _ => False) wr w' ∧ Calls Try.prog 12 #[v] w' fun e w'' => e = .returned (.string covB) ∧ Touch (fun _ => False) w' w'') := cov_any HR.out.2.2 (nest_two i zs.length zs) hD1 (by omega) (by unfold shS; rw [HR.out.1]; rfl) (by simp [chL_len, lfP_len]; omega)
          go_wp2_with fail
          refine HV1.out.mono ?_
          rintro e w20 ⟨vv, rfl, t20, hc20⟩
          have HC20 : Hid (Touch (fun _ => False) wr w20 ∧ Calls Try.prog 12 #[vv] w20 fun e w'' => e = .returned (.string covB) ∧ Touch (fun _ => False) w20 w'') := ⟨t20, hc20⟩
          clear t20 hc20 HV1
          go_wp2_with fail
          refine HC20.out.2.mono ?_
          rintro e w21 ⟨rfl, t21⟩
          have HL21 : Hid (s.hid = [] ∧ Lv v1 KM w21 g s (chL i ++ [cvO] ++ lfP 1 ((99 + i : Nat) : Int) zs zs.length)) := ⟨HR.out.1, HR.out.2.2.on (HC20.out.1.trans t21)⟩
          clear t21 HC20 HR
          go_upto_region 31 with fail
          obtain ⟨w22, hw22⟩ : ∃ W, Hid (W = w21.alloc (rgO ⟨1, 50, 51⟩)) := ⟨_, Eq.refl _⟩
          have t22 : Touch (fun _ => False) w21 w22 := by rw [hw22.out]; exact (Touch.refl _ _).alloc _
          have hsl : SlR w22 (.slice (some ⟨w21.heap.size, 0, none⟩) 1 1) [⟨1, 50, 51⟩] := by rw [hw22.out]; exact ⟨_, 1, rfl, (fun h => by cases h), Nat.le_refl _, by omega, LiesR.new w21 ⟨1, 50, 51⟩⟩
          have hbr := run_build_50 w21
          have HH : Hid (Calls Try.prog 9 #[.pointer (some ⟨g, 0, none⟩), .slice (some ⟨w21.heap.size, 0, none⟩) 1 1] w22 fun e w' => e = .returned (.tuple #[]) ∧ ∃ out, (∀ c k, hasB out c k = hasB [⟨1, 50, 51⟩] c k) ∧ Lv v1 KM w' g { s with hid := out } (chL i ++ [cvO] ++ lfP 1 ((99 + i : Nat) : Int) zs zs.length) ∧ Kept KM w22 w' ∧ w22.heap.size ≤ w'.heap.size) := lv_hide2 (HL21.out.2.on t22) [⟨1, 50, 51⟩] _ hsl (by decide)
          rw [hw22.out] at HH
          clear hw22 t22 hsl
          go_wp2_with fail
          refine HH.out.mono ?_
          rintro e w23 ⟨rfl, out, hout, hl23, -, -⟩
          obtain ⟨s2, hs2⟩ : ∃ s2, Hid (s2 = ({ s with hid := out } : MS)) := ⟨_, Eq.refl _⟩
          rw [← hs2.out] at hl23
          have HL23 : Hid (Lv v1 KM w23 g s2 (chL i ++ [cvO] ++ lfP 1 ((99 + i : Nat) : Int) zs zs.length) ∧ ∀ c k, shS s2 c k = !hasB [⟨1, 50, 51⟩] c k) := ⟨hl23, fun c k => by unfold shS; rw [hs2.out]; show (!hasB out c k) = _; rw [hout]⟩
          clear hl23 hs2 hout HH HL21 hbr
          have HVw : Hid (Calls Try.prog 13 #[.pointer (some ⟨g, 0, none⟩)] w23 fun e w' => ∃ v, e = .returned v ∧ EtAt w' (fun q => w23.heap.size ≤ q) ((chL i ++ [cvO] ++ lfP 1 ((99 + i : Nat) : Int) zs zs.length).length + 1) v (viewE s2 ((chL i ++ [cvO] ++ lfP 1 ((99 + i : Nat) : Int) zs zs.length).length + 1) 0 0) ∧ Touch (fun _ => False) w23 w') := lv_view HL23.out.1
          go_wp2_with fail
          refine HVw.out.mono ?_
          rintro e w24 ⟨v24, rfl, he24, t24⟩
          have HEt : Hid (EtAt w24 (fun q => w23.heap.size ≤ q) ((chL i ++ [cvO] ++ lfP 1 ((99 + i : Nat) : Int) zs zs.length).length + 1) v24 (viewE s2 ((chL i ++ [cvO] ++ lfP 1 ((99 + i : Nat) : Int) zs zs.length).length + 1) 0 0) ∧ Lv v1 KM w24 g s2 (chL i ++ [cvO] ++ lfP 1 ((99 + i : Nat) : Int) zs zs.length)) := ⟨he24, HL23.out.1.on t24⟩
          have hlen : (chL i ++ [cvO] ++ lfP 1 ((99 + i : Nat) : Int) zs zs.length).length = i + 1 + zs.length := by simp only [List.length_append, chL_len, lfP_len, List.length_singleton]
          have HN : Hid (NestL i zs.length true zs (chL i ++ [cvO] ++ lfP 1 ((99 + i : Nat) : Int) zs zs.length)) := nest_two i zs.length zs
          obtain ⟨LM, hLM⟩ : ∃ L, Hid (L = chL i ++ [cvO] ++ lfP 1 ((99 + i : Nat) : Int) zs zs.length) := ⟨_, Eq.refl _⟩
          rw [← hLM.out] at HEt HN hlen HL23
          rw [hlen] at HEt
          have Hlen : Hid (LM.length = i + 1 + zs.length) := hlen
          have HSh : Hid (∀ c k, shS s2 c k = !hasB [⟨1, 50, 51⟩] c k) := HL23.out.2
          clear HVw he24 t24 hLM hlen HL23
          go_wp2_with fail
          go_loopg [16, 17] i (fun gk s16 s17 wr => ∃ (q h : Nat), q + gk = i ∧ s17 = .int .i64 (q : Int) ∧ wr = w24 ∧ Hid (q + h = i + 1 + zs.length + 1 ∧ EtAt w24 (fun q => w23.heap.size ≤ q) h s16 (viewE s2 h (pC q) (pK q))))
          case atStart => exact ⟨0, i + 1 + zs.length + 1, by omega, rfl, rfl, by omega, HEt.out.1⟩
          case round =>
            obtain ⟨q, h, hqg, rfl, rfl, HV⟩ := hrel
            by_cases hqi : q < i
            · obtain ⟨h', hh'⟩ : ∃ h', h = h' + 1 := ⟨h - 1, by have := HV.out.1; omega⟩
              subst hh'
              have he := HV.out.2
              rw [view_lvl HEt.out.2.hasL HN.out (by omega) hqi (by rw [HSh.out, has_50 _ (by omega)]; rfl) (fun _ _ => by rw [HSh.out, has_50b]; rfl)] at he
              obtain ⟨b, o, cp, ⟨ra, rn, rc⟩, hv, hk, hcells, -, -⟩ := et_one he
              obtain ⟨c0, c1, -, -, -, c5⟩ := hcells wr rfl
              simp only [Et.ky, Et.v, Et.kids, mapV, Sw.val] at c0 c1 c5 hk
              subst hv
              have HK : Hid (q + 1 + h' = i + 1 + zs.length + 1 ∧ EtAt wr (fun q => w23.heap.size ≤ q) h' (.slice ra rn rc) (viewE s2 h' (pC (q + 1)) (pK (q + 1)))) := ⟨by have := HV.out.1; omega, hk⟩
              have l1 : (q : Int) < (i : Int) := by omega
              have w1' : IntKind.i64.wrap ((q : Int) + 1) = ((q + 1 : Nat) : Int) := by rw [IntKind.wrap_i64]; omega
              have Hqg : Hid (q + gk = i ∧ q < i) := ⟨hqg, hqi⟩
              clear he hk hcells HV hqg
              go_wp2_with fail
              go_roundg (i - (q + 1))
              case measure => have := Hqg.out; omega
              case rel => exact ⟨q + 1, h', by have := Hqg.out; omega, rfl, rfl, HK.out⟩
            · have hqi2 : q = i := by omega
              have HV2 : Hid (∃ h', h = h' + 1 ∧ i + h = i + 1 + zs.length + 1) := ⟨h - 1, by have := HV.out.1; omega, by have := HV.out.1; omega⟩
              rw [hqi2] at HV
              obtain ⟨h', hh', hsum⟩ := HV2.out
              subst hh'
              have l1 : ¬ (q : Int) < (i : Int) := by omega
              obtain ⟨aw, an, ac, hs16⟩ : ∃ a n c, u16 = .slice a n c := by
                obtain ⟨raws, ⟨ao', cap', e1, -⟩, -⟩ := HV.out.2
                exact ⟨_, _, _, e1⟩
              subst hs16
              have HE16 : Hid (EtAt wr (fun q => w23.heap.size ≤ q) (h' + 1) (.slice aw an ac) (viewE s2 (h' + 1) (pC i) (pK i))) := HV.out.2
              have hh40 : h' + 1 ≤ 50000 := by omega
              clear HV HV2
              obtain ⟨KW, hKW⟩ : ∃ K : Nat → Prop, Hid (K = fun k => k < wr.heap.size) := ⟨_, Eq.refl _⟩
              have HNW : Hid (Calls Try.prog 8 #[] wr fun e w' => ∃ g, e = .returned (.pointer (some ⟨g, 0, none⟩)) ∧ Lv v1 KW w' g newS [] ∧ Touch (fun _ => False) wr w') := lv_new2 wr HEt.out.2.touch0 (fun k hk => by rw [hKW.out] at hk; exact hk)
              go_wp2_with fail
              refine HNW.out.mono ?_
              rintro e w25 ⟨g2, rfl, hl25, t25⟩
              obtain ⟨w24, hw24⟩ : ∃ W, W = wr := ⟨_, rfl⟩
              subst hw24
              have HW25 : Hid (Lv v1 KW w25 g2 newS (lfP 0 0 zs 0) ∧ Kept KW w24 w25 ∧ w24.heap.size ≤ w25.heap.size) := ⟨hl25, Kept.of (by rw [hKW.out]; exact fun k hk => hk) t25, t25.size⟩
              clear hl25 t25 HNW
              go_wp2_with fail
              go_loopg [19] zs.length (fun gk s19 wr => ∃ (j : Nat) (s : MS), j + gk = zs.length ∧ s19 = .int .i64 (j : Int) ∧ Hid (s.hid = [] ∧ Lv v1 KW wr g2 s (lfP 0 0 zs j) ∧ Kept KW w24 wr ∧ w24.heap.size ≤ wr.heap.size))
              case atStart => exact ⟨0, newS, by omega, rfl, rfl, HW25.out.1, HW25.out.2.1, HW25.out.2.2⟩
              case round =>
                obtain ⟨j, s, hjg, rfl, HR⟩ := hrel
                clear HW25
                by_cases hjl : j < zs.length
                · obtain ⟨sb, so, rfl, hzc⟩ := HZ.out.1.atN hjl
                  obtain ⟨z, hz⟩ : ∃ z, z = zs[j]'hjl := ⟨_, rfl⟩
                  have hz2 := HZ.out.2 z (by rw [hz]; exact List.getElem_mem _)
                  have hgd : zs.getD j 0 = z := by rw [hz, List.getD_eq_getElem?_getD, List.getElem?_eq_getElem hjl]; rfl
                  rw [← hz] at hzc
                  have l1 : (j : Int) < (zs.length : Int) := by omega
                  have l0 : (0 : Int) ≤ (j : Int) := by omega
                  have l3 : (j : Int) < 40 := by omega
                  obtain ⟨ck, hck⟩ : ∃ ck, ck = ((200 + j : Nat) : Int) := ⟨_, rfl⟩
                  have c1 : IntKind.i64.wrap (200 + (j : Int)) = ck := by rw [IntKind.wrap_i64]; omega
                  have c2 : IntKind.u64.wrap ck = ck := wrap_u64_small _ (by omega) (by omega)
                  obtain ⟨r8, hr8⟩ : ∃ r, r = z % 8 := ⟨_, rfl⟩
                  obtain ⟨st, hst⟩ : ∃ r, r = z % 8 + 1 := ⟨_, rfl⟩
                  have y1 : Int.tmod z 8 = r8 := by rw [Int.tmod_eq_emod_of_nonneg hz2.1, ← hr8]
                  have y2 : IntKind.u16.wrap r8 = r8 := by simp [IntKind.wrap, IntKind.signed, IntKind.bits]; omega
                  have y3 : IntKind.u16.wrap (r8 + 1) = st := by simp [IntKind.wrap, IntKind.signed, IntKind.bits]; omega
                  have y4 : IntKind.u64.wrap st = st := wrap_u64_small _ (by omega) (by omega)
                  obtain ⟨lo, hlo⟩ : ∃ r : Nat, r = (z % 3).toNat := ⟨_, rfl⟩
                  obtain ⟨hi, hhi⟩ : ∃ r : Int, r = (lo : Int) + 1 := ⟨_, rfl⟩
                  have hlo3 : lo < 3 := by omega
                  have u3 : Int.tmod z 3 = (lo : Int) := by rw [Int.tmod_eq_emod_of_nonneg hz2.1, hlo]; omega
                  have u4 : IntKind.u16.wrap (lo : Int) = (lo : Int) := by simp [IntKind.wrap, IntKind.signed, IntKind.bits]; omega
                  have u5 : IntKind.u16.wrap ((lo : Int) + 1) = hi := by simp [IntKind.wrap, IntKind.signed, IntKind.bits]; omega
                  have u6 : (0 : Int) ≤ (lo : Int) := by omega
                  have u7 : (lo : Int) ≤ hi := by omega
                  have u8 : hi ≤ 3 := by omega
                  have u9 : hi.toNat = lo + 1 := by omega
                  have u10 : (0 : Int) ≤ hi := by omega
                  have u11 : (ByteArray.mk #[97, 98, 99]).size = 3 := rfl
                  obtain ⟨x, hx⟩ : ∃ x, Hid (x = lfO 0 0 z j) := ⟨_, Eq.refl _⟩
                  have hS0 := setO_call (o := x) (ck := ck) (st := st) (pc := 0) (pk := 0) (ky := keyL lo) (v := intV (j : Int)) (by rw [hx.out, hck, hst, hlo]; rfl)
                  have HSet : Hid (∀ W, Calls Try.prog 15 #[.int .u64 ck, .int .u64 st, .agg #[.int .u64 0, .int .u64 0], .string (ByteArray.extract (ByteArray.mk #[97, 98, 99]) lo (lo + 1)), .agg #[.int .i64 2, .int .i64 (j : Int), .float .f64 0, .string ⟨#[]⟩]] W fun e w' => e = .returned (.agg x.vals) ∧ Touch (fun _ => False) W w') := hS0
                  have hokx := ok_want HR.out.2.1.hasL (by omega) z
                  rw [← hx.out] at hokx
                  have hfx : x.fits ∧ x.ky.size ≤ 281474976710656 := by
                    rw [hx.out]
                    refine ⟨fits_lf (by omega) u64_zero u64_zero, ?_⟩
                    have := (keyL_short _ (lf_key z)).1
                    show (keyL (z % 3).toNat).size ≤ _
                    omega
                  have HC : Hid (∀ W, Touch (fun _ => False) wr W → Calls Try.prog 10 #[.pointer (some ⟨g2, 0, none⟩), .agg x.vals] W fun e w' => e = .returned (.bool true) ∧ Lv v1 KW w' g2 (setS s x) (lfP 0 0 zs j ++ [x]) ∧ Kept KW W w' ∧ W.heap.size ≤ w'.heap.size) := fun W t => lv_set2 (HR.out.2.1.on t) x hfx.1 hfx.2 (by simp only [lfP_len]; omega) hokx
                  have HS : Hid (∀ V, Touch (fun _ => False) wr V → (V.cell? ⟨sb, so + j, none⟩ = some (.int .u16 z) ∧ True)) := fun V t => ⟨hzc V (HT1.out.trans (HR.out.2.1.touch0.trans t)), trivial⟩
                  have HS9 : Hid (∀ u2 u3, Touch (fun _ => False) wr u2 → Lv v1 KW u3 g2 (setS s x) (lfP 0 0 zs j ++ [x]) → Kept KW u2 u3 → u2.heap.size ≤ u3.heap.size → (u3.cell? ⟨sb, so + j, none⟩ = some (.int .u16 z) ∧ True)) := fun u2 u3 t hl hk _ => ⟨hzc u3 (HT1.out.trans hl.touch0), trivial⟩
                  have HF : Hid (∀ u2 u3, Touch (fun _ => False) wr u2 → Lv v1 KW u3 g2 (setS s x) (lfP 0 0 zs j ++ [x]) → Kept KW u2 u3 → u2.heap.size ≤ u3.heap.size → ((setS s x).hid = [] ∧ Lv v1 KW u3 g2 (setS s x) (lfP 0 0 zs (j + 1)) ∧ Kept KW w24 u3 ∧ w24.heap.size ≤ u3.heap.size)) := fun u2 u3 t hl hk hs => by
                    refine ⟨by rw [hid_set]; exact HR.out.1, ?_, (HR.out.2.2.1.trans (HR.out.2.1.kept t)).trans hk, Nat.le_trans (Nat.le_trans HR.out.2.2.2 t.size) hs⟩
                    rw [lfP_succ, hgd, ← hx.out]; exact hl
                  have Hjl : Hid (j < zs.length ∧ j + gk = zs.length) := ⟨hjl, hjg⟩
                  clear hzc hz hgd hck hr8 hst hlo hhi hS0 hokx hfx hz2 hlo3 hjg hx
                  go_upto_region 43 with fail
                  refine wp_region_held_drew (S := fun V => V.cell? ⟨sb, so + j, none⟩ = some (.int .u16 z) ∧ True) (by kernel_rfl) (HS.out _ ((Touch.refl _ _).drew)) (fun hHeld => ?_)
                  obtain ⟨U9, hU9⟩ : ∃ U9, Hid (U9 = wr.drew) := ⟨_, Eq.refl _⟩
                  have HU9 : Hid (Touch (fun _ => False) wr U9) := by rw [hU9.out]; exact (Touch.refl _ _).drew
                  rw [← hU9.out] at hHeld ⊢
                  clear hU9
                  refine wpAnyH_take (i := 0) (oi := { dst := some 160, op := Go.Op.move (Go.Operand.tmp 18), type := 28, pos := "law.go:203", after := #[], guard := none }) (v := .pointer (some ⟨g2, 0, none⟩)) rfl (by kernel_rfl) (by kernel_rfl) (by kernel_rfl) (fun _ _ _ h => h) (Or.inl ⟨by kernel_rfl, ?_⟩) hHeld ?_
                  · intro V1 hV1; obtain ⟨z0, -⟩ := hV1; go_simp
                  simp only [Act.put, List.setIfInBounds_toArray, List.set_cons_succ, List.set_cons_zero]
                  refine wpAnyH_take (i := 1) (oi := { dst := some 161, op := Go.Op.move (Go.Operand.tmp 19), type := 3, pos := "law.go:203", after := #[], guard := none }) (v := .int .i64 (j : Int)) rfl (by kernel_rfl) (by kernel_rfl) (by kernel_rfl) (fun _ _ _ h => h) (Or.inl ⟨by kernel_rfl, ?_⟩) hHeld ?_
                  · intro V1 hV1; obtain ⟨z0, -⟩ := hV1; go_simp
                  simp only [Act.put, List.setIfInBounds_toArray, List.set_cons_succ, List.set_cons_zero]
                  refine wpAnyH_take (i := 2) (oi := { dst := some 162, op := Go.Op.binOp Go.BinOp.add 3 (Go.Operand.const (Go.Value.int Go.IntKind.i64 200)) (Go.Operand.tmp 161) 3, type := 3, pos := "law.go:203", after := #[{ on := 1, ground := Go.Ground.data }], guard := none }) (v := .int .i64 ck) rfl (by kernel_rfl) (by kernel_rfl) (by kernel_rfl) (fun _ _ _ h => h) (Or.inl ⟨by kernel_rfl, ?_⟩) hHeld ?_
                  · intro V1 hV1; obtain ⟨z0, -⟩ := hV1; go_simp
                  simp only [Act.put, List.setIfInBounds_toArray, List.set_cons_succ, List.set_cons_zero]
                  refine wpAnyH_take (i := 3) (oi := { dst := some 163, op := Go.Op.convert 3 32 (Go.Operand.tmp 162), type := 32, pos := "law.go:203", after := #[{ on := 2, ground := Go.Ground.data }], guard := none }) (v := .int .u64 ck) rfl (by kernel_rfl) (by kernel_rfl) (by kernel_rfl) (fun _ _ _ h => h) (Or.inl ⟨by kernel_rfl, ?_⟩) hHeld ?_
                  · intro V1 hV1; obtain ⟨z0, -⟩ := hV1; go_simp
                  simp only [Act.put, List.setIfInBounds_toArray, List.set_cons_succ, List.set_cons_zero]
                  refine wpAnyH_take (i := 4) (oi := { dst := some 164, op := Go.Op.move (Go.Operand.tmp 0), type := 22, pos := "law.go:203", after := #[], guard := none }) (v := .slice (some ⟨sb, so, none⟩) zs.length cap) rfl (by kernel_rfl) (by kernel_rfl) (by kernel_rfl) (fun _ _ _ h => h) (Or.inl ⟨by kernel_rfl, ?_⟩) hHeld ?_
                  · intro V1 hV1; obtain ⟨z0, -⟩ := hV1; go_simp
                  simp only [Act.put, List.setIfInBounds_toArray, List.set_cons_succ, List.set_cons_zero]
                  refine wpAnyH_take (i := 5) (oi := { dst := some 165, op := Go.Op.move (Go.Operand.tmp 19), type := 3, pos := "law.go:203", after := #[], guard := none }) (v := .int .i64 (j : Int)) rfl (by kernel_rfl) (by kernel_rfl) (by kernel_rfl) (fun _ _ _ h => h) (Or.inl ⟨by kernel_rfl, ?_⟩) hHeld ?_
                  · intro V1 hV1; obtain ⟨z0, -⟩ := hV1; go_simp
                  simp only [Act.put, List.setIfInBounds_toArray, List.set_cons_succ, List.set_cons_zero]
                  refine wpAnyH_take (i := 6) (oi := { dst := some 166, op := Go.Op.indexAddr 22 (Go.Operand.tmp 164) (Go.Operand.tmp 165), type := 0, pos := "law.go:203", after := #[{ on := 4, ground := Go.Ground.data }, { on := 5, ground := Go.Ground.data }], guard := none }) (v := .pointer (some ⟨sb, so + j, none⟩)) rfl (by kernel_rfl) (by kernel_rfl) (by kernel_rfl) (fun _ _ _ h => h) (Or.inl ⟨by kernel_rfl, ?_⟩) hHeld ?_
                  · intro V1 hV1; obtain ⟨z0, -⟩ := hV1; go_simp
                  simp only [Act.put, List.setIfInBounds_toArray, List.set_cons_succ, List.set_cons_zero]
                  refine wpAnyH_take (i := 7) (oi := { dst := some 167, op := Go.Op.load 52 (Go.Operand.tmp 166), type := 52, pos := "law.go:203", after := #[{ on := 6, ground := Go.Ground.data }], guard := none }) (v := .int .u16 z) rfl (by kernel_rfl) (by kernel_rfl) (by kernel_rfl) (fun _ _ _ h => h) (Or.inl ⟨by kernel_rfl, ?_⟩) hHeld ?_
                  · intro V1 hV1; obtain ⟨z0, -⟩ := hV1; go_simp
                  simp only [Act.put, List.setIfInBounds_toArray, List.set_cons_succ, List.set_cons_zero]
                  refine wpAnyH_take (i := 8) (oi := { dst := some 168, op := Go.Op.binOp Go.BinOp.rem 52 (Go.Operand.tmp 167) (Go.Operand.const (Go.Value.int Go.IntKind.u16 8)) 52, type := 52, pos := "law.go:203", after := #[{ on := 7, ground := Go.Ground.data }], guard := none }) (v := .int .u16 r8) rfl (by kernel_rfl) (by kernel_rfl) (by kernel_rfl) (fun _ _ _ h => h) (Or.inl ⟨by kernel_rfl, ?_⟩) hHeld ?_
                  · intro V1 hV1; obtain ⟨z0, -⟩ := hV1; go_simp
                  simp only [Act.put, List.setIfInBounds_toArray, List.set_cons_succ, List.set_cons_zero]
                  refine wpAnyH_take (i := 9) (oi := { dst := some 169, op := Go.Op.binOp Go.BinOp.add 52 (Go.Operand.tmp 168) (Go.Operand.const (Go.Value.int Go.IntKind.u16 1)) 52, type := 52, pos := "law.go:203", after := #[{ on := 8, ground := Go.Ground.data }], guard := none }) (v := .int .u16 st) rfl (by kernel_rfl) (by kernel_rfl) (by kernel_rfl) (fun _ _ _ h => h) (Or.inl ⟨by kernel_rfl, ?_⟩) hHeld ?_
                  · intro V1 hV1; obtain ⟨z0, -⟩ := hV1; go_simp
                  simp only [Act.put, List.setIfInBounds_toArray, List.set_cons_succ, List.set_cons_zero]
                  refine wpAnyH_take (i := 10) (oi := { dst := some 170, op := Go.Op.convert 52 32 (Go.Operand.tmp 169), type := 32, pos := "law.go:203", after := #[{ on := 9, ground := Go.Ground.data }], guard := none }) (v := .int .u64 st) rfl (by kernel_rfl) (by kernel_rfl) (by kernel_rfl) (fun _ _ _ h => h) (Or.inl ⟨by kernel_rfl, ?_⟩) hHeld ?_
                  · intro V1 hV1; obtain ⟨z0, -⟩ := hV1; go_simp
                  simp only [Act.put, List.setIfInBounds_toArray, List.set_cons_succ, List.set_cons_zero]
                  refine wpAnyH_take (i := 11) (oi := { dst := some 171, op := Go.Op.build 34 #[], type := 34, pos := "law.go:203", after := #[], guard := none }) (v := .agg #[.int .u64 0, .int .u64 0]) rfl (by kernel_rfl) (by kernel_rfl) (by kernel_rfl) (fun _ _ _ h => h) (Or.inl ⟨by kernel_rfl, ?_⟩) hHeld ?_
                  · intro V1 hV1; obtain ⟨z0, -⟩ := hV1; go_simp
                  simp only [Act.put, List.setIfInBounds_toArray, List.set_cons_succ, List.set_cons_zero]
                  refine wpAnyH_take (i := 12) (oi := { dst := some 172, op := Go.Op.move (Go.Operand.tmp 0), type := 22, pos := "law.go:203", after := #[], guard := none }) (v := .slice (some ⟨sb, so, none⟩) zs.length cap) rfl (by kernel_rfl) (by kernel_rfl) (by kernel_rfl) (fun _ _ _ h => h) (Or.inl ⟨by kernel_rfl, ?_⟩) hHeld ?_
                  · intro V1 hV1; obtain ⟨z0, -⟩ := hV1; go_simp
                  simp only [Act.put, List.setIfInBounds_toArray, List.set_cons_succ, List.set_cons_zero]
                  refine wpAnyH_take (i := 13) (oi := { dst := some 173, op := Go.Op.move (Go.Operand.tmp 19), type := 3, pos := "law.go:203", after := #[], guard := none }) (v := .int .i64 (j : Int)) rfl (by kernel_rfl) (by kernel_rfl) (by kernel_rfl) (fun _ _ _ h => h) (Or.inl ⟨by kernel_rfl, ?_⟩) hHeld ?_
                  · intro V1 hV1; obtain ⟨z0, -⟩ := hV1; go_simp
                  simp only [Act.put, List.setIfInBounds_toArray, List.set_cons_succ, List.set_cons_zero]
                  refine wpAnyH_take (i := 14) (oi := { dst := some 174, op := Go.Op.indexAddr 22 (Go.Operand.tmp 172) (Go.Operand.tmp 173), type := 0, pos := "law.go:203", after := #[{ on := 12, ground := Go.Ground.data }, { on := 13, ground := Go.Ground.data }], guard := none }) (v := .pointer (some ⟨sb, so + j, none⟩)) rfl (by kernel_rfl) (by kernel_rfl) (by kernel_rfl) (fun _ _ _ h => h) (Or.inl ⟨by kernel_rfl, ?_⟩) hHeld ?_
                  · intro V1 hV1; obtain ⟨z0, -⟩ := hV1; go_simp
                  simp only [Act.put, List.setIfInBounds_toArray, List.set_cons_succ, List.set_cons_zero]
                  refine wpAnyH_take (i := 15) (oi := { dst := some 175, op := Go.Op.load 52 (Go.Operand.tmp 174), type := 52, pos := "law.go:203", after := #[{ on := 14, ground := Go.Ground.data }], guard := none }) (v := .int .u16 z) rfl (by kernel_rfl) (by kernel_rfl) (by kernel_rfl) (fun _ _ _ h => h) (Or.inl ⟨by kernel_rfl, ?_⟩) hHeld ?_
                  · intro V1 hV1; obtain ⟨z0, -⟩ := hV1; go_simp
                  simp only [Act.put, List.setIfInBounds_toArray, List.set_cons_succ, List.set_cons_zero]
                  refine wpAnyH_take (i := 16) (oi := { dst := some 176, op := Go.Op.binOp Go.BinOp.rem 52 (Go.Operand.tmp 175) (Go.Operand.const (Go.Value.int Go.IntKind.u16 3)) 52, type := 52, pos := "law.go:203", after := #[{ on := 15, ground := Go.Ground.data }], guard := none }) (v := .int .u16 (lo : Int)) rfl (by kernel_rfl) (by kernel_rfl) (by kernel_rfl) (fun _ _ _ h => h) (Or.inl ⟨by kernel_rfl, ?_⟩) hHeld ?_
                  · intro V1 hV1; obtain ⟨z0, -⟩ := hV1; go_simp
                  simp only [Act.put, List.setIfInBounds_toArray, List.set_cons_succ, List.set_cons_zero]
                  refine wpAnyH_take (i := 17) (oi := { dst := some 177, op := Go.Op.move (Go.Operand.tmp 0), type := 22, pos := "law.go:203", after := #[], guard := none }) (v := .slice (some ⟨sb, so, none⟩) zs.length cap) rfl (by kernel_rfl) (by kernel_rfl) (by kernel_rfl) (fun _ _ _ h => h) (Or.inl ⟨by kernel_rfl, ?_⟩) hHeld ?_
                  · intro V1 hV1; obtain ⟨z0, -⟩ := hV1; go_simp
                  simp only [Act.put, List.setIfInBounds_toArray, List.set_cons_succ, List.set_cons_zero]
                  refine wpAnyH_take (i := 18) (oi := { dst := some 178, op := Go.Op.move (Go.Operand.tmp 19), type := 3, pos := "law.go:203", after := #[], guard := none }) (v := .int .i64 (j : Int)) rfl (by kernel_rfl) (by kernel_rfl) (by kernel_rfl) (fun _ _ _ h => h) (Or.inl ⟨by kernel_rfl, ?_⟩) hHeld ?_
                  · intro V1 hV1; obtain ⟨z0, -⟩ := hV1; go_simp
                  simp only [Act.put, List.setIfInBounds_toArray, List.set_cons_succ, List.set_cons_zero]
                  refine wpAnyH_take (i := 19) (oi := { dst := some 179, op := Go.Op.indexAddr 22 (Go.Operand.tmp 177) (Go.Operand.tmp 178), type := 0, pos := "law.go:203", after := #[{ on := 17, ground := Go.Ground.data }, { on := 18, ground := Go.Ground.data }], guard := none }) (v := .pointer (some ⟨sb, so + j, none⟩)) rfl (by kernel_rfl) (by kernel_rfl) (by kernel_rfl) (fun _ _ _ h => h) (Or.inl ⟨by kernel_rfl, ?_⟩) hHeld ?_
                  · intro V1 hV1; obtain ⟨z0, -⟩ := hV1; go_simp
                  simp only [Act.put, List.setIfInBounds_toArray, List.set_cons_succ, List.set_cons_zero]
                  refine wpAnyH_take (i := 20) (oi := { dst := some 180, op := Go.Op.load 52 (Go.Operand.tmp 179), type := 52, pos := "law.go:203", after := #[{ on := 19, ground := Go.Ground.data }], guard := none }) (v := .int .u16 z) rfl (by kernel_rfl) (by kernel_rfl) (by kernel_rfl) (fun _ _ _ h => h) (Or.inl ⟨by kernel_rfl, ?_⟩) hHeld ?_
                  · intro V1 hV1; obtain ⟨z0, -⟩ := hV1; go_simp
                  simp only [Act.put, List.setIfInBounds_toArray, List.set_cons_succ, List.set_cons_zero]
                  refine wpAnyH_take (i := 21) (oi := { dst := some 181, op := Go.Op.binOp Go.BinOp.rem 52 (Go.Operand.tmp 180) (Go.Operand.const (Go.Value.int Go.IntKind.u16 3)) 52, type := 52, pos := "law.go:203", after := #[{ on := 20, ground := Go.Ground.data }], guard := none }) (v := .int .u16 (lo : Int)) rfl (by kernel_rfl) (by kernel_rfl) (by kernel_rfl) (fun _ _ _ h => h) (Or.inl ⟨by kernel_rfl, ?_⟩) hHeld ?_
                  · intro V1 hV1; obtain ⟨z0, -⟩ := hV1; go_simp
                  simp only [Act.put, List.setIfInBounds_toArray, List.set_cons_succ, List.set_cons_zero]
                  refine wpAnyH_take (i := 22) (oi := { dst := some 182, op := Go.Op.binOp Go.BinOp.add 52 (Go.Operand.tmp 181) (Go.Operand.const (Go.Value.int Go.IntKind.u16 1)) 52, type := 52, pos := "law.go:203", after := #[{ on := 21, ground := Go.Ground.data }], guard := none }) (v := .int .u16 hi) rfl (by kernel_rfl) (by kernel_rfl) (by kernel_rfl) (fun _ _ _ h => h) (Or.inl ⟨by kernel_rfl, ?_⟩) hHeld ?_
                  · intro V1 hV1; obtain ⟨z0, -⟩ := hV1; go_simp
                  simp only [Act.put, List.setIfInBounds_toArray, List.set_cons_succ, List.set_cons_zero]
                  refine wpAnyH_take (i := 23) (oi := { dst := some 183, op := Go.Op.slice 9 (Go.Operand.const (Go.Value.string { data := #[97, 98, 99] })) (some (Go.Operand.tmp 176)) (some (Go.Operand.tmp 182)) none, type := 9, pos := "law.go:203", after := #[{ on := 16, ground := Go.Ground.data }, { on := 22, ground := Go.Ground.data }], guard := none }) (v := .string (ByteArray.extract (ByteArray.mk #[97, 98, 99]) lo (lo + 1))) rfl (by kernel_rfl) (by kernel_rfl) (by kernel_rfl) (fun _ _ _ h => h) (Or.inl ⟨by kernel_rfl, ?_⟩) hHeld ?_
                  · intro V1 hV1; obtain ⟨z0, -⟩ := hV1; go_simp
                  simp only [Act.put, List.setIfInBounds_toArray, List.set_cons_succ, List.set_cons_zero]
                  refine wpAnyH_take (i := 24) (oi := { dst := some 184, op := Go.Op.move (Go.Operand.tmp 19), type := 3, pos := "law.go:203", after := #[], guard := none }) (v := .int .i64 (j : Int)) rfl (by kernel_rfl) (by kernel_rfl) (by kernel_rfl) (fun _ _ _ h => h) (Or.inl ⟨by kernel_rfl, ?_⟩) hHeld ?_
                  · intro V1 hV1; obtain ⟨z0, -⟩ := hV1; go_simp
                  simp only [Act.put, List.setIfInBounds_toArray, List.set_cons_succ, List.set_cons_zero]
                  refine wpAnyH_take (i := 25) (oi := { dst := some 185, op := Go.Op.build 37 #[(0, Go.Operand.const (Go.Value.int Go.IntKind.i64 2)), (1, Go.Operand.tmp 184)], type := 37, pos := "law.go:203", after := #[{ on := 24, ground := Go.Ground.data }], guard := none }) (v := .agg #[.int .i64 2, .int .i64 (j : Int), .float .f64 0, .string ⟨#[]⟩]) rfl (by kernel_rfl) (by kernel_rfl) (by kernel_rfl) (fun _ _ _ h => h) (Or.inl ⟨by kernel_rfl, ?_⟩) hHeld ?_
                  · intro V1 hV1; obtain ⟨z0, -⟩ := hV1; go_simp
                  simp only [Act.put, List.setIfInBounds_toArray, List.set_cons_succ, List.set_cons_zero]
                  refine wpAnyH_ready (rs := [26]) (by kernel_rfl) (by simp) ?_
                  refine AllReadyH.cons (o := { dst := some 186, op := Go.Op.call { callee := Go.Callee.value (Go.Operand.func 15), args := #[Go.Operand.tmp 163, Go.Operand.tmp 170, Go.Operand.tmp 171, Go.Operand.tmp 183, Go.Operand.tmp 185], argTypes := #[32, 32, 34, 9, 37] }, type := 41, pos := "law.go:203", after := #[{ on := 3, ground := Go.Ground.data }, { on := 10, ground := Go.Ground.data }, { on := 11, ground := Go.Ground.data }, { on := 23, ground := Go.Ground.data }, { on := 25, ground := Go.Ground.data }], guard := none }) rfl (fun K hK => ?_) AllReadyH.nil
                  try rw [if_pos (by kernel_rfl)]
                  go_simp
                  refine (HSet.out U9).mono ?_
                  rintro e u2 ⟨rfl, t2⟩
                  have HU2 : Hid (Touch (fun _ => False) wr u2) := HU9.out.trans t2
                  clear t2
                  refine hK.out _ _ (HS.out _ HU2.out) (fun hHeld => ?_)
                  clear hK K
                  try simp only [Act.put, List.setIfInBounds_toArray, List.set_cons_succ, List.set_cons_zero]
                  refine wpAnyH_ready (rs := [27]) (by kernel_rfl) (by simp) ?_
                  refine AllReadyH.cons (o := { dst := some 187, op := Go.Op.call { callee := Go.Callee.value (Go.Operand.func 10), args := #[Go.Operand.tmp 160, Go.Operand.tmp 186], argTypes := #[28, 41] }, type := 4, pos := "law.go:203", after := #[{ on := 0, ground := Go.Ground.data }, { on := 26, ground := Go.Ground.data }, { on := 26, ground := Go.Ground.chain }], guard := none }) rfl (fun K hK => ?_) AllReadyH.nil
                  try rw [if_pos (by kernel_rfl)]
                  go_simp
                  refine (HC.out u2 HU2.out).mono ?_
                  rintro e u3 ⟨rfl, hl3, hk3, hs3⟩
                  have HS3 := HS9.out u2 u3 HU2.out hl3 hk3 hs3
                  refine hK.out _ _ HS3 (fun hHeld => ?_)
                  clear hK K
                  try simp only [Act.put, List.setIfInBounds_toArray, List.set_cons_succ, List.set_cons_zero]
                  refine wpAnyH_done (by kernel_rfl) ?_ _
                  try simp only [List.getElem_toArray, List.getElem_cons_succ, List.getElem_cons_zero, List.setIfInBounds_toArray, List.set_cons_succ, List.set_cons_zero]
                  clear hHeld HS3
                  have HF9 : Hid _ := HF.out u2 u3 HU2.out hl3 hk3 hs3
                  clear hl3 hk3 hs3 HU2 HU9 HF HS9 HS HC HSet HR
                  have w1' : IntKind.i64.wrap ((j : Int) + 1) = ((j + 1 : Nat) : Int) := by rw [IntKind.wrap_i64]; omega
                  go_wp2_with fail
                  go_roundg (zs.length - (j + 1))
                  case measure => have := Hjl.out; omega
                  case rel => exact ⟨j + 1, setS s x, by have := Hjl.out; omega, rfl, HF9.out⟩
                · have hjz : j = zs.length := by omega
                  subst hjz
                  clear hjg hjl
                  have l1 : ¬ (zs.length : Int) < (zs.length : Int) := by omega
                  have hview := leaf_view HEt.out.2.hasL HN.out hD1 (by omega) HR.out.2.1.hasL (fun o => mem_lfP) (fun j hj => by rw [HSh.out, has_50 _ (by omega)]; rfl) (fun j hj => by unfold shS; rw [HR.out.1]; rfl) h' zs.length
                  have hp := lv_parts HR.out.2.1
                  have htx := txt_of hp.1 hp.2.1 hp.2.2 (fun o ho => by obtain ⟨j, hj, rfl⟩ := mem_lfP.1 ho; exact short_lf (by omega)) (by rw [lfP_len]; omega)
                  rw [lfP_len] at htx
                  have hokv := view_ok HEt.out.2.hasL (short_all HN.out (by omega)) (h' + 1) (pC i) (pK i) (u64_p i (by omega)).1 (u64_p i (by omega)).2
                  have t1 := HEt.out.2.touch0
                  have t2 := HR.out.2.1.touch0
                  have hE := HE16.out.kept HR.out.2.2.1 (fun k hk _ => by rw [hKW.out]; exact hk) HR.out.2.2.2 ⟨t2.os.trans t1.os.symm, t2.tape.trans t1.tape.symm, t2.output.trans t1.output.symm⟩
                  obtain ⟨T, hT⟩ : ∃ T, Hid (T = strOf (etsT 0 (viewE s (zs.length + 1) 0 0))) := ⟨_, Eq.refl _⟩
                  have HTx : Hid (Calls Try.prog 12 #[.slice aw an ac] wr fun e w' => e = .returned (.string T) ∧ Touch (fun _ => False) wr w') := by
                    have := text_any hE hokv hh40 (by rw [hview]; exact htx.2)
                    rw [hview, ← hT.out] at this
                    exact this
                  have HVW : Hid (∀ W, Touch (fun _ => False) wr W → Calls Try.prog 13 #[.pointer (some ⟨g2, 0, none⟩)] W fun e w' => ∃ v, e = .returned v ∧ Touch (fun _ => False) W w' ∧ Calls Try.prog 12 #[v] w' fun e w'' => e = .returned (.string T) ∧ Touch (fun _ => False) w' w'') := fun W tW => by
                    refine (lv_view (HR.out.2.1.on tW)).mono ?_
                    rintro e w' ⟨v, rfl, hE', t'⟩
                    refine ⟨v, rfl, t', ?_⟩
                    rw [hT.out]
                    rw [lfP_len] at hE'
                    exact text_any hE' htx.1 (by omega) htx.2
                  have HM : Hid (∃ K : Nat → Prop, Lv v1 K wr g s2 LM) := ⟨_, HEt.out.2.swap HR.out.2.1 HR.out.2.2.1 HR.out.2.2.2 (fun k h1 h2 h3 => by rw [hKW.out]; exact h2)⟩
                  obtain ⟨KZ, hKZ⟩ := HM.out
                  have HZm : Hid (Lv v1 KZ wr g s2 LM) := hKZ
                  clear hview hp htx hokv t1 t2 hE hT HE16 HR HM hKZ hKW HEt HSh
                  go_wp2_with fail
                  refine HTx.out.mono ?_
                  rintro e w30 ⟨rfl, t30⟩
                  have HT30 : Hid (Touch (fun _ => False) wr w30) := t30
                  clear t30 HTx
                  go_wp2_with fail
                  refine (HVW.out _ HT30.out).mono ?_
                  rintro e w31 ⟨vv, rfl, t31, hc31⟩
                  have HT31 : Hid (Touch (fun _ => False) wr w31 ∧ Calls Try.prog 12 #[vv] w31 fun e w'' => e = .returned (.string T) ∧ Touch (fun _ => False) w31 w'') := ⟨HT30.out.trans t31, hc31⟩
                  clear t31 hc31 HVW HT30
                  go_wp2_with fail
                  refine HT31.out.2.mono ?_
                  rintro e w32 ⟨rfl, t32⟩
                  have HL32 : Hid (Lv v1 KZ w32 g s2 LM) := HZm.out.on (HT31.out.1.trans t32)
                  clear t32 HT31 HZm
                  go_upto_region 46 with fail
                  obtain ⟨w33, hw33⟩ : ∃ W, Hid (W = w32.alloc (rgO ⟨1, 100, 101⟩)) := ⟨_, Eq.refl _⟩
                  have t33 : Touch (fun _ => False) w32 w33 := by rw [hw33.out]; exact (Touch.refl _ _).alloc _
                  have hsl : SlR w33 (.slice (some ⟨w32.heap.size, 0, none⟩) 1 1) [⟨1, 100, 101⟩] := by rw [hw33.out]; exact ⟨_, 1, rfl, (fun h => by cases h), Nat.le_refl _, by omega, LiesR.new w32 ⟨1, 100, 101⟩⟩
                  have hbr := run_build_100 w32
                  have HH : Hid (Calls Try.prog 9 #[.pointer (some ⟨g, 0, none⟩), .slice (some ⟨w32.heap.size, 0, none⟩) 1 1] w33 fun e w' => e = .returned (.tuple #[]) ∧ ∃ out, (∀ c k, hasB out c k = hasB [⟨1, 100, 101⟩] c k) ∧ Lv v1 KZ w' g { s2 with hid := out } LM ∧ Kept KZ w33 w' ∧ w33.heap.size ≤ w'.heap.size) := lv_hide2 (HL32.out.on t33) [⟨1, 100, 101⟩] _ hsl (by decide)
                  rw [hw33.out] at HH
                  clear hw33 t33 hsl
                  go_wp2_with fail
                  refine HH.out.mono ?_
                  rintro e w34 ⟨rfl, out, hout, hl34, -, -⟩
                  have HV3 : Hid (Calls Try.prog 13 #[.pointer (some ⟨g, 0, none⟩)] w34 fun e w' => ∃ v, e = .returned v ∧ Touch (fun _ => False) w34 w' ∧ Calls Try.prog 12 #[v] w' fun e w'' => e = .returned (.string covB) ∧ Touch (fun _ => False) w' w'') := cov_any hl34 HN.out hD1 (by omega) (by unfold shS; show (!hasB out 1 50) = true; rw [hout, has_100]; rfl) (by have := Hlen.out; omega)
                  have HTf : Hid (Touch (fun _ => False) w w34) := HT1.out.trans hl34.touch0
                  clear hl34 hout HH HL32 hbr
                  go_wp2_with fail
                  refine HV3.out.mono ?_
                  rintro e w35 ⟨vz, rfl, t35, hc35⟩
                  have HC35 : Hid (Touch (fun _ => False) w w35 ∧ Calls Try.prog 12 #[vz] w35 fun e w'' => e = .returned (.string covB) ∧ Touch (fun _ => False) w35 w'') := ⟨HTf.out.trans t35, hc35⟩
                  clear t35 hc35 HV3 HTf
                  go_wp2_with fail
                  refine HC35.out.2.mono ?_
                  rintro e w36 ⟨rfl, t36⟩
                  have HTl : Hid (Touch (fun _ => False) w w36) := HC35.out.1.trans t36
                  clear t36 HC35
                  go_wp2_with fail
                  go_ret
                  exact ⟨by first | rfl | simp, HTl.out⟩
end Go.Proofs.Ytegldlfbmaapiaa
