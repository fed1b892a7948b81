/- Package maps: two Maps side by side, one after the other changed. -/
import Derived.Test.YtegldlfbmaapiaaOwn1
import Derived.Test.YtegldlfbmaapiaaPart18
import Derived.Test.YtegldlfbmaapiaaRowO
import Derived.Test.YtegldlfbmaapiaaPart2
import Derived.Maps.AppendAt
import Derived.Laws.OwnMore
import Derived.Shelf.GgSortFunc.RowK
import Derived.Test.YtegldlfbmaapiaaKnown12b
import Derived.Test.YtegldlfbmaapiaaPart19
import Derived.Test.YtegldlfbmaapiaaMapsLast
import Derived.Test.YtegldlfbmaapiaaPart10
import Derived.Test.YtegldlfbmaapiaaRowR
import Derived.Deep.Slices
import Derived.ChangeMaps5
import Derived.SizedLaws
import Derived.Lib.SmallJoins
namespace Go.Proofs.Ytegldlfbmaapiaa
open Go.RowKit Go.Maps
set_option linter.unusedVariables false
set_option linter.unusedSimpArgs false
set_option maxRecDepth 100000

section
variable {w0 w : World} {K : Nat → Prop} {g : Nat} {s : MS} {L : List O}
theorem lv_set2 (h : Lv w0 K w g s L) (o : O) (hf : o.fits) (hky : o.ky.size ≤ 281474976710656) (hl : L.length < 90000) (hok : okS s o = true) :
    Calls Try.prog 10 #[.pointer (some ⟨g, 0, none⟩), o.val] w fun e w' => e = .returned (.bool true) ∧ Lv w0 K w' g (setS s o) (L ++ [o]) ∧ Kept K w w' ∧ w.heap.size ≤ w'.heap.size := by
  obtain ⟨F, h⟩ := h
  refine (set_any h.at_ (h.cnt.small (by omega)) o hf hky).mono ?_
  rintro e w' ⟨rfl, hp⟩
  obtain ⟨h1, h2, h3, h4, h5⟩ := ok_parts hok
  have hpar := (h.has.maps _ _ hf.upc hf.upk).1 h4
  have hn : ∀ x ∈ L, ¬ (x.c = o.c ∧ x.k = o.k) := fun x hx e => by
    have := (h.has.told _ _ hf.uc hf.uk).2 ⟨x, hx, e⟩
    rw [h5] at this; cases this
  have hs : w.heap.size ≤ w'.heap.size := by obtain ⟨_, _, t, _⟩ := hp; exact t.size
  have hq := lvF_post h hp (h.has.set h.ord hf hky hok) (h.ord.set o) (h.chain.snoc hpar) (h.apart.snoc hn) (by have := h.cnt.set o; simpa using this) (by simp; omega)
  exact ⟨by rw [hok], hq.1, hq.2, hs⟩
theorem lv_hide2 (h : Lv w0 K w g s L) (l : List Rg) (v : Value) (hs : SlR w v l) (hll : l.length ≤ 1073741824) :
    Calls Try.prog 9 #[.pointer (some ⟨g, 0, none⟩), v] w fun e w' => e = .returned (.tuple #[]) ∧ ∃ out, (∀ c k, hasB out c k = hasB l c k) ∧ Lv w0 K w' g { s with hid := out } L ∧ Kept K w w' ∧ w.heap.size ≤ w'.heap.size := by
  obtain ⟨F, h⟩ := h
  refine (hide_any h.at_ l v hs hll).mono ?_
  rintro e w' ⟨rfl, out, hF, hp⟩
  have hsz : w.heap.size ≤ w'.heap.size := by obtain ⟨_, _, t, _⟩ := hp; exact t.size
  have hq := lvF_post h hp (h.has.hide out) (h.ord.hide out) h.chain h.apart (h.cnt.hide out) h.len
  exact ⟨rfl, out, fun c k => hasB_clean hF c k, hq.1, hq.2, hsz⟩
/-- The other's turn. -/
theorem Lv.swap {wS wA : World} {KA KB : Nat → Prop} {ga gb : Nat} {sA sB : MS} {LA LB : List O} (hb : Lv w0 KB wS gb sB LB) (ha : Lv w0 KA wA ga sA LA) (hk : Kept KA wS wA) (hsz : wS.heap.size ≤ wA.heap.size) (hin : ∀ k, w0.heap.size ≤ k → k < wS.heap.size → ¬ KB k → KA k) :
    Lv w0 (fun k => w0.heap.size ≤ k ∧ k < wA.heap.size ∧ ¬ KA k) wA gb sB LB := by
  obtain ⟨FA, ha⟩ := ha
  obtain ⟨F, h⟩ := hb
  have t1 := h.touch
  have t2 := ha.touch
  have t : Touch (fun k => ¬ KA k) wS wA := ⟨t2.os.trans t1.os.symm, t2.tape.trans t1.tape.symm, t2.output.trans t1.output.symm, hsz, fun k _ hn => hk k (Classical.not_not.1 hn)⟩
  have hF : ∀ k, F k → KA k := fun k hk => hin k (h.own k hk).1 (h.at_.lt hk) (h.own k hk).2
  exact ⟨F, h.at_.touch t fun k hk hn => hn (hF k hk), fun k hk => ⟨(h.own k hk).1, fun q => q.2.2 (hF k hk)⟩, fun k q => q.2.1, t2, h.has, h.ord, h.chain, h.apart, h.cnt, h.len⟩
end
end Go.Proofs.Ytegldlfbmaapiaa

/- Slices of operations, not of a named type: cut, grown. -/
namespace Go.Proofs.Ytegldlfbmaapiaa
open Go.RowKit Go.Maps
set_option linter.unusedVariables false
set_option linter.unusedSimpArgs false

theorem sliceO_from (vo : Option Addr) (n cap c : Nat) (h : c ≤ n) (W : World) : (Instr.slice 26 (.slice vo n cap) (some (.int .i64 (c : Int))) none none).run Try.prog W = .ok (.slice (if cap = c then vo else vo.map (·.add (c * 22))) (n - c) (cap - c)) W := by
  have h1 : (c : Int) ≤ (n : Int) := by omega
  have hu := Try.underlying26
  obtain ⟨i0, hi, hz0, hz1, hz2⟩ := info_parts infoP
  simp [Instr.slice, run_underlying hu, Instr.sliceBounds, run_sliceBound, h1, sizeOf, typeInfo, hi, hz1]
theorem sliceO_to (vo : Option Addr) (n cap c : Nat) (h : c ≤ cap) (W : World) : (Instr.slice 26 (.slice vo n cap) none (some (.int .i64 (c : Int))) none).run Try.prog W = .ok (.slice vo c cap) W := by
  have h1 : (c : Int) ≤ (cap : Int) := by omega
  have hu := Try.underlying26
  have ha : ∀ a : Addr, a.add 0 = a := fun a => by cases a; simp [Addr.add]
  obtain ⟨i0, hi, hz0, hz1, hz2⟩ := info_parts infoP
  simp [Instr.slice, run_underlying hu, Instr.sliceBounds, run_sliceBound, h1, sizeOf, typeInfo, hi, ha]

theorem run_appendO (w : World) (v : Value) (a : List O) (hown : w.ownsRow 0 41 22 v a.length (cellsP a)) (ao : Option Addr) (n cap : Nat) (b : List O) (hn : n = b.length) (hno : ao = none → cap = 0) (hL : LiesP w ao b) (hlen : a.length + b.length ≤ 1073741825) :
    ∃ v' w', (Builtin.append_ #[26, 26] 26 #[v, .slice ao n cap]).run Try.prog w = .ok v' w' ∧ w'.ownsRow 0 41 22 v' (a ++ b).length (cellsP (a ++ b)) ∧ w.grownBy w' v.ownBlock ∧ (v'.ownBlock = v.ownBlock ∨ v'.ownBlock = some w.heap.size) := by
  subst hn
  obtain ⟨i0, hi, hz0, hz1, hz2⟩ := info_parts infoP
  cases ao with
  | none =>
    have hb : b = [] := by
      rcases hL with h | ⟨b', o, e, _⟩
      · exact h
      · cases e
    subst hb
    have hc := hno rfl
    subst hc
    refine ⟨v, w, run_append_owned_none w 0 26 26 41 i0 22 Try.underlying26 hi v a.length (cellsP a) hown, ?_, World.grownBy.refl w _, .inl rfl⟩
    rw [List.append_nil]; exact hown
  | some ad =>
    have hcl : ∀ j u, (cellsP b)[j]? = some u → w.cell? (ad.add j) = some u := by
      rcases hL with h | ⟨b', o, e, h⟩
      · subst h; intro j u hu; simp [cellsP] at hu
      · cases e; intro j u hu; rw [addr_addP]; exact h j u hu
    obtain ⟨v', w', hrun, hown', hg, _, hat⟩ := run_append_own_at w 0 26 26 41 i0 _ 22 200 Try.underlying26 hi hz0 hz1 hz2 rfl (by decide) v a.length (cellsP a) hown ad b.length cap (cellsP b) (cellsP_len b) hcl (cellsP_one b) (by unfold maxLen; omega) (by omega) (Nat.zero_le _)
    refine ⟨v', w', hrun, ?_, hg, hat⟩
    rw [cellsP_append, List.length_append]; exact hown'
theorem NewP.appO {W wx : World} {v : Value} {a : List O} (h : NewP W wx v a) (ao : Option Addr) (n cap : Nat) (b : List O) (hn : n = b.length) (hno : ao = none → cap = 0) (hL : LiesP wx ao b) (hlen : a.length + b.length ≤ 1073741825) :
    ∃ v' w', (Builtin.append_ #[26, 26] 26 #[v, .slice ao n cap]).run Try.prog wx = .ok v' w' ∧ NewP W w' v' (a ++ b) ∧ wx.grownBy w' v.ownBlock := by
  obtain ⟨v', w', hr, ho, hg, hb⟩ := run_appendO wx v a h.owns ao n cap b hn hno hL hlen
  refine ⟨v', w', hr, ⟨ho, ?_, fun k hk => ?_⟩, hg⟩
  · exact h.touch.then ((Touch.refl (fun i => v.ownBlock = some i) wx).grown hg (fun i e _ => e)) fun i hi e => absurd hi (Nat.not_lt.2 (h.fresh i e))
  · rcases hb with e | e
    · exact h.fresh k (e ▸ hk)
    · rw [hk] at e; have := h.touch.size; simp at e; omega
theorem NewP.app1O {W wx : World} {v : Value} {a : List O} (h : NewP W wx v a) (r : O) (hlen : a.length ≤ 1073741824) :
    ∃ v' w', (Builtin.append_ #[26, 26] 26 #[v, .slice (some ⟨wx.heap.size, 0, none⟩) 1 1]).run Try.prog (wx.alloc (opO r)) = .ok v' w' ∧ NewP W w' v' (a ++ [r]) ∧ (wx.alloc (opO r)).grownBy w' v.ownBlock :=
  NewP.appO (h.on ((Touch.refl _ wx).alloc _)) (some ⟨wx.heap.size, 0, none⟩) 1 1 [r] rfl (fun h => by cases h) (LiesP.new wx r) (by simp; omega)
theorem wpList_append_runO {w w' : World} {ops : Array Oper} {rest : List Oper} {o : Oper} {a : Act} {Q : Exit → Act → World → Prop} (hgd : o.guard = none) (s x : Operand)
    (ho : o.op = .call { callee := .builtin .append, args := #[s, x], argTypes := #[26, 26] }) (v y v' : Value) (hs : a.eval s = v) (hx : a.eval x = y)
    (hrun : (Builtin.append_ #[26, 26] o.type #[v, y]).run Try.prog w = .ok v' w') (h : wpList Try.prog ops Q rest (a.put o.dst v') w') : wpList Try.prog ops Q (o :: rest) a w := by
  refine wpList_plain hgd fun K' hK' => ?_
  unfold Oper.wp
  simp [execOp, ho, resolve, invoke, builtin, hs, hx, hrun, Result.andThen]
  exact hK' _ _ h
end Go.Proofs.Ytegldlfbmaapiaa

/- Slices of ids: how they lie, are cut, grow. -/
namespace Go.Proofs.Ytegldlfbmaapiaa
open Go.RowKit Go.Maps
set_option linter.unusedVariables false
set_option linter.unusedSimpArgs false

structure Ip where
  c : Int
  k : Int
deriving DecidableEq, Inhabited
abbrev ipO (r : Ip) : Obj := .cells #[.int .u64 r.c, .int .u64 r.k] 34
def cellD (r : Ip) : List Value := [.int .u64 r.c, .int .u64 r.k]
def cellsD (l : List Ip) : List Value := l.flatMap cellD
theorem cellsD_cons (r : Ip) (l : List Ip) : cellsD (r :: l) = .int .u64 r.c :: .int .u64 r.k :: cellsD l := rfl
theorem cellsD_append (a b : List Ip) : cellsD (a ++ b) = cellsD a ++ cellsD b := by simp [cellsD]
theorem cellsD_one (l : List Ip) : ∀ u ∈ cellsD l, u.oneCell' = true := by
  intro u hu
  obtain ⟨f, _, hf⟩ := List.mem_flatMap.1 hu
  simp only [cellD, List.mem_cons, List.not_mem_nil, or_false] at hf
  rcases hf with rfl | rfl <;> rfl
theorem cellsD_len (l : List Ip) : (cellsD l).length = l.length * 2 := by
  induction l with
  | nil => rfl
  | cons f r ih => rw [cellsD_cons]; simp only [List.length_cons, ih]; omega
theorem cellsD_get : ∀ (l : List Ip) (j : Nat) (h : j < l.length), (cellsD l)[j * 2]? = some (.int .u64 l[j].c) ∧ (cellsD l)[j * 2 + 1]? = some (.int .u64 l[j].k)
  | f :: r, 0, _ => ⟨rfl, rfl⟩
  | f :: r, j + 1, h => by
    have ih := cellsD_get r j (by simpa using h)
    rw [cellsD_cons, show (j + 1) * 2 = j * 2 + 2 from by omega]
    exact ih
theorem cellsD_set : ∀ (l : List Ip) (j : Nat) (h : j < l.length) (r : Ip), ((cellsD l).set (j * 2) (.int .u64 r.c)).set (j * 2 + 1) (.int .u64 r.k) = cellsD (l.set j r)
  | f :: l, 0, _, r => rfl
  | f :: l, j + 1, h, r => by
    have ih := cellsD_set l j (by simpa using h) r
    rw [cellsD_cons, List.set_cons_succ, cellsD_cons, ← ih, show (j + 1) * 2 = j * 2 + 2 from by omega]
    rfl
/-- One field laid anew. -/
theorem cellsD_to : ∀ (l : List Ip) (j : Nat) (h : j < l.length) (y : Int), (cellsD l).set (j * 2 + 1) (.int .u64 y) = cellsD (l.set j ⟨l[j].c, y⟩)
  | f :: l, 0, _, y => rfl
  | f :: l, j + 1, h, y => by
    have ih := cellsD_to l j (by simpa using h) y
    have hj : j < l.length := by simpa using h
    have e : (f :: l).set (j + 1) ⟨(f :: l)[j + 1].c, y⟩ = f :: l.set j ⟨l[j].c, y⟩ := rfl
    rw [e, cellsD_cons, cellsD_cons, ← ih, show (j + 1) * 2 = j * 2 + 2 from by omega]
    rfl
theorem infoD : (Try.prog.info? 34).map (fun i => (i.zero, i.size, i.bytes)) = some (some (.agg #[.int .u64 0, .int .u64 0]), 2, 16) := by kernel_rfl
/-- They lie where a slice of that address begins. -/
def LiesD (w : World) (ao : Option Addr) (l : List Ip) : Prop := l = [] ∨ ∃ b o, ao = some ⟨b, o, none⟩ ∧ ∀ j u, (cellsD l)[j]? = some u → w.cell? ⟨b, o + j, none⟩ = some u
theorem LiesD.touch {W W' : World} {ao : Option Addr} {b : List Ip} (h : LiesD W ao b) (t : Touch (fun _ => False) W W') : LiesD W' ao b := by
  rcases h with h | ⟨b, o, e, h⟩
  · exact .inl h
  · refine .inr ⟨b, o, e, fun j u hu => ?_⟩
    have := h j u hu
    rw [World.cell?_of_block (t.block _ (World.block_lt_of_cell? _ _ this) id)]; exact this
theorem LiesD.new (W : World) (f : Ip) : LiesD (W.alloc (ipO f)) (some ⟨W.heap.size, 0, none⟩) [f] := by
  refine .inr ⟨_, _, rfl, fun j u hu => ?_⟩
  rw [Nat.zero_add, cell_of_block (heap_alloc_new W (ipO f))]
  have e : cellsD [f] = [.int .u64 f.c, .int .u64 f.k] := rfl
  rw [e] at hu
  simpa using hu
theorem addr_addD (g o j : Nat) : (⟨g, o, none⟩ : Addr).add j = ⟨g, o + j, none⟩ := by
  unfold Addr.add
  split <;> simp_all
/-- v is a slice of l. -/
def SlD (w : World) (v : Value) (l : List Ip) : Prop := ∃ ao cap, v = .slice ao l.length cap ∧ (ao = none → cap = 0) ∧ l.length ≤ cap ∧ cap ≤ 9223372036854775807 ∧ LiesD w ao l
theorem SlD.touch {W W' : World} {v : Value} {l : List Ip} (h : SlD W v l) (t : Touch (fun _ => False) W W') : SlD W' v l := by
  obtain ⟨ao, cap, e, h1, h2, h3, h4⟩ := h
  exact ⟨ao, cap, e, h1, h2, h3, h4.touch t⟩
theorem SlD.nil (w : World) : SlD w (.slice none 0 0) [] := ⟨none, 0, rfl, fun _ => rfl, Nat.le_refl _, by omega, .inl rfl⟩
/-- Its cells, where there are any. -/
theorem SlD.row {w : World} {v : Value} {l : List Ip} (h : SlD w v l) (hne : l ≠ []) : ∃ b o cap, v = .slice (some ⟨b, o, none⟩) l.length cap ∧ l.length ≤ cap ∧ cap ≤ 9223372036854775807 ∧ b < w.heap.size ∧ ∀ j (h : j < l.length), w.cell? ⟨b, o + j * 2, none⟩ = some (.int .u64 l[j].c) ∧ w.cell? ⟨b, o + j * 2 + 1, none⟩ = some (.int .u64 l[j].k) := by
  obtain ⟨ao, cap, e, h1, h2, h3, h4⟩ := h
  rcases h4 with h4 | ⟨b, o, rfl, hc⟩
  · exact absurd h4 hne
  · have hx : ∀ j (h : j < l.length), w.cell? ⟨b, o + j * 2, none⟩ = some (.int .u64 l[j].c) ∧ w.cell? ⟨b, o + j * 2 + 1, none⟩ = some (.int .u64 l[j].k) := fun j hj => by
      obtain ⟨a0, a1⟩ := cellsD_get l j hj
      exact ⟨hc _ _ a0, hc _ _ a1⟩
    refine ⟨b, o, cap, e, h2, h3, ?_, hx⟩
    have hp : 0 < l.length := List.length_pos_iff.2 hne
    exact World.block_lt_of_cell? _ _ (hx 0 hp).1
theorem SlD.shape {w : World} {v : Value} {l : List Ip} (h : SlD w v l) : ∃ ao cap, v = .slice ao l.length cap ∧ (ao = none → cap = 0) ∧ l.length ≤ cap ∧ cap ≤ 9223372036854775807 := by
  obtain ⟨ao, cap, e, h1, h2, h3, h4⟩ := h
  exact ⟨ao, cap, e, h1, h2, h3⟩
theorem SlD.from {w : World} {ao : Option Addr} {n cap : Nat} {l : List Ip} (h : SlD w (.slice ao n cap) l) (c : Nat) (hc : c ≤ l.length) : SlD w (.slice (if cap = c then ao else ao.map (·.add (c * 2))) (n - c) (cap - c)) (l.drop c) := by
  obtain ⟨ao', cap', e, h1, h2, h3, h4⟩ := h
  simp only [Value.slice.injEq] at e
  obtain ⟨rfl, rfl, rfl⟩ := e
  refine ⟨_, _, by rw [List.length_drop], ?_, by rw [List.length_drop]; omega, by omega, ?_⟩
  · intro e
    split at e
    · have := h1 e; omega
    · rw [Option.map_eq_none_iff] at e
      have := h1 e; omega
  · by_cases hd : l.drop c = []
    · exact .inl hd
    · have hlt : c < l.length := by
        rcases Nat.lt_or_ge c l.length with x | x
        · exact x
        · exact absurd (List.drop_of_length_le x) hd
      rcases h4 with h4 | ⟨b, o, rfl, hx⟩
      · subst h4; simp at hlt
      · rw [if_neg (by omega), Option.map_some, addr_addD]
        refine .inr ⟨b, o + c * 2, rfl, fun j u hu => ?_⟩
        have e2 : cellsD l = cellsD (l.take c) ++ cellsD (l.drop c) := by rw [← cellsD_append, List.take_append_drop]
        have hlen : (cellsD (l.take c)).length = c * 2 := by rw [cellsD_len, List.length_take]; omega
        have : (cellsD l)[c * 2 + j]? = some u := by
          rw [e2, List.getElem?_append_right (by omega), hlen, Nat.add_sub_cancel_left]; exact hu
        have := hx _ u this
        rw [Nat.add_assoc]; exact this
theorem SlD.upto {w : World} {ao : Option Addr} {n cap : Nat} {l : List Ip} (h : SlD w (.slice ao n cap) l) (c : Nat) (hc : c ≤ l.length) : SlD w (.slice ao c cap) (l.take c) := by
  obtain ⟨ao', cap', e, h1, h2, h3, h4⟩ := h
  simp only [Value.slice.injEq] at e
  obtain ⟨rfl, rfl, rfl⟩ := e
  have hlen : (l.take c).length = c := by rw [List.length_take]; omega
  refine ⟨_, _, by rw [hlen], h1, by omega, h3, ?_⟩
  rcases h4 with h4 | ⟨b, o, rfl, hx⟩
  · exact .inl (by rw [h4]; simp)
  · refine .inr ⟨b, o, rfl, fun j u hu => hx j u ?_⟩
    have e2 : cellsD l = cellsD (l.take c) ++ cellsD (l.drop c) := by rw [← cellsD_append, List.take_append_drop]
    rw [e2, List.getElem?_append_left (by rw [List.getElem?_eq_some_iff] at hu; exact hu.1)]; exact hu
theorem sliceD_from (vo : Option Addr) (n cap c : Nat) (h : c ≤ n) (W : World) : (Instr.slice 64 (.slice vo n cap) (some (.int .i64 (c : Int))) none none).run Try.prog W = .ok (.slice (if cap = c then vo else vo.map (·.add (c * 2))) (n - c) (cap - c)) W := by
  have h1 : (c : Int) ≤ (n : Int) := by omega
  have hu := Try.underlying64
  obtain ⟨i0, hi, hz0, hz1, hz2⟩ := info_parts infoD
  simp [Instr.slice, run_underlying hu, Instr.sliceBounds, run_sliceBound, h1, sizeOf, typeInfo, hi, hz1]
theorem sliceD_to (vo : Option Addr) (n cap c : Nat) (h : c ≤ cap) (W : World) : (Instr.slice 64 (.slice vo n cap) none (some (.int .i64 (c : Int))) none).run Try.prog W = .ok (.slice vo c cap) W := by
  have h1 : (c : Int) ≤ (cap : Int) := by omega
  have hu := Try.underlying64
  have ha : ∀ a : Addr, a.add 0 = a := fun a => by cases a; simp [Addr.add]
  obtain ⟨i0, hi, hz0, hz1, hz2⟩ := info_parts infoD
  simp [Instr.slice, run_underlying hu, Instr.sliceBounds, run_sliceBound, h1, sizeOf, typeInfo, hi, ha]

theorem ownD_touch {S : Nat → Prop} {w w' : World} {v : Value} {n : Nat} {xs : List Value} (h : w.ownsRow 0 34 2 v n xs) (t : Touch S w w') (hs : ∀ k, v.ownBlock = some k → ¬ S k) : w'.ownsRow 0 34 2 v n xs := by
  refine ⟨h.1, ?_⟩
  rcases h.2 with h | ⟨g, cap, cur, rfl, hb, hg, r⟩
  · exact .inl h
  · exact .inr ⟨g, cap, cur, rfl, hb, (t.block g (lt_of_heap hg) (hs g rfl)).trans hg, r⟩
/-- A slice that was made since W, of the cells xs. -/
structure OwnD (W w : World) (v : Value) (n : Nat) (xs : List Value) : Prop where
  owns : w.ownsRow 0 34 2 v n xs
  touch : Touch (fun _ => False) W w
  fresh : ∀ k, v.ownBlock = some k → W.heap.size ≤ k
abbrev NewD (W w : World) (v : Value) (l : List Ip) : Prop := OwnD W w v l.length (cellsD l)
theorem NewD.nil (W w : World) (t : Touch (fun _ => False) W w) : NewD W w (.slice none 0 0) [] := ⟨World.ownsRow_nil _ _ _ _, t, fun k hk => by simp [Value.ownBlock] at hk⟩
theorem OwnD.on {W w w' : World} {v : Value} {n : Nat} {xs : List Value} (h : OwnD W w v n xs) (t : Touch (fun _ => False) w w') : OwnD W w' v n xs :=
  ⟨ownD_touch h.owns t (fun _ _ => id), h.touch.trans t, h.fresh⟩
/-- It was made since any world ahead, too. -/
theorem OwnD.since {W0 W w : World} {v : Value} {n : Nat} {xs : List Value} (h : OwnD W w v n xs) (t : Touch (fun _ => False) W0 W) : OwnD W0 w v n xs :=
  ⟨h.owns, t.trans h.touch, fun k hk => Nat.le_trans t.size (h.fresh k hk)⟩
theorem NewD.sl {W w : World} {v : Value} {l : List Ip} (h : NewD W w v l) : SlD w v l := by
  rcases h.owns.2 with ⟨e, h0⟩ | ⟨g, cap, cur, e, hb, hg, q1, q2, q3, q4⟩
  · have : l = [] := List.length_eq_zero_iff.1 (by omega)
    subst this
    rw [e]; exact SlD.nil w
  · refine ⟨_, cap, e, (fun h => by cases h), q1, q2, .inr ⟨g, 0, rfl, fun j u hu => ?_⟩⟩
    rw [← q4, List.getElem?_take] at hu
    split at hu
    · rw [cell_of_block hg, Nat.zero_add, ← Array.getElem?_toList]; exact hu
    · cases hu
theorem run_appendD (w : World) (v : Value) (a : List Ip) (hown : w.ownsRow 0 34 2 v a.length (cellsD a)) (ao : Option Addr) (n cap : Nat) (b : List Ip) (hn : n = b.length) (hno : ao = none → cap = 0) (hL : LiesD w ao b) (hlen : a.length + b.length ≤ 1073741825) :
    ∃ v' w', (Builtin.append_ #[64, 64] 64 #[v, .slice ao n cap]).run Try.prog w = .ok v' w' ∧ w'.ownsRow 0 34 2 v' (a ++ b).length (cellsD (a ++ b)) ∧ w.grownBy w' v.ownBlock ∧ (v'.ownBlock = v.ownBlock ∨ v'.ownBlock = some w.heap.size) := by
  subst hn
  obtain ⟨i0, hi, hz0, hz1, hz2⟩ := info_parts infoD
  cases ao with
  | none =>
    have hb : b = [] := by
      rcases hL with h | ⟨b', o, e, _⟩
      · exact h
      · cases e
    subst hb
    have hc := hno rfl
    subst hc
    refine ⟨v, w, run_append_owned_none w 0 64 64 34 i0 2 Try.underlying64 hi v a.length (cellsD a) hown, ?_, World.grownBy.refl w _, .inl rfl⟩
    rw [List.append_nil]; exact hown
  | some ad =>
    have hcl : ∀ j u, (cellsD b)[j]? = some u → w.cell? (ad.add j) = some u := by
      rcases hL with h | ⟨b', o, e, h⟩
      · subst h; intro j u hu; simp [cellsD] at hu
      · cases e; intro j u hu; rw [addr_addD]; exact h j u hu
    obtain ⟨v', w', hrun, hown', hg, _, hat⟩ := run_append_own_at w 0 64 64 34 i0 _ 2 16 Try.underlying64 hi hz0 hz1 hz2 rfl (by decide) v a.length (cellsD a) hown ad b.length cap (cellsD b) (cellsD_len b) hcl (cellsD_one b) (by unfold maxLen; omega) (by omega) (Nat.zero_le _)
    refine ⟨v', w', hrun, ?_, hg, hat⟩
    rw [cellsD_append, List.length_append]; exact hown'
theorem NewD.app {W wx : World} {v : Value} {a : List Ip} (h : NewD W wx v a) (ao : Option Addr) (n cap : Nat) (b : List Ip) (hn : n = b.length) (hno : ao = none → cap = 0) (hL : LiesD wx ao b) (hlen : a.length + b.length ≤ 1073741825) :
    ∃ v' w', (Builtin.append_ #[64, 64] 64 #[v, .slice ao n cap]).run Try.prog wx = .ok v' w' ∧ NewD W w' v' (a ++ b) ∧ wx.grownBy w' v.ownBlock := by
  obtain ⟨v', w', hr, ho, hg, hb⟩ := run_appendD wx v a h.owns ao n cap b hn hno hL hlen
  refine ⟨v', w', hr, ⟨ho, ?_, fun k hk => ?_⟩, hg⟩
  · exact h.touch.then ((Touch.refl (fun i => v.ownBlock = some i) wx).grown hg (fun i e _ => e)) fun i hi e => absurd hi (Nat.not_lt.2 (h.fresh i e))
  · rcases hb with e | e
    · exact h.fresh k (e ▸ hk)
    · rw [hk] at e; have := h.touch.size; simp at e; omega
/-- An append of one, out of a new block. -/
theorem NewD.app1 {W wx : World} {v : Value} {a : List Ip} (h : NewD W wx v a) (r : Ip) (hlen : a.length ≤ 1073741824) :
    ∃ v' w', (Builtin.append_ #[64, 64] 64 #[v, .slice (some ⟨wx.heap.size, 0, none⟩) 1 1]).run Try.prog (wx.alloc (ipO r)) = .ok v' w' ∧ NewD W w' v' (a ++ [r]) ∧ (wx.alloc (ipO r)).grownBy w' v.ownBlock :=
  NewD.app (h.on ((Touch.refl _ wx).alloc _)) (some ⟨wx.heap.size, 0, none⟩) 1 1 [r] rfl (fun h => by cases h) (LiesD.new wx r) (by simp; omega)
theorem wpList_append_runD {w w' : World} {ops : Array Oper} {rest : List Oper} {o : Oper} {a : Act} {Q : Exit → Act → World → Prop} (hgd : o.guard = none) (s x : Operand)
    (ho : o.op = .call { callee := .builtin .append, args := #[s, x], argTypes := #[64, 64] }) (v y v' : Value) (hs : a.eval s = v) (hx : a.eval x = y)
    (hrun : (Builtin.append_ #[64, 64] o.type #[v, y]).run Try.prog w = .ok v' w') (h : wpList Try.prog ops Q rest (a.put o.dst v') w') : wpList Try.prog ops Q (o :: rest) a w := by
  refine wpList_plain hgd fun K' hK' => ?_
  unfold Oper.wp
  simp [execOp, ho, resolve, invoke, builtin, hs, hx, hrun, Result.andThen]
  exact hK' _ _ h
/-- A cell of it laid anew. -/
theorem OwnD.set {W w : World} {v : Value} {n : Nat} {xs : List Value} (h : OwnD W w v n xs) {g cap : Nat} (e : v = .slice (some ⟨g, 0, none⟩) n cap) (i : Nat) (hi : i < n * 2) (y : Value) (hy : y.oneCell' = true) : OwnD W (w.setCell ⟨g, i, none⟩ y) v n (xs.set i y) := by
  have hf : W.heap.size ≤ g := h.fresh g (by rw [e]; rfl)
  have h1 := h.owns.1
  rcases h.owns.2 with ⟨e', h0⟩ | ⟨g', cap', cur, e', hb, hg, q1, q2, q3, q4⟩
  · rw [h0] at hi; omega
  · rw [e] at e'
    simp only [Value.slice.injEq, Option.some.injEq, Addr.mk.injEq] at e'
    obtain ⟨⟨rfl, _, _⟩, _, rfl⟩ := e'
    refine ⟨⟨?_, .inr ⟨g, cap, cur.setIfInBounds i y, e, hb, by rw [heap_setCell_same _ _ _ _ hg], q1, q2, ?_, ?_⟩⟩, h.touch.setCell _ _ (fun hk => absurd hk (Nat.not_lt.2 hf)), h.fresh⟩
    · rw [List.length_set]; exact h1
    · simpa using q3
    · rw [Array.toList_setIfInBounds, ← q4, List.take_set]
theorem OwnD.free {W w : World} {v : Value} {n : Nat} {xs : List Value} (h : OwnD W w v n xs) {g cap : Nat} (e : v = .slice (some ⟨g, 0, none⟩) n cap) (hn : 0 < n) (i : Nat) : w.frozen? ⟨g, i, none⟩ = false := by
  rcases h.owns.2 with ⟨e', h0⟩ | ⟨g', cap', cur, e', hb, hg, q1, q2, q3, q4⟩
  · omega
  · rw [e] at e'
    simp only [Value.slice.injEq, Option.some.injEq, Addr.mk.injEq] at e'
    obtain ⟨⟨rfl, _, _⟩, _, rfl⟩ := e'
    exact free_of_block hg
theorem OwnD.shape {W w : World} {v : Value} {n : Nat} {xs : List Value} (h : OwnD W w v n xs) : ∃ ao cap, v = .slice ao n cap ∧ (0 < n → ∃ g, ao = some ⟨g, 0, none⟩) ∧ n ≤ cap ∧ cap ≤ 9223372036854775807 := by
  rcases h.owns.2 with ⟨e, h0⟩ | ⟨g, cap, cur, e, hb, hg, q1, q2, q3, q4⟩
  · exact ⟨none, 0, by rw [e, h0], fun h => by omega, by omega, by omega⟩
  · exact ⟨_, cap, e, fun _ => ⟨g, rfl⟩, q1, q2⟩
end Go.Proofs.Ytegldlfbmaapiaa

/- quirelaw12.grown: the sets that it makes, as mathematics. -/
namespace Go.Proofs.Ytegldlfbmaapiaa
open Go.RowKit Go.Maps
set_option linter.unusedVariables false
set_option linter.unusedSimpArgs false
set_option maxRecDepth 100000

abbrev abcB : ByteArray := ByteArray.mk #[97, 98, 99]
def keyL (lo : Nat) : ByteArray := abcB.extract lo (lo + 1)
theorem keyL_short : ∀ lo, lo < 3 → (keyL lo).size = 1 ∧ (qL (keyL lo)).length ≤ 8 := by
  have : ∀ lo : Fin 3, (keyL lo.1).size = 1 ∧ (qL (keyL lo.1)).length ≤ 8 := by decide +kernel
  exact fun lo h => this ⟨lo, h⟩
theorem intL_short : ∀ i : Nat, i < 40 → (textL ⟨2, (i : Int), 0, ⟨#[]⟩⟩).length ≤ 20 := by
  have : ∀ i : Fin 40, (textL ⟨2, ((i.1 : Nat) : Int), 0, ⟨#[]⟩⟩).length ≤ 20 := by decide +kernel
  exact fun i h => this ⟨i, h⟩
/-- The value that the i-th set lays. -/
def GV (i : Nat) (v : V) : Prop := v = ⟨2, (i : Int), 0, ⟨#[]⟩⟩ ∨ v = ⟨5, 0, 0, ⟨#[]⟩⟩ ∨ v = ⟨0, 0, 0, ⟨#[]⟩⟩
def withC (o : O) (cl : Int) : O := { o with c := cl }
structure GOne (i : Nat) (o : O) : Prop where
  fits : o.fits
  kind : o.kind = 4
  k : o.k = ((i + 1 : Nat) : Int)
  nc : numOk o.c = true
  nk : numOk o.k = true
  ky : o.ky.size = 1
  short : ShortO o
theorem refBits_zero : refBits 0 = 0 := by decide
theorem gfit {k n : Int} (h1 : 0 ≤ k ∧ k ≤ 5) (h2 : 0 ≤ n ∧ n < 100) : V.fits ⟨k, n, refBits 0, ⟨#[]⟩⟩ := by
  rw [refBits_zero]
  constructor <;> first | (show (_ : Nat) ≤ _; exact Nat.zero_le _) | (simp only; omega) | decide
theorem GV.taken {i : Nat} {v : V} (h : GV i v) (hi : i < 40) : V.taken ⟨v.k, v.n, refBits v.f, v.s⟩ ∧ (textL ⟨v.k, v.n, refBits v.f, v.s⟩).length ≤ 20 ∧ v.s.size = 0 := by
  rcases h with rfl | rfl | rfl
  · refine ⟨⟨gfit (by simp only; omega) (by simp only; omega), by simp, by simp, by simp, by simp [refBits_zero], by simp⟩, ?_, rfl⟩
    simp only [refBits_zero]
    exact intL_short i hi
  · refine ⟨⟨gfit (by simp only; omega) (by simp only; omega), by simp, by simp, by simp, by simp [refBits_zero], by simp⟩, ?_, rfl⟩
    simp only [refBits_zero]
    decide
  · refine ⟨⟨gfit (by simp only; omega) (by simp only; omega), by simp, by simp, by simp, by simp [refBits_zero], by simp⟩, ?_, rfl⟩
    simp only [refBits_zero]
    decide
theorem gone_of {i lo : Nat} {st pc pk cl : Int} {v : V} (hi : i < 40) (hlo : lo < 3) (hst : 1 ≤ st ∧ st ≤ 5) (hcl : 1 ≤ cl ∧ cl ≤ 3) (hpc : U64 pc) (hpk : U64 pk) (hv : GV i v) : GOne i (withC (setO ((i + 1 : Nat) : Int) st pc pk (keyL lo) v) cl) := by
  have hk := keyL_short lo hlo
  obtain ⟨t1, t2, t3⟩ := hv.taken hi
  have hvf : v.f = 0 := by rcases hv with rfl | rfl | rfl <;> rfl
  have hvk : 0 ≤ v.k ∧ v.k ≤ 5 := by rcases hv with rfl | rfl | rfl <;> simp only <;> omega
  have hvn : 0 ≤ v.n ∧ v.n < 40 := by
    rcases hv with rfl | rfl | rfl
    · simp only; omega
    · simp only; omega
    · simp only; omega
  obtain ⟨p0, p1⟩ := hpc
  obtain ⟨p2, p3⟩ := hpk
  have hf0 : (setO ((i + 1 : Nat) : Int) st pc pk (keyL lo) v).fits := setO_fits (by omega) (by omega) (by omega) (by omega) (by omega) (by omega) (by omega)
  refine ⟨⟨(show 0 ≤ cl ∧ cl < 18446744073709551616 by omega), hf0.k0, hf0.kind, hf0.st, hf0.lc, hf0.lk, hf0.rc, hf0.rk, hf0.pc, hf0.pk, hf0.fc, hf0.fk, hf0.tc, hf0.tk, hf0.vk, hf0.vn, hf0.vf⟩, rfl, rfl, ?_, ?_, hk.1, t1, ?_, ?_, ?_⟩
  · exact numOk_iff.2 (show 1 ≤ cl ∧ cl ≤ 9007199254740991 by omega)
  · exact numOk_iff.2 (show 1 ≤ ((i + 1 : Nat) : Int) ∧ ((i + 1 : Nat) : Int) ≤ 9007199254740991 by omega)
  · show v.s.size ≤ _; omega
  · show (keyL lo).size ≤ _; omega
  · show (qL (keyL lo)).length + _ ≤ _
    have t4 : (textL (cleanO (withC (setO ((i + 1 : Nat) : Int) st pc pk (keyL lo) v) cl)).v).length ≤ 20 := t2
    omega
/-- Sets that can come one after the other. -/
def GrOk (G : List O) : Prop := (∀ i (h : i < G.length), GOne i G[i]) ∧ Chain G
/-- The maps that there are. -/
def InOk (G : List O) (I : List Ip) : Prop := ∀ p ∈ I, (p.c = 0 ∧ p.k = 0) ∨ ∃ x ∈ G, isMapB x = true ∧ x.c = p.c ∧ x.k = p.k
theorem GrOk.nil : GrOk [] := ⟨fun i h => by simp at h, Chain.nil⟩
theorem GrOk.snoc {G : List O} {o : O} (h : GrOk G) (ho : GOne G.length o) (hp : (o.pc = 0 ∧ o.pk = 0) ∨ ∃ x ∈ G, isMapB x = true ∧ x.c = o.pc ∧ x.k = o.pk) : GrOk (G ++ [o]) := by
  refine ⟨fun i hi => ?_, h.2.snoc hp⟩
  by_cases hl : i < G.length
  · rw [List.getElem_append_left hl]; exact h.1 i hl
  · have : i = G.length := by simp at hi; omega
    subst this
    rw [List.getElem_append_right (Nat.le_refl _)]
    simpa using ho
theorem InOk.more {G : List O} {I : List Ip} (h : InOk G I) (o : O) : InOk (G ++ [o]) I := fun p hp => by
  rcases h p hp with e | ⟨x, hx, e⟩
  · exact .inl e
  · exact .inr ⟨x, by simp [hx], e⟩
theorem InOk.snoc {G : List O} {I : List Ip} (h : InOk G I) {o : O} (hm : isMapB o = true) : InOk (G ++ [o]) (I ++ [⟨o.c, o.k⟩]) := fun p hp => by
  rcases List.mem_append.1 hp with hp | hp
  · exact h.more o p hp
  · rw [List.mem_singleton] at hp
    subst hp
    exact .inr ⟨o, by simp, hm, rfl, rfl⟩
theorem GrOk.fitsIn {G : List O} {I : List Ip} (h : GrOk G) (hI : InOk G I) {p : Ip} (hp : p ∈ I) : U64 p.c ∧ U64 p.k := by
  rcases hI p hp with ⟨e1, e2⟩ | ⟨x, hx, _, e1, e2⟩
  · rw [e1, e2]; exact ⟨u64_zero, u64_zero⟩
  · obtain ⟨i, hi, rfl⟩ := List.mem_iff_getElem.1 hx
    have := (h.1 i hi).fits
    rw [← e1, ← e2]; exact ⟨this.uc, this.uk⟩
/-- A slice of one id. -/
theorem NewD.lit1 (W w : World) (t : Touch (fun _ => False) W w) (r : Ip) : NewD W (w.alloc (ipO r)) (.slice (some ⟨w.heap.size, 0, none⟩) 1 1) [r] :=
  ⟨World.ownsRow_lit w #[.int .u64 r.c, .int .u64 r.k] 1 (Nat.zero_le _) (by decide) rfl, t.alloc _, fun k hk => by
    simp only [Value.ownBlock, Option.some.injEq] at hk
    subst hk
    exact t.size⟩
theorem run_build1O (o : O) (W : World) : (Instr.buildSlice 26 1 #[(0, o.val)]).run Try.prog W = .ok (.slice (some ⟨W.heap.size, 0, none⟩) 1 1) (W.alloc (opO o)) := by kernel_rfl
theorem run_build1D (c k : Int) (W : World) : (Instr.buildSlice 64 1 #[(0, .agg #[.int .u64 c, .int .u64 k])]).run Try.prog W = .ok (.slice (some ⟨W.heap.size, 0, none⟩) 1 1) (W.alloc (ipO ⟨c, k⟩)) := by kernel_rfl
/-- A map more, beside the sets. -/
theorem two_inD {w wr W6 : World} {v3 v4 : Value} {G : List O} {I : List Ip} (h3 : NewP w wr v3 G) (h4 : NewD w wr v4 I) (sep : ∀ k, v3.ownBlock = some k → v4.ownBlock ≠ some k) (t : Touch (fun _ => False) wr W6) (r : Ip) (hl : I.length ≤ 1000) :
    ∃ v' w', (Builtin.append_ #[64, 64] 64 #[v4, .slice (some ⟨W6.heap.size, 0, none⟩) 1 1]).run Try.prog (W6.alloc (ipO r)) = .ok v' w' ∧ NewP w w' v3 G ∧ NewD w w' v' (I ++ [r]) ∧ (∀ k, v3.ownBlock = some k → v'.ownBlock ≠ some k) ∧ ∀ Y, wr.heap.size ≤ Y → Y < W6.heap.size → w'.heap[Y]? = W6.heap[Y]? := by
  have h4' := h4.on (t.trans ((Touch.refl _ W6).alloc (ipO r)))
  obtain ⟨v', w', hr, ho, hg, hb⟩ := run_appendD (W6.alloc (ipO r)) v4 I h4'.owns (some ⟨W6.heap.size, 0, none⟩) 1 1 [r] rfl (fun h => by cases h) (LiesD.new W6 r) (by simp; omega)
  have h4t := h4.owns.lt
  have h3t := h3.owns.lt
  have t6 : Touch (fun i => v4.ownBlock = some i) W6 w' := (((Touch.refl (fun _ => False) W6).alloc (ipO r)).mono fun _ _ q => q.elim).grown hg fun i e _ => e
  have tr : Touch (fun i => v4.ownBlock = some i) wr w' := ((t.trans ((Touch.refl _ W6).alloc (ipO r))).mono fun _ _ q => q.elim).grown hg fun i e _ => e
  have tw : Touch (fun _ => False) w w' := h4.touch.then tr fun i hi e => absurd hi (Nat.not_lt.2 (h4.fresh i e))
  have hs : (W6.alloc (ipO r)).heap.size = W6.heap.size + 1 := by simp
  refine ⟨v', w', hr, ⟨ownP_touch h3.owns tr fun k hk e => sep k hk e, tw, h3.fresh⟩, ⟨ho, tw, fun k hk => ?_⟩, fun k hk e => ?_, fun Y h1 h2 => t6.block Y h2 fun e => ?_⟩
  · rcases hb with e | e
    · exact h4.fresh k (e ▸ hk)
    · rw [hk] at e; have := h4'.touch.size; have := Option.some.inj e; omega
  · rcases hb with e2 | e2
    · exact sep k hk (by rw [← e2]; exact e)
    · rw [e] at e2; have := h3t k hk; have := t.size; have := Option.some.inj e2; omega
  · have := (h4t Y e).2; omega
/-- A set more, beside the maps. -/
theorem two_outP {w wr : World} {v3 v4 : Value} {G : List O} {I : List Ip} (h3 : NewP w wr v3 G) (h4 : NewD w wr v4 I) (sep : ∀ k, v3.ownBlock = some k → v4.ownBlock ≠ some k) (r : O) (hl : G.length ≤ 1000) :
    ∃ v' w', (Builtin.append_ #[26, 26] 26 #[v3, .slice (some ⟨wr.heap.size, 0, none⟩) 1 1]).run Try.prog (wr.alloc (opO r)) = .ok v' w' ∧ NewP w w' v' (G ++ [r]) ∧ NewD w w' v4 I ∧ (∀ k, v'.ownBlock = some k → v4.ownBlock ≠ some k) := by
  have h3' := h3.on ((Touch.refl _ wr).alloc (opO r))
  obtain ⟨v', w', hr, ho, hg, hb⟩ := run_appendO (wr.alloc (opO r)) v3 G h3'.owns (some ⟨wr.heap.size, 0, none⟩) 1 1 [r] rfl (fun h => by cases h) (LiesP.new wr r) (by simp; omega)
  have h4t := h4.owns.lt
  have tr : Touch (fun i => v3.ownBlock = some i) wr w' := (((Touch.refl (fun _ => False) wr).alloc (opO r)).mono fun _ _ q => q.elim).grown hg fun i e _ => e
  have tw : Touch (fun _ => False) w w' := h3.touch.then tr fun i hi e => absurd hi (Nat.not_lt.2 (h3.fresh i e))
  have hs : (wr.alloc (opO r)).heap.size = wr.heap.size + 1 := by simp
  refine ⟨v', w', hr, ⟨ho, tw, fun k hk => ?_⟩, ⟨ownD_touch h4.owns tr fun k hk e => sep k e hk, tw, h4.fresh⟩, fun k hk e => ?_⟩
  · rcases hb with e | e
    · exact h3.fresh k (e ▸ hk)
    · rw [hk] at e; have := h3'.touch.size; have := Option.some.inj e; omega
  · rcases hb with e2 | e2
    · exact sep k (by rw [← e2]; exact hk) e
    · rw [hk] at e2; have := (h4t k e).2; have := Option.some.inj e2; omega
end Go.Proofs.Ytegldlfbmaapiaa

/- quirelaw12.MapsAnyOrder, as mathematics. -/
namespace Go.Proofs.Ytegldlfbmaapiaa
open Go.RowKit Go.Maps
set_option linter.unusedVariables false
set_option linter.unusedSimpArgs false
set_option maxRecDepth 100000

/-- What is laid, and what is left. -/
structure AnyInv (G LB LF : List O) : Prop where
  up : LF.Pairwise (fun a b => a.k < b.k)
  mem : ∀ o, o ∈ G ↔ o ∈ LB ∨ o ∈ LF
  ap : ∀ x ∈ LB, ∀ y ∈ LF, x.k ≠ y.k
  len : LB.length + LF.length = G.length
section
variable {G LB LF L : List O} {s : MS}
theorem GrOk.one (h : GrOk G) {o : O} (ho : o ∈ G) : o.fits ∧ o.kind = 4 ∧ numOk o.c = true ∧ numOk o.k = true ∧ o.ky.size = 1 ∧ ShortO o := by
  obtain ⟨i, hi, rfl⟩ := List.mem_iff_getElem.1 ho
  have := h.1 i hi
  exact ⟨this.fits, this.kind, this.nc, this.nk, this.ky, this.short⟩
theorem AnyInv.start (h : GrOk G) : AnyInv G [] G := by
  refine ⟨List.pairwise_iff_getElem.2 fun i j hi hj hij => ?_, fun o => by simp, (fun x hx => by cases hx), by simp⟩
  rw [(h.1 i hi).k, (h.1 j hj).k]; omega
theorem okS_of (h : GrOk G) {o : O} (ho : o ∈ G) (hH : Has s LB) (hp : isS s o.pc o.pk = true) (hn : ∀ x ∈ LB, x.k ≠ o.k) : okS s o = true := by
  obtain ⟨f, h1, h2, h3, -, -⟩ := h.one ho
  exact ok_of hH f h1 h2 h3 ((hH.maps _ _ f.upc f.upk).1 hp) fun x hx e => hn x hx e.2
theorem AnyInv.first (hG : GrOk G) (h : AnyInv G LB LF) (hH : Has s LB) (h0 : 0 < LF.length) : isS s LF[0].pc LF[0].pk = true := by
  have hm : LF[0] ∈ G := (h.mem _).2 (.inr (List.getElem_mem _))
  obtain ⟨i, hi, e⟩ := List.mem_iff_getElem.1 hm
  have hf := (hG.one hm).1
  refine (hH.maps _ _ hf.upc hf.upk).2 ?_
  rcases hG.2 i hi with q | ⟨j, hj, q⟩
  · rw [e] at q; exact .inl q
  · rw [e] at q
    refine .inr ⟨G[j]'(by omega), ?_, q⟩
    rcases (h.mem _).1 (List.getElem_mem (l := G) (n := j) (by omega)) with e2 | e2
    · exact e2
    · obtain ⟨m, hm2, e3⟩ := List.mem_iff_getElem.1 e2
      have k1 := (hG.1 j (by omega)).k
      have k2 := (hG.1 i hi).k
      rw [e] at k2
      rw [← e3] at k1
      by_cases hm0 : m = 0
      · subst hm0; omega
      · have := List.pairwise_iff_getElem.1 h.up 0 m h0 hm2 (by omega)
        omega
theorem AnyInv.ok (hG : GrOk G) (h : AnyInv G LB LF) (hH : Has s LB) {j : Nat} (hj : j < LF.length) (hp : isS s LF[j].pc LF[j].pk = true) : okS s LF[j] = true :=
  okS_of hG ((h.mem _).2 (.inr (List.getElem_mem _))) hH hp fun x hx => h.ap x hx _ (List.getElem_mem _)
theorem AnyInv.step (h : AnyInv G LB LF) {j : Nat} (hj : j < LF.length) : AnyInv G (LB ++ [LF[j]]) (LF.take j ++ LF.drop (j + 1)) := by
  have e : LF = LF.take j ++ LF[j] :: LF.drop (j + 1) := by
    rw [← List.drop_eq_getElem_cons hj, List.take_append_drop]
  have hup := h.up
  rw [e] at hup
  obtain ⟨u1, u2, u3⟩ := List.pairwise_append.1 hup
  obtain ⟨u4, u5⟩ := List.pairwise_cons.1 u2
  refine ⟨List.pairwise_append.2 ⟨u1, u5, fun a ha b hb => u3 a ha b (List.mem_cons_of_mem _ hb)⟩, fun o => ?_, fun x hx y hy => ?_, ?_⟩
  · rw [h.mem]
    conv => lhs; rw [e]
    simp only [List.mem_append, List.mem_cons, List.mem_singleton, List.not_mem_nil, or_false]
    constructor
    · rintro (q | q | q | q)
      · exact .inl (.inl q)
      · exact .inr (.inl q)
      · exact .inl (.inr q)
      · exact .inr (.inr q)
    · rintro ((q | q) | q | q)
      · exact .inl q
      · exact .inr (.inr (.inl q))
      · exact .inr (.inl q)
      · exact .inr (.inr (.inr q))
  · have hy2 : y ∈ LF := by
      rcases List.mem_append.1 hy with q | q
      · exact List.mem_of_mem_take q
      · exact List.mem_of_mem_drop q
    rcases List.mem_append.1 hx with q | q
    · exact h.ap x q y hy2
    · rw [List.mem_singleton] at q
      subst q
      rcases List.mem_append.1 hy with q | q
      · have := u3 y q _ (List.mem_cons_self ..); omega
      · have := u4 y q; omega
  · have := h.len
    simp only [List.length_append, List.length_take, List.length_drop, List.length_cons, List.length_nil]
    omega
theorem GrOk.okA (hG : GrOk G) {i : Nat} (hi : i < G.length) (hH : Has s (G.take i)) : okS s G[i] = true := by
  have hf := (hG.1 i hi).fits
  refine okS_of hG (List.getElem_mem _) hH ((hH.maps _ _ hf.upc hf.upk).2 ?_) fun x hx e => ?_
  · rcases hG.2 i hi with q | ⟨j, hj, q⟩
    · exact .inl q
    · refine .inr ⟨G[j]'(by omega), ?_, q⟩
      exact List.mem_iff_getElem.2 ⟨j, by simp; omega, by simp⟩
  · obtain ⟨j, hj, rfl⟩ := List.mem_iff_getElem.1 hx
    simp only [List.length_take] at hj
    rw [List.getElem_take, (hG.1 j (by omega)).k, (hG.1 i hi).k] at e
    omega
/-- Its text is not too long. -/
theorem txt_of (h : Has s L) (hC : Chain L) (hA : Apart L) (hS : ∀ o ∈ L, ShortO o) (hl : L.length ≤ 40) : OkEs (L.length + 1) (viewE s (L.length + 1) 0 0) ∧ (etsT 0 (viewE s (L.length + 1) 0 0)).length ≤ 1000000000000000 := by
  refine ⟨view_ok h hS _ _ _ u64_zero u64_zero, ?_⟩
  have h1 := view_len h hC hA hS (L.length + 1) (L.length + 1) 0 0 0 L.length u64_zero u64_zero (by omega) (.inl ⟨rfl, rfl, rfl⟩)
  have h2 : 2 ^ L.length ≤ 2 ^ 40 := Nat.pow_le_pow_right (by decide) hl
  have h3 : (2 * (L.length + 1) + 70) * 2 ^ L.length ≤ 152 * 2 ^ 40 := Nat.mul_le_mul (by omega) h2
  have h4 : 152 * 2 ^ 40 ≤ 1000000000000000 := by decide
  omega
theorem lv_parts {w0 w : World} {K : Nat → Prop} {g : Nat} (h : Lv w0 K w g s L) : Has s L ∧ Chain L ∧ Apart L := by
  obtain ⟨F, h⟩ := h
  exact ⟨h.has, h.chain, h.apart⟩
end
end Go.Proofs.Ytegldlfbmaapiaa

/- quirelaw12.grown: the sets that it makes. -/
namespace Go.Proofs.Ytegldlfbmaapiaa
open Go.RowKit Go.Maps
set_option linter.unusedVariables false
set_option linter.unusedSimpArgs false
set_option maxRecDepth 100000

set_option maxHeartbeats 64000000 in
theorem grown_any (w : World) (ao : Option Addr) (zs : List Int) (n cap : Nat) (hL : n = zs.length) (hS : LiesK w .u16 ao zs) (hX : cap ≤ maxLen) (hM : n ≤ cap) (hY : ∀ y ∈ zs, 0 ≤ y ∧ y < 65536) (h40 : n ≤ 40) :
    Calls Try.prog 7 #[.slice ao n cap] w fun e w' => ∃ v G, e = .returned v ∧ NewP w w' v G ∧ G.length = n ∧ GrOk G := by
  subst hL
  have HZ : Hid (LiesK w .u16 ao zs ∧ ∀ y ∈ zs, 0 ≤ y ∧ y < 65536) := ⟨hS, hY⟩
  have hn1 : zs.length ≤ 9223372036854775807 := by omega
  have HI0 : Hid (NewP w (w.alloc (ipO ⟨0, 0⟩)) (.slice none 0 0) [] ∧ NewD w (w.alloc (ipO ⟨0, 0⟩)) (.slice (some ⟨w.heap.size, 0, none⟩) 1 1) [⟨0, 0⟩]) := ⟨NewP.nil _ _ ((Touch.refl _ _).alloc _), NewD.lit1 w w (Touch.refl _ _) ⟨0, 0⟩⟩
  clear hS hX hY
  go_enter Try.func7, Try.ntmps7
  go_upto_region 3 with fail
  obtain ⟨E, hE⟩ : ∃ E, Hid (E = w.alloc (ipO ⟨0, 0⟩)) := ⟨_, Eq.refl _⟩
  obtain ⟨g0, hg0⟩ : ∃ E, Hid (E = w.heap.size) := ⟨_, Eq.refl _⟩
  rw [← hE.out, ← hg0.out] at HI0 ⊢
  clear hE hg0
  go_wp2_with fail
  go_loopg [3, 4, 5] zs.length (fun gk s3 s4 s5 wr => ∃ (i : Nat) (G : List O) (I : List Ip), i + gk = zs.length ∧ s5 = .int .i64 (i : Int) ∧ Hid (NewP w wr s3 G ∧ NewD w wr s4 I ∧ (∀ k, s3.ownBlock = some k → s4.ownBlock ≠ some k) ∧ GrOk G ∧ G.length = i ∧ 0 < I.length ∧ I.length ≤ i + 1 ∧ InOk G I))
  case atStart => exact ⟨0, [], [⟨0, 0⟩], by omega, rfl, HI0.out.1, HI0.out.2, (fun k hk => by simp [Value.ownBlock] at hk), GrOk.nil, rfl, by decide, by decide, fun p hp => .inl (by rw [List.mem_singleton] at hp; subst hp; exact ⟨rfl, rfl⟩)⟩
  case round =>
    obtain ⟨i, G, I, hig, rfl, HR⟩ := hrel
    obtain ⟨oo, ocap, hv3, -⟩ := HR.out.1.shape
    obtain ⟨io, icap, hv4, hi4, -, -⟩ := HR.out.2.1.shape
    obtain ⟨gi, rfl⟩ := hi4 HR.out.2.2.2.2.2.1
    subst hv3
    subst hv4
    have HTw : Hid (Touch (fun _ => False) w wr ∧ Touch (fun _ => False) wr wr) := ⟨HR.out.1.touch, Touch.refl _ _⟩
    by_cases hil : i < zs.length
    · obtain ⟨sb, so, rfl, hzc⟩ := HZ.out.1.at hil
      obtain ⟨z, hz⟩ : ∃ z, z = zs[i]'hil := ⟨_, rfl⟩
      have hz2 := HZ.out.2 z (by rw [hz]; exact List.getElem_mem _)
      rw [← hz] at hzc
      have z0 := hzc wr HTw.out.1
      have Hil : Hid (i < zs.length ∧ i < 40) := ⟨hil, by omega⟩
      have l1 : (i : Int) < (zs.length : Int) := by omega
      have l0 : (0 : Int) ≤ (i : Int) := by omega
      have l3 : (i : Int) < 40 := by omega
      have hI0 := HR.out.2.2.2.2.2.1
      have hI1 := HR.out.2.2.2.2.2.2.1
      obtain ⟨m, hm⟩ : ∃ m, Hid (m = I.length) := ⟨_, Eq.refl _⟩
      have m0 : (0 : Int) < (I.length : Int) := by omega
      have m1 : ((I.length : Int) == 0) = false := by rw [beq_eq_false_iff_ne]; omega
      have m2 : ¬ (I.length : Int) = 0 := by omega
      have m4 : ¬ I = [] := by intro e; rw [e] at hI0; simp at hI0
      have m3 : (I.length : Int) ≤ 42 := by omega
      obtain ⟨at_, hat⟩ : ∃ a, a = z.toNat % I.length := ⟨_, rfl⟩
      have hatl : at_ < I.length := by rw [hat]; exact Nat.mod_lt _ hI0
      have a1 : (at_ : Int) < (I.length : Int) := by omega
      have a0 : (0 : Int) ≤ (at_ : Int) := by omega
      have x1 : IntKind.i64.wrap z = z := by rw [IntKind.wrap_i64]; omega
      have x2 : Int.tmod z (I.length : Int) = (at_ : Int) := by
        rw [Int.tmod_eq_emod_of_nonneg hz2.1, hat]
        have : z = (z.toNat : Int) := by omega
        rw [this]; simp
      have x2' : IntKind.i64.wrap (at_ : Int) = (at_ : Int) := by rw [IntKind.wrap_i64]; omega
      obtain ⟨ck, hck⟩ : ∃ ck, ck = ((i + 1 : Nat) : Int) := ⟨_, rfl⟩
      have w1' : IntKind.i64.wrap ((i : Int) + 1) = ck := by rw [IntKind.wrap_i64, hck]; omega
      have w2' : IntKind.u64.wrap ck = ck := wrap_u64_small _ (by omega) (by omega)
      obtain ⟨q64, hq64⟩ : ∃ r, r = z / 64 := ⟨_, rfl⟩
      obtain ⟨r5, hr5⟩ : ∃ r, r = z / 64 % 5 := ⟨_, rfl⟩
      obtain ⟨st, hst⟩ : ∃ r, r = 1 + z / 64 % 5 := ⟨_, rfl⟩
      have y1 : Int.tdiv z 64 = q64 := by rw [Int.tdiv_eq_ediv_of_nonneg hz2.1, ← hq64]
      have y2 : IntKind.i64.wrap q64 = q64 := by rw [IntKind.wrap_i64]; omega
      have y3 : Int.tmod q64 5 = r5 := by rw [Int.tmod_eq_emod_of_nonneg (by omega), hr5, hq64]
      have y4 : IntKind.i64.wrap r5 = r5 := by rw [IntKind.wrap_i64]; omega
      have y5 : IntKind.i64.wrap (1 + r5) = st := by rw [IntKind.wrap_i64]; omega
      have y6 : IntKind.u64.wrap st = st := wrap_u64_small _ (by omega) (by omega)
      obtain ⟨q4, hq4⟩ : ∃ r, r = z / 4 := ⟨_, rfl⟩
      obtain ⟨lo, hlo⟩ : ∃ r : Nat, r = (z / 4 % 3).toNat := ⟨_, rfl⟩
      obtain ⟨hi, hhi⟩ : ∃ r : Int, r = (lo : Int) + 1 := ⟨_, rfl⟩
      have hlo3 : lo < 3 := by omega
      have u1 : Int.tdiv z 4 = q4 := by rw [Int.tdiv_eq_ediv_of_nonneg hz2.1, ← hq4]
      have u2 : IntKind.i64.wrap q4 = q4 := by rw [IntKind.wrap_i64]; omega
      have u3 : Int.tmod q4 3 = (lo : Int) := by rw [Int.tmod_eq_emod_of_nonneg (by omega), hlo, hq4]; omega
      have u4 : IntKind.i64.wrap (lo : Int) = (lo : Int) := by rw [IntKind.wrap_i64]; omega
      have u5 : IntKind.i64.wrap ((lo : Int) + 1) = hi := by rw [IntKind.wrap_i64]; omega
      have u6 : (0 : Int) ≤ (lo : Int) := by omega
      have u7 : (lo : Int) ≤ hi := by omega
      have u8 : hi ≤ 3 := by omega
      have u9 : hi.toNat = lo + 1 := by omega
      have u10 : (0 : Int) ≤ hi := by omega
      have u11 : (ByteArray.mk #[97, 98, 99]).size = 3 := rfl
      obtain ⟨q16, hq16⟩ : ∃ r, r = z / 16 := ⟨_, rfl⟩
      obtain ⟨r3, hr3⟩ : ∃ r, r = z / 16 % 3 := ⟨_, rfl⟩
      obtain ⟨cl, hcl⟩ : ∃ r, r = 1 + z / 16 % 3 := ⟨_, rfl⟩
      have c1 : Int.tdiv z 16 = q16 := by rw [Int.tdiv_eq_ediv_of_nonneg hz2.1, ← hq16]
      have c2 : IntKind.i64.wrap q16 = q16 := by rw [IntKind.wrap_i64]; omega
      have c3 : Int.tmod q16 3 = r3 := by rw [Int.tmod_eq_emod_of_nonneg (by omega), hr3, hq16]
      have c4 : IntKind.i64.wrap r3 = r3 := by rw [IntKind.wrap_i64]; omega
      have c5 : IntKind.i64.wrap (1 + r3) = cl := by rw [IntKind.wrap_i64]; omega
      have c6 : IntKind.u64.wrap cl = cl := wrap_u64_small _ (by omega) (by omega)
      obtain ⟨qK, hqK⟩ : ∃ r, r = z / 1024 := ⟨_, rfl⟩
      obtain ⟨sw, hsw⟩ : ∃ r, r = z / 1024 % 4 := ⟨_, rfl⟩
      have d1 : Int.tdiv z 1024 = qK := by rw [Int.tdiv_eq_ediv_of_nonneg hz2.1, ← hqK]
      have d2 : IntKind.i64.wrap qK = qK := by rw [IntKind.wrap_i64]; omega
      have d3 : Int.tmod qK 4 = sw := by rw [Int.tmod_eq_emod_of_nonneg (by omega), hsw, hqK]
      have d4 : IntKind.i64.wrap sw = sw := by rw [IntKind.wrap_i64]; omega
      obtain ⟨p, hp⟩ : ∃ p, p = I[at_] := ⟨_, rfl⟩
      have hpm : p ∈ I := by rw [hp]; exact List.getElem_mem _
      have hpf := HR.out.2.2.2.1.fitsIn HR.out.2.2.2.2.2.2.2 hpm
      have hpar := HR.out.2.2.2.2.2.2.2 p hpm
      have hcell0 := HR.out.2.1.owns.cellAt (at_ * 2) (by omega)
      have hcell1 := HR.out.2.1.owns.cellAt (at_ * 2 + 1) (by omega)
      rw [(cellsD_get I at_ hatl).1, ← hp] at hcell0
      rw [(cellsD_get I at_ hatl).2, ← hp] at hcell1
      obtain ⟨pc, pk⟩ := p
      simp only at hcell0 hcell1 hpf hpar
      have HS : Hid (∀ V, Touch (fun _ => False) wr V → (V.cell? ⟨gi, at_ * 2, none⟩ = some (.int .u64 pc) ∧ V.cell? ⟨gi, at_ * 2 + 1, none⟩ = some (.int .u64 pk))) := fun V t => by
        have h1 := t.block gi (World.block_lt_of_cell? _ _ hcell0) id
        exact ⟨by rw [World.cell?_of_block h1]; exact hcell0, by rw [World.cell?_of_block h1]; exact hcell1⟩
      obtain ⟨o0, ho0⟩ : ∃ o, Hid (o = setO ck st pc pk (keyL lo) ⟨2, (i : Int), 0, ⟨#[]⟩⟩) := ⟨_, Eq.refl _⟩
      obtain ⟨o1, ho1⟩ : ∃ o : O, Hid (o = withC o0 cl) := ⟨_, Eq.refl _⟩
      have HSet : Hid (∀ W, Calls Try.prog 15 #[.int .u64 ck, .int .u64 st, .agg #[.int .u64 pc, .int .u64 pk], .string (ByteArray.extract (ByteArray.mk #[97, 98, 99]) lo (lo + 1)), .agg #[.int .i64 2, .int .i64 (i : Int), .float .f64 0, .string ⟨#[]⟩]] W fun e w' => e = .returned (.agg o0.vals) ∧ Touch (fun _ => False) W w') := fun W => by
        rw [ho0.out]; exact setO_any ck st pc pk (keyL lo) ⟨2, (i : Int), 0, ⟨#[]⟩⟩ W
      have hck' : Hid (ck = ((i + 1 : Nat) : Int)) := hck
      have HGone : Hid (∀ v, GV i v → ∀ ox : O, Hid (ox = withC (setO ((i + 1 : Nat) : Int) st pc pk (keyL lo) v) cl) → GOne i ox ∧ ox.pc = pc ∧ ox.pk = pk ∧ ox.vk = v.k ∧ GrOk (G ++ [ox])) := fun v hv ox hox => by
        have h1 := gone_of (by omega) hlo3 (st := st) (pc := pc) (pk := pk) (cl := cl) (by omega) (by omega) hpf.1 hpf.2 hv
        rw [← hox.out] at h1
        have e1 : ox.pc = pc := by rw [hox.out]; rfl
        have e2 : ox.pk = pk := by rw [hox.out]; rfl
        refine ⟨h1, e1, e2, by rw [hox.out]; rfl, HR.out.2.2.2.1.snoc (by rw [HR.out.2.2.2.2.1]; exact h1) ?_⟩
        rw [e1, e2]; exact hpar
      clear hzc hcell0 hcell1 hpf hpar hpm hp hck hq64 hr5 hst hq4 hlo hhi hq16 hr3 hcl hqK hsw hat hatl hz hz2 hI0 hI1 hlo3 hm m
      go_upto_region 7 with fail
      clear z0
      refine wp_region_held_drew (S := fun V => (V.cell? ⟨gi, at_ * 2, none⟩ = some (.int .u64 pc) ∧ V.cell? ⟨gi, at_ * 2 + 1, none⟩ = some (.int .u64 pk))) (by kernel_rfl) (HS.out _ (HTw.out.2.drew)) (fun hHeld => ?_)
      have HTV : Hid (Touch (fun _ => False) w wr.drew ∧ Touch (fun _ => False) wr wr.drew) := ⟨HTw.out.1.drew, (Touch.refl _ _).drew⟩
      obtain ⟨U9, hU9⟩ : ∃ U9, Hid (U9 = wr.drew) := ⟨_, Eq.refl _⟩
      rw [← hU9.out] at hHeld HTV ⊢
      clear hU9
      refine wpAnyH_take (i := 0) (oi := { dst := some 21, op := Go.Op.move (Go.Operand.tmp 5), type := 3, pos := "law.go:110", after := #[], guard := none }) (v := .int .i64 (i : Int)) rfl (by kernel_rfl) (by kernel_rfl) (by kernel_rfl) (fun _ _ _ h => h) (Or.inl ⟨by kernel_rfl, ?_⟩) hHeld ?_
      · intro V1 hV1; obtain ⟨z0, v0⟩ := hV1; go_simp
      simp only [Act.put, List.setIfInBounds_toArray, List.set_cons_succ, List.set_cons_zero]
      refine wpAnyH_take (i := 1) (oi := { dst := some 22, op := Go.Op.binOp Go.BinOp.add 3 (Go.Operand.tmp 21) (Go.Operand.const (Go.Value.int Go.IntKind.i64 1)) 3, type := 3, pos := "law.go:110", after := #[{ on := 0, ground := Go.Ground.data }], guard := none }) (v := .int .i64 ck) rfl (by kernel_rfl) (by kernel_rfl) (by kernel_rfl) (fun _ _ _ h => h) (Or.inl ⟨by kernel_rfl, ?_⟩) hHeld ?_
      · intro V1 hV1; obtain ⟨z0, v0⟩ := hV1; go_simp
      simp only [Act.put, List.setIfInBounds_toArray, List.set_cons_succ, List.set_cons_zero]
      refine wpAnyH_take (i := 2) (oi := { dst := some 23, op := Go.Op.convert 3 32 (Go.Operand.tmp 22), type := 32, pos := "law.go:110", after := #[{ on := 1, ground := Go.Ground.data }], guard := none }) (v := .int .u64 ck) rfl (by kernel_rfl) (by kernel_rfl) (by kernel_rfl) (fun _ _ _ h => h) (Or.inl ⟨by kernel_rfl, ?_⟩) hHeld ?_
      · intro V1 hV1; obtain ⟨z0, v0⟩ := hV1; go_simp
      simp only [Act.put, List.setIfInBounds_toArray, List.set_cons_succ, List.set_cons_zero]
      refine wpAnyH_take (i := 3) (oi := { dst := some 24, op := Go.Op.move (Go.Operand.tmp 6), type := 3, pos := "law.go:110", after := #[], guard := none }) (v := .int .i64 z) rfl (by kernel_rfl) (by kernel_rfl) (by kernel_rfl) (fun _ _ _ h => h) (Or.inl ⟨by kernel_rfl, ?_⟩) hHeld ?_
      · intro V1 hV1; obtain ⟨z0, v0⟩ := hV1; go_simp
      simp only [Act.put, List.setIfInBounds_toArray, List.set_cons_succ, List.set_cons_zero]
      refine wpAnyH_take (i := 4) (oi := { dst := some 25, op := Go.Op.binOp Go.BinOp.quo 3 (Go.Operand.tmp 24) (Go.Operand.const (Go.Value.int Go.IntKind.i64 64)) 3, type := 3, pos := "law.go:110", after := #[{ on := 3, ground := Go.Ground.data }], guard := none }) (v := .int .i64 q64) rfl (by kernel_rfl) (by kernel_rfl) (by kernel_rfl) (fun _ _ _ h => h) (Or.inl ⟨by kernel_rfl, ?_⟩) hHeld ?_
      · intro V1 hV1; obtain ⟨z0, v0⟩ := hV1; go_simp
      simp only [Act.put, List.setIfInBounds_toArray, List.set_cons_succ, List.set_cons_zero]
      refine wpAnyH_take (i := 5) (oi := { dst := some 26, op := Go.Op.binOp Go.BinOp.rem 3 (Go.Operand.tmp 25) (Go.Operand.const (Go.Value.int Go.IntKind.i64 5)) 3, type := 3, pos := "law.go:110", after := #[{ on := 4, ground := Go.Ground.data }], guard := none }) (v := .int .i64 r5) rfl (by kernel_rfl) (by kernel_rfl) (by kernel_rfl) (fun _ _ _ h => h) (Or.inl ⟨by kernel_rfl, ?_⟩) hHeld ?_
      · intro V1 hV1; obtain ⟨z0, v0⟩ := hV1; go_simp
      simp only [Act.put, List.setIfInBounds_toArray, List.set_cons_succ, List.set_cons_zero]
      refine wpAnyH_take (i := 6) (oi := { dst := some 27, op := Go.Op.binOp Go.BinOp.add 3 (Go.Operand.const (Go.Value.int Go.IntKind.i64 1)) (Go.Operand.tmp 26) 3, type := 3, pos := "law.go:110", after := #[{ on := 5, ground := Go.Ground.data }], guard := none }) (v := .int .i64 st) rfl (by kernel_rfl) (by kernel_rfl) (by kernel_rfl) (fun _ _ _ h => h) (Or.inl ⟨by kernel_rfl, ?_⟩) hHeld ?_
      · intro V1 hV1; obtain ⟨z0, v0⟩ := hV1; go_simp
      simp only [Act.put, List.setIfInBounds_toArray, List.set_cons_succ, List.set_cons_zero]
      refine wpAnyH_take (i := 7) (oi := { dst := some 28, op := Go.Op.convert 3 32 (Go.Operand.tmp 27), type := 32, pos := "law.go:110", after := #[{ on := 6, ground := Go.Ground.data }], guard := none }) (v := .int .u64 st) rfl (by kernel_rfl) (by kernel_rfl) (by kernel_rfl) (fun _ _ _ h => h) (Or.inl ⟨by kernel_rfl, ?_⟩) hHeld ?_
      · intro V1 hV1; obtain ⟨z0, v0⟩ := hV1; go_simp
      simp only [Act.put, List.setIfInBounds_toArray, List.set_cons_succ, List.set_cons_zero]
      refine wpAnyH_take (i := 8) (oi := { dst := some 29, op := Go.Op.move (Go.Operand.tmp 4), type := 64, pos := "law.go:110", after := #[], guard := none }) (v := .slice (some ⟨gi, 0, none⟩) I.length icap) rfl (by kernel_rfl) (by kernel_rfl) (by kernel_rfl) (fun _ _ _ h => h) (Or.inl ⟨by kernel_rfl, ?_⟩) hHeld ?_
      · intro V1 hV1; obtain ⟨z0, v0⟩ := hV1; go_simp
      simp only [Act.put, List.setIfInBounds_toArray, List.set_cons_succ, List.set_cons_zero]
      refine wpAnyH_take (i := 9) (oi := { dst := some 30, op := Go.Op.move (Go.Operand.tmp 6), type := 3, pos := "law.go:110", after := #[], guard := none }) (v := .int .i64 z) rfl (by kernel_rfl) (by kernel_rfl) (by kernel_rfl) (fun _ _ _ h => h) (Or.inl ⟨by kernel_rfl, ?_⟩) hHeld ?_
      · intro V1 hV1; obtain ⟨z0, v0⟩ := hV1; go_simp
      simp only [Act.put, List.setIfInBounds_toArray, List.set_cons_succ, List.set_cons_zero]
      refine wpAnyH_take (i := 10) (oi := { dst := some 31, op := Go.Op.move (Go.Operand.tmp 4), type := 64, pos := "law.go:110", after := #[], guard := none }) (v := .slice (some ⟨gi, 0, none⟩) I.length icap) rfl (by kernel_rfl) (by kernel_rfl) (by kernel_rfl) (fun _ _ _ h => h) (Or.inl ⟨by kernel_rfl, ?_⟩) hHeld ?_
      · intro V1 hV1; obtain ⟨z0, v0⟩ := hV1; go_simp
      simp only [Act.put, List.setIfInBounds_toArray, List.set_cons_succ, List.set_cons_zero]
      refine wpAnyH_take (i := 11) (oi := { dst := some 32, op := Go.Op.call { callee := Go.Callee.builtin Go.Builtin.len, args := #[Go.Operand.tmp 31], argTypes := #[64] }, type := 3, pos := "law.go:110", after := #[{ on := 10, ground := Go.Ground.data }], guard := none }) (v := .int .i64 (I.length : Int)) rfl (by kernel_rfl) (by kernel_rfl) (by kernel_rfl) (fun _ _ _ h => h) (Or.inl ⟨by kernel_rfl, ?_⟩) hHeld ?_
      · intro V1 hV1; obtain ⟨z0, v0⟩ := hV1; go_simp
      simp only [Act.put, List.setIfInBounds_toArray, List.set_cons_succ, List.set_cons_zero]
      refine wpAnyH_take (i := 12) (oi := { dst := some 33, op := Go.Op.binOp Go.BinOp.rem 3 (Go.Operand.tmp 30) (Go.Operand.tmp 32) 3, type := 3, pos := "law.go:110", after := #[{ on := 9, ground := Go.Ground.data }, { on := 11, ground := Go.Ground.data }], guard := none }) (v := .int .i64 (at_ : Int)) rfl (by kernel_rfl) (by kernel_rfl) (by kernel_rfl) (fun _ _ _ h => h) (Or.inl ⟨by kernel_rfl, ?_⟩) hHeld ?_
      · intro V1 hV1; obtain ⟨z0, v0⟩ := hV1; go_simp
      simp only [Act.put, List.setIfInBounds_toArray, List.set_cons_succ, List.set_cons_zero]
      refine wpAnyH_take (i := 13) (oi := { dst := some 34, op := Go.Op.indexAddr 64 (Go.Operand.tmp 29) (Go.Operand.tmp 33), type := 0, pos := "law.go:110", after := #[{ on := 8, ground := Go.Ground.data }, { on := 12, ground := Go.Ground.data }], guard := none }) (v := .pointer (some ⟨gi, at_ * 2, none⟩)) rfl (by kernel_rfl) (by kernel_rfl) (by kernel_rfl) (fun _ _ _ h => h) (Or.inl ⟨by kernel_rfl, ?_⟩) hHeld ?_
      · intro V1 hV1; obtain ⟨z0, v0⟩ := hV1; go_simp
      simp only [Act.put, List.setIfInBounds_toArray, List.set_cons_succ, List.set_cons_zero]
      refine wpAnyH_take (i := 14) (oi := { dst := some 35, op := Go.Op.load 34 (Go.Operand.tmp 34), type := 34, pos := "law.go:110", after := #[{ on := 13, ground := Go.Ground.data }], guard := none }) (v := .agg #[.int .u64 pc, .int .u64 pk]) rfl (by kernel_rfl) (by kernel_rfl) (by kernel_rfl) (fun _ _ _ h => h) (Or.inl ⟨by kernel_rfl, ?_⟩) hHeld ?_
      · intro V1 hV1; obtain ⟨z0, v0⟩ := hV1; go_simp
      simp only [Act.put, List.setIfInBounds_toArray, List.set_cons_succ, List.set_cons_zero]
      refine wpAnyH_take (i := 15) (oi := { dst := some 36, op := Go.Op.move (Go.Operand.tmp 6), type := 3, pos := "law.go:110", after := #[], guard := none }) (v := .int .i64 z) rfl (by kernel_rfl) (by kernel_rfl) (by kernel_rfl) (fun _ _ _ h => h) (Or.inl ⟨by kernel_rfl, ?_⟩) hHeld ?_
      · intro V1 hV1; obtain ⟨z0, v0⟩ := hV1; go_simp
      simp only [Act.put, List.setIfInBounds_toArray, List.set_cons_succ, List.set_cons_zero]
      refine wpAnyH_take (i := 16) (oi := { dst := some 37, op := Go.Op.binOp Go.BinOp.quo 3 (Go.Operand.tmp 36) (Go.Operand.const (Go.Value.int Go.IntKind.i64 4)) 3, type := 3, pos := "law.go:110", after := #[{ on := 15, ground := Go.Ground.data }], guard := none }) (v := .int .i64 q4) rfl (by kernel_rfl) (by kernel_rfl) (by kernel_rfl) (fun _ _ _ h => h) (Or.inl ⟨by kernel_rfl, ?_⟩) hHeld ?_
      · intro V1 hV1; obtain ⟨z0, v0⟩ := hV1; go_simp
      simp only [Act.put, List.setIfInBounds_toArray, List.set_cons_succ, List.set_cons_zero]
      refine wpAnyH_take (i := 17) (oi := { dst := some 38, op := Go.Op.binOp Go.BinOp.rem 3 (Go.Operand.tmp 37) (Go.Operand.const (Go.Value.int Go.IntKind.i64 3)) 3, type := 3, pos := "law.go:110", after := #[{ on := 16, ground := Go.Ground.data }], guard := none }) (v := .int .i64 (lo : Int)) rfl (by kernel_rfl) (by kernel_rfl) (by kernel_rfl) (fun _ _ _ h => h) (Or.inl ⟨by kernel_rfl, ?_⟩) hHeld ?_
      · intro V1 hV1; obtain ⟨z0, v0⟩ := hV1; go_simp
      simp only [Act.put, List.setIfInBounds_toArray, List.set_cons_succ, List.set_cons_zero]
      refine wpAnyH_take (i := 18) (oi := { dst := some 39, op := Go.Op.move (Go.Operand.tmp 6), type := 3, pos := "law.go:110", after := #[], guard := none }) (v := .int .i64 z) rfl (by kernel_rfl) (by kernel_rfl) (by kernel_rfl) (fun _ _ _ h => h) (Or.inl ⟨by kernel_rfl, ?_⟩) hHeld ?_
      · intro V1 hV1; obtain ⟨z0, v0⟩ := hV1; go_simp
      simp only [Act.put, List.setIfInBounds_toArray, List.set_cons_succ, List.set_cons_zero]
      refine wpAnyH_take (i := 19) (oi := { dst := some 40, op := Go.Op.binOp Go.BinOp.quo 3 (Go.Operand.tmp 39) (Go.Operand.const (Go.Value.int Go.IntKind.i64 4)) 3, type := 3, pos := "law.go:110", after := #[{ on := 18, ground := Go.Ground.data }], guard := none }) (v := .int .i64 q4) rfl (by kernel_rfl) (by kernel_rfl) (by kernel_rfl) (fun _ _ _ h => h) (Or.inl ⟨by kernel_rfl, ?_⟩) hHeld ?_
      · intro V1 hV1; obtain ⟨z0, v0⟩ := hV1; go_simp
      simp only [Act.put, List.setIfInBounds_toArray, List.set_cons_succ, List.set_cons_zero]
      refine wpAnyH_take (i := 20) (oi := { dst := some 41, op := Go.Op.binOp Go.BinOp.rem 3 (Go.Operand.tmp 40) (Go.Operand.const (Go.Value.int Go.IntKind.i64 3)) 3, type := 3, pos := "law.go:110", after := #[{ on := 19, ground := Go.Ground.data }], guard := none }) (v := .int .i64 (lo : Int)) rfl (by kernel_rfl) (by kernel_rfl) (by kernel_rfl) (fun _ _ _ h => h) (Or.inl ⟨by kernel_rfl, ?_⟩) hHeld ?_
      · intro V1 hV1; obtain ⟨z0, v0⟩ := hV1; go_simp
      simp only [Act.put, List.setIfInBounds_toArray, List.set_cons_succ, List.set_cons_zero]
      refine wpAnyH_take (i := 21) (oi := { dst := some 42, op := Go.Op.binOp Go.BinOp.add 3 (Go.Operand.tmp 41) (Go.Operand.const (Go.Value.int Go.IntKind.i64 1)) 3, type := 3, pos := "law.go:110", after := #[{ on := 20, ground := Go.Ground.data }], guard := none }) (v := .int .i64 hi) rfl (by kernel_rfl) (by kernel_rfl) (by kernel_rfl) (fun _ _ _ h => h) (Or.inl ⟨by kernel_rfl, ?_⟩) hHeld ?_
      · intro V1 hV1; obtain ⟨z0, v0⟩ := hV1; go_simp
      simp only [Act.put, List.setIfInBounds_toArray, List.set_cons_succ, List.set_cons_zero]
      refine wpAnyH_take (i := 22) (oi := { dst := some 43, op := Go.Op.slice 9 (Go.Operand.const (Go.Value.string { data := #[97, 98, 99] })) (some (Go.Operand.tmp 38)) (some (Go.Operand.tmp 42)) none, type := 9, pos := "law.go:110", after := #[{ on := 17, ground := Go.Ground.data }, { on := 21, ground := Go.Ground.data }], guard := none }) (v := .string (ByteArray.extract (ByteArray.mk #[97, 98, 99]) lo (lo + 1))) rfl (by kernel_rfl) (by kernel_rfl) (by kernel_rfl) (fun _ _ _ h => h) (Or.inl ⟨by kernel_rfl, ?_⟩) hHeld ?_
      · intro V1 hV1; obtain ⟨z0, v0⟩ := hV1; go_simp
      simp only [Act.put, List.setIfInBounds_toArray, List.set_cons_succ, List.set_cons_zero]
      refine wpAnyH_take (i := 23) (oi := { dst := some 44, op := Go.Op.move (Go.Operand.tmp 5), type := 3, pos := "law.go:110", after := #[], guard := none }) (v := .int .i64 (i : Int)) rfl (by kernel_rfl) (by kernel_rfl) (by kernel_rfl) (fun _ _ _ h => h) (Or.inl ⟨by kernel_rfl, ?_⟩) hHeld ?_
      · intro V1 hV1; obtain ⟨z0, v0⟩ := hV1; go_simp
      simp only [Act.put, List.setIfInBounds_toArray, List.set_cons_succ, List.set_cons_zero]
      refine wpAnyH_take (i := 24) (oi := { dst := some 45, op := Go.Op.build 37 #[(0, Go.Operand.const (Go.Value.int Go.IntKind.i64 2)), (1, Go.Operand.tmp 44)], type := 37, pos := "law.go:110", after := #[{ on := 23, ground := Go.Ground.data }], guard := none }) (v := .agg #[.int .i64 2, .int .i64 (i : Int), .float .f64 0, .string ⟨#[]⟩]) rfl (by kernel_rfl) (by kernel_rfl) (by kernel_rfl) (fun _ _ _ h => h) (Or.inl ⟨by kernel_rfl, ?_⟩) hHeld ?_
      · intro V1 hV1; obtain ⟨z0, v0⟩ := hV1; go_simp
      simp only [Act.put, List.setIfInBounds_toArray, List.set_cons_succ, List.set_cons_zero]
      refine wpAnyH_ready (rs := [25, 26]) (by kernel_rfl) (by simp) ?_
      refine AllReadyH.cons (o := { dst := some 46, op := Go.Op.call { callee := Go.Callee.value (Go.Operand.func 15), args := #[Go.Operand.tmp 23, Go.Operand.tmp 28, Go.Operand.tmp 35, Go.Operand.tmp 43, Go.Operand.tmp 45], argTypes := #[32, 32, 34, 9, 37] }, type := 41, pos := "law.go:110", after := #[{ on := 2, ground := Go.Ground.data }, { on := 7, ground := Go.Ground.data }, { on := 14, ground := Go.Ground.data }, { on := 22, ground := Go.Ground.data }, { on := 24, ground := Go.Ground.data }], guard := none }) rfl (fun K hK => ?_) (AllReadyH.cons (o := { dst := some 7, op := Go.Op.alloc 41, type := 0, pos := "law.go:110", after := #[], guard := none }) rfl (fun K hK => ?_) AllReadyH.nil)
      · rw [if_pos (by kernel_rfl)]
        go_simp
        refine (HSet.out U9).mono ?_
        rintro e w2 ⟨rfl, t2⟩
        have HT2 : Hid (Touch (fun _ => False) w w2 ∧ Touch (fun _ => False) wr w2) := ⟨HTV.out.1.trans t2, HTV.out.2.trans t2⟩
        clear t2
        refine hK.out _ _ (HS.out _ HT2.out.2) (fun hHeld => ?_)
        clear hK K
        refine wpAnyH_ready (rs := [26]) (by kernel_rfl) (by simp) ?_
        refine AllReadyH.cons (o := { dst := some 7, op := Go.Op.alloc 41, type := 0, pos := "law.go:110", after := #[], guard := none }) rfl (fun K hK => ?_) AllReadyH.nil
        rw [if_pos (by kernel_rfl)]
        refine wpO_of_run (v := .pointer (some ⟨w2.heap.size, 0, none⟩)) (w' := w2.alloc zeroOp) ?_ ?_
        · go_simp
        simp only [Act.put, List.setIfInBounds_toArray, List.set_cons_succ, List.set_cons_zero]
        have HT3 : Hid (Touch (fun _ => False) w (w2.alloc zeroOp) ∧ Touch (fun _ => False) wr (w2.alloc zeroOp)) := ⟨HT2.out.1.alloc _, HT2.out.2.alloc _⟩
        refine hK.out _ _ (HS.out _ HT3.out.2) (fun hHeld => ?_)
        clear hK K
        obtain ⟨Y, hY⟩ : ∃ X, Hid (X = w2.heap.size) := ⟨_, Eq.refl _⟩
        obtain ⟨W3, hW3⟩ : ∃ W3, Hid (W3 = w2.alloc zeroOp) := ⟨_, Eq.refl _⟩
        have HBX : Hid (OpAt Y zeroO W3 ∧ wr.heap.size ≤ Y) := by
          rw [hY.out, hW3.out]
          exact ⟨heap_alloc_new _ _, HT2.out.2.size⟩
        rw [← hY.out, ← hW3.out]
        rw [← hW3.out] at HT3 hHeld
        clear hY hW3 HT2
        refine wpAnyH_ready (rs := [27]) (by kernel_rfl) (by simp) ?_
        refine AllReadyH.cons (o := { dst := none, op := Go.Op.store 41 (Go.Operand.tmp 7) (Go.Operand.tmp 46), type := 0, pos := "law.go:110", after := #[{ on := 26, ground := Go.Ground.data }, { on := 25, ground := Go.Ground.data }, { on := 25, ground := Go.Ground.chain }, { on := 0, ground := Go.Ground.phase }, { on := 1, ground := Go.Ground.phase }, { on := 2, ground := Go.Ground.phase }, { on := 3, ground := Go.Ground.phase }, { on := 4, ground := Go.Ground.phase }, { on := 5, ground := Go.Ground.phase }, { on := 6, ground := Go.Ground.phase }, { on := 7, ground := Go.Ground.phase }, { on := 8, ground := Go.Ground.phase }, { on := 9, ground := Go.Ground.phase }, { on := 10, ground := Go.Ground.phase }, { on := 11, ground := Go.Ground.phase }, { on := 12, ground := Go.Ground.phase }, { on := 13, ground := Go.Ground.phase }, { on := 14, ground := Go.Ground.phase }, { on := 15, ground := Go.Ground.phase }, { on := 16, ground := Go.Ground.phase }, { on := 17, ground := Go.Ground.phase }, { on := 18, ground := Go.Ground.phase }, { on := 19, ground := Go.Ground.phase }, { on := 20, ground := Go.Ground.phase }, { on := 21, ground := Go.Ground.phase }, { on := 22, ground := Go.Ground.phase }, { on := 23, ground := Go.Ground.phase }, { on := 24, ground := Go.Ground.phase }, { on := 25, ground := Go.Ground.phase }, { on := 26, ground := Go.Ground.phase }], guard := none }) rfl (fun K hK => ?_) AllReadyH.nil
        rw [if_pos (by kernel_rfl)]
        refine wp_store_mid 41 (.tmp 7) (.tmp 46) rfl Y 0 o0.vals rfl rfl (HBX.out.1.there 0 22 (by decide)) (by kernel_rfl) (by kernel_rfl) ?_
        simp only [Act.put]
        have HT4 : Hid (Touch (fun _ => False) w (W3.setCells Y 0 o0.vals.toList) ∧ Touch (fun _ => False) wr (W3.setCells Y 0 o0.vals.toList) ∧ OpAt Y o0 (W3.setCells Y 0 o0.vals.toList) ∧ wr.heap.size ≤ Y) := by
          have h1 := HBX.out.2
          have h2 := HTw.out.1.size
          exact ⟨HT3.out.1.stores (by omega) 0 _, HT3.out.2.stores (by omega) 0 _, HBX.out.1.store0, h1⟩
        obtain ⟨W4, hW4⟩ : ∃ W4, Hid (W4 = W3.setCells Y 0 o0.vals.toList) := ⟨_, Eq.refl _⟩
        rw [← hW4.out] at HT4 ⊢
        clear hW4 HT3 HBX
        refine hK.out _ _ (HS.out _ HT4.out.2.1) (fun hHeld => ?_)
        clear hK K
        refine wpAnyH_done (by kernel_rfl) ?_ _
        try simp only [List.getElem_toArray, List.getElem_cons_succ, List.getElem_cons_zero, List.setIfInBounds_toArray, List.set_cons_succ, List.set_cons_zero]
        clear hHeld
        generalize Value.agg o0.vals = vo0
        have q0 := HT4.out.2.2.1.q0
        have fr0 : W4.frozen? ⟨Y, 0, none⟩ = false := free_of_block HT4.out.2.2.1
        go_upto_region 9 with fail
        obtain ⟨W5, hW5⟩ : ∃ W5, Hid (W5 = W4.setCell ⟨Y, 0, none⟩ (.int .u64 cl)) := ⟨_, Eq.refl _⟩
        have HT5 : Hid (Touch (fun _ => False) w W5 ∧ Touch (fun _ => False) wr W5 ∧ OpAt Y o1 W5 ∧ wr.heap.size ≤ Y) := by
          have h1 := HT4.out.2.2.2
          have h2 := HTw.out.1.size
          refine ⟨?_, ?_, ?_, h1⟩
          · rw [hW5.out]; exact HT4.out.1.setCell _ _ (fun h => by simp only at h; omega)
          · rw [hW5.out]; exact HT4.out.2.1.setCell _ _ (fun h => by simp only at h; omega)
          · rw [hW5.out]
            unfold OpAt
            rw [heap_setCell_same _ _ _ _ HT4.out.2.2.1, ho1.out, ho0.out]
            rfl
        rw [← hW5.out]
        have HYw : Hid (wr.heap.size ≤ Y) := HT5.out.2.2.2
        clear hW5 HT4 q0 fr0
        by_cases hs0 : sw = 0
        · have e0 : (sw == 0) = true := by simpa using hs0
          go_upto_region 11 with fail
          refine wp_region_lit ?_
          iterate 2 (refine wpList_plain rfl fun K hK => ?_; go_simp; refine hK _ _ ?_; clear hK K)
          refine wpList_store_mid rfl 37 (.tmp 60) (.tmp 59) rfl Y 9 #[.int .i64 5, .int .i64 0, .float .f64 0, .string ⟨#[]⟩] rfl rfl (HT5.out.2.2.1.there 9 4 (by decide)) (by kernel_rfl) (by kernel_rfl) ?_
          simp only [Act.put]
          obtain ⟨ox, hox⟩ : ∃ o : O, Hid (o = withC (setO ((i + 1 : Nat) : Int) st pc pk (keyL lo) ⟨5, 0, 0, ⟨#[]⟩⟩) cl) := ⟨_, Eq.refl _⟩
          obtain ⟨W6, hW6⟩ : ∃ W6, Hid (W6 = W5.setCells Y 9 [.int .i64 5, .int .i64 0, .float .f64 0, .string ⟨#[]⟩]) := ⟨_, Eq.refl _⟩
          have HT6 : Hid (Touch (fun _ => False) w W6 ∧ Touch (fun _ => False) wr W6 ∧ OpAt Y ox W6) := by
            have h1 := HT5.out.2.2.2
            have h2 := HTw.out.1.size
            refine ⟨?_, ?_, ?_⟩
            · rw [hW6.out]; exact HT5.out.1.stores (by omega) 9 _
            · rw [hW6.out]; exact HT5.out.2.1.stores (by omega) 9 _
            · rw [hW6.out]; exact HT5.out.2.2.1.stored 9 _ (by rw [hox.out, ho1.out, ho0.out, hck'.out]; rfl)
          rw [← hW6.out]
          clear hW6 HT5
          have HG := HGone.out _ (Or.inr (Or.inl rfl)) ox hox
          have HGh : Hid (_ ∧ _) := HG
          obtain ⟨v7, W8, hrun7, hN7, hD7, hs7, hk7⟩ := two_inD HR.out.1 HR.out.2.1 HR.out.2.2.1 HT6.out.2.1 ⟨ox.c, ox.k⟩ (by have := HR.out.2.2.2.2.2.2.1; have := Hil.out; omega)
          have HHx : Hid (OpAt Y ox W6) := HT6.out.2.2
          have HF : Hid (OpAt Y ox W8 ∧ NewP w W8 (.slice oo G.length ocap) G ∧ NewD w W8 v7 (I ++ [⟨ox.c, ox.k⟩]) ∧ (∀ k, (Value.slice oo G.length ocap).ownBlock = some k → v7.ownBlock ≠ some k) ∧ 0 < (I ++ [(⟨ox.c, ox.k⟩ : Ip)]).length ∧ (I ++ [(⟨ox.c, ox.k⟩ : Ip)]).length ≤ i + 1 + 1 ∧ InOk (G ++ [ox]) (I ++ [⟨ox.c, ox.k⟩])) := by
            refine ⟨(hk7 Y HYw.out (lt_of_heap HHx.out)).trans HHx.out, hN7, hD7, hs7, by simp, by simp; exact HR.out.2.2.2.2.2.2.1, HR.out.2.2.2.2.2.2.2.snoc (by unfold isMapB; rw [HG.2.2.2.1]; rfl)⟩
          clear hN7 hD7 hs7 hk7 HG
          go_upto_region 12 with fail
          refine wp_region_lit ?_
          iterate 2 (refine wpList_plain rfl fun K hK => ?_; go_simp; refine hK _ _ ?_; clear hK K)
          refine wpList_load_mid rfl 34 (.tmp 62) rfl Y 0 rfl [.int .u64 ox.c, .int .u64 ox.k] _ HHx.out.idAt Try.underlying34 rfl (by kernel_rfl) ?_
          simp only [Act.put, List.setIfInBounds_toArray, List.set_cons_succ, List.set_cons_zero]
          have hbs := run_build1D ox.c ox.k W6
          iterate 1 (refine wpList_plain rfl fun K hK => ?_; go_simp; refine hK _ _ ?_; clear hK K)
          refine wpList_append_runD rfl (.tmp 61) (.tmp 64) rfl _ _ _ rfl rfl hrun7 ?_
          simp only [Act.put, List.setIfInBounds_toArray, List.set_cons_succ, List.set_cons_zero]
          clear hrun7 hbs HHx HT6
          go_upto_region 15 with fail
          obtain ⟨v9, w9, hrun9, hN9, hD9, hs9⟩ := two_outP HF.out.2.1 HF.out.2.2.1 HF.out.2.2.2.1 ox (by have := HR.out.2.2.2.2.1; have := Hil.out; omega)
          have HL9 : Hid (NewP w w9 v9 (G ++ [ox]) ∧ (G ++ [ox]).length = i + 1) := ⟨hN9, by have := HR.out.2.2.2.2.1; simp; omega⟩
          refine wp_region_lit ?_
          iterate 1 (refine wpList_plain rfl fun K hK => ?_; go_simp; refine hK _ _ ?_; clear hK K)
          refine wpList_load_mid rfl 41 (.tmp 7) rfl Y 0 rfl ox.vals.toList _ (rangeAt_of HF.out.1) Try.underlying41 rfl (by kernel_rfl) ?_
          simp only [Act.put, List.setIfInBounds_toArray, List.set_cons_succ, List.set_cons_zero]
          have hbs := run_build1O ox W8
          iterate 1 (refine wpList_plain rfl fun K hK => ?_; go_simp; refine hK _ _ ?_; clear hK K)
          refine wpList_append_runO rfl (.tmp 70) (.tmp 72) rfl _ _ _ rfl rfl hrun9 ?_
          simp only [Act.put, List.setIfInBounds_toArray, List.set_cons_succ, List.set_cons_zero]
          have HH9 : Hid (_ ∧ _) := ⟨hD9, hs9⟩
          clear hrun9 hbs hN9 hD9 hs9
          generalize Value.agg ox.vals = vo3
          go_wp2_with fail
          go_roundg (zs.length - (i + 1))
          case measure => have := Hil.out; omega
          case rel => exact ⟨i + 1, G ++ [ox], _, by have := Hil.out; omega, by rw [hck'.out], HL9.out.1, HH9.out.1, HH9.out.2, HGh.out.2.2.2.2, HL9.out.2, HF.out.2.2.2.2.1, HF.out.2.2.2.2.2.1, HF.out.2.2.2.2.2.2⟩
        · by_cases hs1 : sw = 1
          · have e0 : (sw == 0) = false := by simpa using hs0
            have e1 : (sw == 1) = true := by simpa using hs1
            go_upto_region 14 with fail
            refine wp_region_lit ?_
            iterate 2 (refine wpList_plain rfl fun K hK => ?_; go_simp; refine hK _ _ ?_; clear hK K)
            refine wpList_store_mid rfl 37 (.tmp 69) (.tmp 68) rfl Y 9 #[.int .i64 0, .int .i64 0, .float .f64 0, .string ⟨#[]⟩] rfl rfl (HT5.out.2.2.1.there 9 4 (by decide)) (by kernel_rfl) (by kernel_rfl) ?_
            simp only [Act.put]
            obtain ⟨ox, hox⟩ : ∃ o : O, Hid (o = withC (setO ((i + 1 : Nat) : Int) st pc pk (keyL lo) ⟨0, 0, 0, ⟨#[]⟩⟩) cl) := ⟨_, Eq.refl _⟩
            obtain ⟨W8, hW6⟩ : ∃ W6, Hid (W6 = W5.setCells Y 9 [.int .i64 0, .int .i64 0, .float .f64 0, .string ⟨#[]⟩]) := ⟨_, Eq.refl _⟩
            have HT6 : Hid (Touch (fun _ => False) w W8 ∧ Touch (fun _ => False) wr W8 ∧ OpAt Y ox W8) := by
              have h1 := HT5.out.2.2.2
              have h2 := HTw.out.1.size
              refine ⟨?_, ?_, ?_⟩
              · rw [hW6.out]; exact HT5.out.1.stores (by omega) 9 _
              · rw [hW6.out]; exact HT5.out.2.1.stores (by omega) 9 _
              · rw [hW6.out]; exact HT5.out.2.2.1.stored 9 _ (by rw [hox.out, ho1.out, ho0.out, hck'.out]; rfl)
            rw [← hW6.out]
            clear hW6 HT5
            have HGh : Hid (_ ∧ _) := HGone.out _ (Or.inr (Or.inr rfl)) ox hox
            have HF : Hid (OpAt Y ox W8 ∧ NewP w W8 (.slice oo G.length ocap) G ∧ NewD w W8 (.slice (some ⟨gi, 0, none⟩) I.length icap) I ∧ (∀ k, (Value.slice oo G.length ocap).ownBlock = some k → (Value.slice (some ⟨gi, 0, none⟩) I.length icap).ownBlock ≠ some k) ∧ 0 < I.length ∧ I.length ≤ i + 1 + 1 ∧ InOk (G ++ [ox]) I) :=
              ⟨HT6.out.2.2, HR.out.1.on HT6.out.2.1, HR.out.2.1.on HT6.out.2.1, HR.out.2.2.1, HR.out.2.2.2.2.2.1, by have := HR.out.2.2.2.2.2.2.1; omega, HR.out.2.2.2.2.2.2.2.more ox⟩
            clear HT6
            go_upto_region 15 with fail
            obtain ⟨v9, w9, hrun9, hN9, hD9, hs9⟩ := two_outP HF.out.2.1 HF.out.2.2.1 HF.out.2.2.2.1 ox (by have := HR.out.2.2.2.2.1; have := Hil.out; omega)
            have HL9 : Hid (NewP w w9 v9 (G ++ [ox]) ∧ (G ++ [ox]).length = i + 1) := ⟨hN9, by have := HR.out.2.2.2.2.1; simp; omega⟩
            refine wp_region_lit ?_
            iterate 1 (refine wpList_plain rfl fun K hK => ?_; go_simp; refine hK _ _ ?_; clear hK K)
            refine wpList_load_mid rfl 41 (.tmp 7) rfl Y 0 rfl ox.vals.toList _ (rangeAt_of HF.out.1) Try.underlying41 rfl (by kernel_rfl) ?_
            simp only [Act.put, List.setIfInBounds_toArray, List.set_cons_succ, List.set_cons_zero]
            have hbs := run_build1O ox W8
            iterate 1 (refine wpList_plain rfl fun K hK => ?_; go_simp; refine hK _ _ ?_; clear hK K)
            refine wpList_append_runO rfl (.tmp 70) (.tmp 72) rfl _ _ _ rfl rfl hrun9 ?_
            simp only [Act.put, List.setIfInBounds_toArray, List.set_cons_succ, List.set_cons_zero]
            have HH9 : Hid (_ ∧ _) := ⟨hD9, hs9⟩
            clear hrun9 hbs hN9 hD9 hs9
            generalize Value.agg ox.vals = vo3
            go_wp2_with fail
            go_roundg (zs.length - (i + 1))
            case measure => have := Hil.out; omega
            case rel => exact ⟨i + 1, G ++ [ox], _, by have := Hil.out; omega, by rw [hck'.out], HL9.out.1, HH9.out.1, HH9.out.2, HGh.out.2.2.2.2, HL9.out.2, HF.out.2.2.2.2.1, HF.out.2.2.2.2.2.1, HF.out.2.2.2.2.2.2⟩
          · have e0 : (sw == 0) = false := by simpa using hs0
            have e1 : (sw == 1) = false := by simpa using hs1
            obtain ⟨ox, hox⟩ : ∃ o : O, Hid (o = withC (setO ((i + 1 : Nat) : Int) st pc pk (keyL lo) ⟨2, (i : Int), 0, ⟨#[]⟩⟩) cl) := ⟨_, Eq.refl _⟩
            have hox1 : o1 = ox := by rw [hox.out, ho1.out, ho0.out, hck'.out]
            have HGh : Hid (_ ∧ _) := HGone.out _ (Or.inl rfl) ox hox
            obtain ⟨W8, hW6⟩ : ∃ W6, Hid (W6 = W5) := ⟨_, Eq.refl _⟩
            have HF : Hid (OpAt Y ox W8 ∧ NewP w W8 (.slice oo G.length ocap) G ∧ NewD w W8 (.slice (some ⟨gi, 0, none⟩) I.length icap) I ∧ (∀ k, (Value.slice oo G.length ocap).ownBlock = some k → (Value.slice (some ⟨gi, 0, none⟩) I.length icap).ownBlock ≠ some k) ∧ 0 < I.length ∧ I.length ≤ i + 1 + 1 ∧ InOk (G ++ [ox]) I) := by
              rw [hW6.out]
              exact ⟨by rw [← hox1]; exact HT5.out.2.2.1, HR.out.1.on HT5.out.2.1, HR.out.2.1.on HT5.out.2.1, HR.out.2.2.1, HR.out.2.2.2.2.2.1, by have := HR.out.2.2.2.2.2.2.1; omega, HR.out.2.2.2.2.2.2.2.more ox⟩
            rw [← hW6.out]
            clear hW6 HT5 hox1
            go_upto_region 15 with fail
            obtain ⟨v9, w9, hrun9, hN9, hD9, hs9⟩ := two_outP HF.out.2.1 HF.out.2.2.1 HF.out.2.2.2.1 ox (by have := HR.out.2.2.2.2.1; have := Hil.out; omega)
            have HL9 : Hid (NewP w w9 v9 (G ++ [ox]) ∧ (G ++ [ox]).length = i + 1) := ⟨hN9, by have := HR.out.2.2.2.2.1; simp; omega⟩
            refine wp_region_lit ?_
            iterate 1 (refine wpList_plain rfl fun K hK => ?_; go_simp; refine hK _ _ ?_; clear hK K)
            refine wpList_load_mid rfl 41 (.tmp 7) rfl Y 0 rfl ox.vals.toList _ (rangeAt_of HF.out.1) Try.underlying41 rfl (by kernel_rfl) ?_
            simp only [Act.put, List.setIfInBounds_toArray, List.set_cons_succ, List.set_cons_zero]
            have hbs := run_build1O ox W8
            iterate 1 (refine wpList_plain rfl fun K hK => ?_; go_simp; refine hK _ _ ?_; clear hK K)
            refine wpList_append_runO rfl (.tmp 70) (.tmp 72) rfl _ _ _ rfl rfl hrun9 ?_
            simp only [Act.put, List.setIfInBounds_toArray, List.set_cons_succ, List.set_cons_zero]
            have HH9 : Hid (_ ∧ _) := ⟨hD9, hs9⟩
            clear hrun9 hbs hN9 hD9 hs9
            generalize Value.agg ox.vals = vo3
            go_wp2_with fail
            go_roundg (zs.length - (i + 1))
            case measure => have := Hil.out; omega
            case rel => exact ⟨i + 1, G ++ [ox], _, by have := Hil.out; omega, by rw [hck'.out], HL9.out.1, HH9.out.1, HH9.out.2, HGh.out.2.2.2.2, HL9.out.2, HF.out.2.2.2.2.1, HF.out.2.2.2.2.2.1, HF.out.2.2.2.2.2.2⟩
      · rw [if_pos (by kernel_rfl)]
        refine wpO_of_run (v := .pointer (some ⟨U9.heap.size, 0, none⟩)) (w' := U9.alloc zeroOp) ?_ ?_
        · go_simp
        simp only [Act.put, List.setIfInBounds_toArray, List.set_cons_succ, List.set_cons_zero]
        have HT2 : Hid (Touch (fun _ => False) w (U9.alloc zeroOp) ∧ Touch (fun _ => False) wr (U9.alloc zeroOp)) := ⟨HTV.out.1.alloc _, HTV.out.2.alloc _⟩
        refine hK.out _ _ (HS.out _ HT2.out.2) (fun hHeld => ?_)
        clear hK K
        obtain ⟨Y, hY⟩ : ∃ X, Hid (X = U9.heap.size) := ⟨_, Eq.refl _⟩
        obtain ⟨w2, hw2⟩ : ∃ W3, Hid (W3 = U9.alloc zeroOp) := ⟨_, Eq.refl _⟩
        have HBX2 : Hid (OpAt Y zeroO w2 ∧ wr.heap.size ≤ Y) := by
          rw [hY.out, hw2.out]
          exact ⟨heap_alloc_new _ _, HTV.out.2.size⟩
        rw [← hY.out, ← hw2.out]
        rw [← hw2.out] at HT2 hHeld
        clear hY hw2
        refine wpAnyH_ready (rs := [25]) (by kernel_rfl) (by simp) ?_
        refine AllReadyH.cons (o := { dst := some 46, op := Go.Op.call { callee := Go.Callee.value (Go.Operand.func 15), args := #[Go.Operand.tmp 23, Go.Operand.tmp 28, Go.Operand.tmp 35, Go.Operand.tmp 43, Go.Operand.tmp 45], argTypes := #[32, 32, 34, 9, 37] }, type := 41, pos := "law.go:110", after := #[{ on := 2, ground := Go.Ground.data }, { on := 7, ground := Go.Ground.data }, { on := 14, ground := Go.Ground.data }, { on := 22, ground := Go.Ground.data }, { on := 24, ground := Go.Ground.data }], guard := none }) rfl (fun K hK => ?_) AllReadyH.nil
        rw [if_pos (by kernel_rfl)]
        go_simp
        refine (HSet.out w2).mono ?_
        rintro e W3 ⟨rfl, t2⟩
        have HT3 : Hid (Touch (fun _ => False) w W3 ∧ Touch (fun _ => False) wr W3) := ⟨HT2.out.1.trans t2, HT2.out.2.trans t2⟩
        have HBX : Hid (OpAt Y zeroO W3 ∧ wr.heap.size ≤ Y) := ⟨HBX2.out.1.keep t2, HBX2.out.2⟩
        clear t2 HBX2 HT2
        refine hK.out _ _ (HS.out _ HT3.out.2) (fun hHeld => ?_)
        clear hK K
        refine wpAnyH_ready (rs := [27]) (by kernel_rfl) (by simp) ?_
        refine AllReadyH.cons (o := { dst := none, op := Go.Op.store 41 (Go.Operand.tmp 7) (Go.Operand.tmp 46), type := 0, pos := "law.go:110", after := #[{ on := 26, ground := Go.Ground.data }, { on := 25, ground := Go.Ground.data }, { on := 25, ground := Go.Ground.chain }, { on := 0, ground := Go.Ground.phase }, { on := 1, ground := Go.Ground.phase }, { on := 2, ground := Go.Ground.phase }, { on := 3, ground := Go.Ground.phase }, { on := 4, ground := Go.Ground.phase }, { on := 5, ground := Go.Ground.phase }, { on := 6, ground := Go.Ground.phase }, { on := 7, ground := Go.Ground.phase }, { on := 8, ground := Go.Ground.phase }, { on := 9, ground := Go.Ground.phase }, { on := 10, ground := Go.Ground.phase }, { on := 11, ground := Go.Ground.phase }, { on := 12, ground := Go.Ground.phase }, { on := 13, ground := Go.Ground.phase }, { on := 14, ground := Go.Ground.phase }, { on := 15, ground := Go.Ground.phase }, { on := 16, ground := Go.Ground.phase }, { on := 17, ground := Go.Ground.phase }, { on := 18, ground := Go.Ground.phase }, { on := 19, ground := Go.Ground.phase }, { on := 20, ground := Go.Ground.phase }, { on := 21, ground := Go.Ground.phase }, { on := 22, ground := Go.Ground.phase }, { on := 23, ground := Go.Ground.phase }, { on := 24, ground := Go.Ground.phase }, { on := 25, ground := Go.Ground.phase }, { on := 26, ground := Go.Ground.phase }], guard := none }) rfl (fun K hK => ?_) AllReadyH.nil
        rw [if_pos (by kernel_rfl)]
        refine wp_store_mid 41 (.tmp 7) (.tmp 46) rfl Y 0 o0.vals rfl rfl (HBX.out.1.there 0 22 (by decide)) (by kernel_rfl) (by kernel_rfl) ?_
        simp only [Act.put]
        have HT4 : Hid (Touch (fun _ => False) w (W3.setCells Y 0 o0.vals.toList) ∧ Touch (fun _ => False) wr (W3.setCells Y 0 o0.vals.toList) ∧ OpAt Y o0 (W3.setCells Y 0 o0.vals.toList) ∧ wr.heap.size ≤ Y) := by
          have h1 := HBX.out.2
          have h2 := HTw.out.1.size
          exact ⟨HT3.out.1.stores (by omega) 0 _, HT3.out.2.stores (by omega) 0 _, HBX.out.1.store0, h1⟩
        obtain ⟨W4, hW4⟩ : ∃ W4, Hid (W4 = W3.setCells Y 0 o0.vals.toList) := ⟨_, Eq.refl _⟩
        rw [← hW4.out] at HT4 ⊢
        clear hW4 HT3 HBX
        refine hK.out _ _ (HS.out _ HT4.out.2.1) (fun hHeld => ?_)
        clear hK K
        refine wpAnyH_done (by kernel_rfl) ?_ _
        try simp only [List.getElem_toArray, List.getElem_cons_succ, List.getElem_cons_zero, List.setIfInBounds_toArray, List.set_cons_succ, List.set_cons_zero]
        clear hHeld
        generalize Value.agg o0.vals = vo0
        have q0 := HT4.out.2.2.1.q0
        have fr0 : W4.frozen? ⟨Y, 0, none⟩ = false := free_of_block HT4.out.2.2.1
        go_upto_region 9 with fail
        obtain ⟨W5, hW5⟩ : ∃ W5, Hid (W5 = W4.setCell ⟨Y, 0, none⟩ (.int .u64 cl)) := ⟨_, Eq.refl _⟩
        have HT5 : Hid (Touch (fun _ => False) w W5 ∧ Touch (fun _ => False) wr W5 ∧ OpAt Y o1 W5 ∧ wr.heap.size ≤ Y) := by
          have h1 := HT4.out.2.2.2
          have h2 := HTw.out.1.size
          refine ⟨?_, ?_, ?_, h1⟩
          · rw [hW5.out]; exact HT4.out.1.setCell _ _ (fun h => by simp only at h; omega)
          · rw [hW5.out]; exact HT4.out.2.1.setCell _ _ (fun h => by simp only at h; omega)
          · rw [hW5.out]
            unfold OpAt
            rw [heap_setCell_same _ _ _ _ HT4.out.2.2.1, ho1.out, ho0.out]
            rfl
        rw [← hW5.out]
        have HYw : Hid (wr.heap.size ≤ Y) := HT5.out.2.2.2
        clear hW5 HT4 q0 fr0
        by_cases hs0 : sw = 0
        · have e0 : (sw == 0) = true := by simpa using hs0
          go_upto_region 11 with fail
          refine wp_region_lit ?_
          iterate 2 (refine wpList_plain rfl fun K hK => ?_; go_simp; refine hK _ _ ?_; clear hK K)
          refine wpList_store_mid rfl 37 (.tmp 60) (.tmp 59) rfl Y 9 #[.int .i64 5, .int .i64 0, .float .f64 0, .string ⟨#[]⟩] rfl rfl (HT5.out.2.2.1.there 9 4 (by decide)) (by kernel_rfl) (by kernel_rfl) ?_
          simp only [Act.put]
          obtain ⟨ox, hox⟩ : ∃ o : O, Hid (o = withC (setO ((i + 1 : Nat) : Int) st pc pk (keyL lo) ⟨5, 0, 0, ⟨#[]⟩⟩) cl) := ⟨_, Eq.refl _⟩
          obtain ⟨W6, hW6⟩ : ∃ W6, Hid (W6 = W5.setCells Y 9 [.int .i64 5, .int .i64 0, .float .f64 0, .string ⟨#[]⟩]) := ⟨_, Eq.refl _⟩
          have HT6 : Hid (Touch (fun _ => False) w W6 ∧ Touch (fun _ => False) wr W6 ∧ OpAt Y ox W6) := by
            have h1 := HT5.out.2.2.2
            have h2 := HTw.out.1.size
            refine ⟨?_, ?_, ?_⟩
            · rw [hW6.out]; exact HT5.out.1.stores (by omega) 9 _
            · rw [hW6.out]; exact HT5.out.2.1.stores (by omega) 9 _
            · rw [hW6.out]; exact HT5.out.2.2.1.stored 9 _ (by rw [hox.out, ho1.out, ho0.out, hck'.out]; rfl)
          rw [← hW6.out]
          clear hW6 HT5
          have HG := HGone.out _ (Or.inr (Or.inl rfl)) ox hox
          have HGh : Hid (_ ∧ _) := HG
          obtain ⟨v7, W8, hrun7, hN7, hD7, hs7, hk7⟩ := two_inD HR.out.1 HR.out.2.1 HR.out.2.2.1 HT6.out.2.1 ⟨ox.c, ox.k⟩ (by have := HR.out.2.2.2.2.2.2.1; have := Hil.out; omega)
          have HHx : Hid (OpAt Y ox W6) := HT6.out.2.2
          have HF : Hid (OpAt Y ox W8 ∧ NewP w W8 (.slice oo G.length ocap) G ∧ NewD w W8 v7 (I ++ [⟨ox.c, ox.k⟩]) ∧ (∀ k, (Value.slice oo G.length ocap).ownBlock = some k → v7.ownBlock ≠ some k) ∧ 0 < (I ++ [(⟨ox.c, ox.k⟩ : Ip)]).length ∧ (I ++ [(⟨ox.c, ox.k⟩ : Ip)]).length ≤ i + 1 + 1 ∧ InOk (G ++ [ox]) (I ++ [⟨ox.c, ox.k⟩])) := by
            refine ⟨(hk7 Y HYw.out (lt_of_heap HHx.out)).trans HHx.out, hN7, hD7, hs7, by simp, by simp; exact HR.out.2.2.2.2.2.2.1, HR.out.2.2.2.2.2.2.2.snoc (by unfold isMapB; rw [HG.2.2.2.1]; rfl)⟩
          clear hN7 hD7 hs7 hk7 HG
          go_upto_region 12 with fail
          refine wp_region_lit ?_
          iterate 2 (refine wpList_plain rfl fun K hK => ?_; go_simp; refine hK _ _ ?_; clear hK K)
          refine wpList_load_mid rfl 34 (.tmp 62) rfl Y 0 rfl [.int .u64 ox.c, .int .u64 ox.k] _ HHx.out.idAt Try.underlying34 rfl (by kernel_rfl) ?_
          simp only [Act.put, List.setIfInBounds_toArray, List.set_cons_succ, List.set_cons_zero]
          have hbs := run_build1D ox.c ox.k W6
          iterate 1 (refine wpList_plain rfl fun K hK => ?_; go_simp; refine hK _ _ ?_; clear hK K)
          refine wpList_append_runD rfl (.tmp 61) (.tmp 64) rfl _ _ _ rfl rfl hrun7 ?_
          simp only [Act.put, List.setIfInBounds_toArray, List.set_cons_succ, List.set_cons_zero]
          clear hrun7 hbs HHx HT6
          go_upto_region 15 with fail
          obtain ⟨v9, w9, hrun9, hN9, hD9, hs9⟩ := two_outP HF.out.2.1 HF.out.2.2.1 HF.out.2.2.2.1 ox (by have := HR.out.2.2.2.2.1; have := Hil.out; omega)
          have HL9 : Hid (NewP w w9 v9 (G ++ [ox]) ∧ (G ++ [ox]).length = i + 1) := ⟨hN9, by have := HR.out.2.2.2.2.1; simp; omega⟩
          refine wp_region_lit ?_
          iterate 1 (refine wpList_plain rfl fun K hK => ?_; go_simp; refine hK _ _ ?_; clear hK K)
          refine wpList_load_mid rfl 41 (.tmp 7) rfl Y 0 rfl ox.vals.toList _ (rangeAt_of HF.out.1) Try.underlying41 rfl (by kernel_rfl) ?_
          simp only [Act.put, List.setIfInBounds_toArray, List.set_cons_succ, List.set_cons_zero]
          have hbs := run_build1O ox W8
          iterate 1 (refine wpList_plain rfl fun K hK => ?_; go_simp; refine hK _ _ ?_; clear hK K)
          refine wpList_append_runO rfl (.tmp 70) (.tmp 72) rfl _ _ _ rfl rfl hrun9 ?_
          simp only [Act.put, List.setIfInBounds_toArray, List.set_cons_succ, List.set_cons_zero]
          have HH9 : Hid (_ ∧ _) := ⟨hD9, hs9⟩
          clear hrun9 hbs hN9 hD9 hs9
          generalize Value.agg ox.vals = vo3
          go_wp2_with fail
          go_roundg (zs.length - (i + 1))
          case measure => have := Hil.out; omega
          case rel => exact ⟨i + 1, G ++ [ox], _, by have := Hil.out; omega, by rw [hck'.out], HL9.out.1, HH9.out.1, HH9.out.2, HGh.out.2.2.2.2, HL9.out.2, HF.out.2.2.2.2.1, HF.out.2.2.2.2.2.1, HF.out.2.2.2.2.2.2⟩
        · by_cases hs1 : sw = 1
          · have e0 : (sw == 0) = false := by simpa using hs0
            have e1 : (sw == 1) = true := by simpa using hs1
            go_upto_region 14 with fail
            refine wp_region_lit ?_
            iterate 2 (refine wpList_plain rfl fun K hK => ?_; go_simp; refine hK _ _ ?_; clear hK K)
            refine wpList_store_mid rfl 37 (.tmp 69) (.tmp 68) rfl Y 9 #[.int .i64 0, .int .i64 0, .float .f64 0, .string ⟨#[]⟩] rfl rfl (HT5.out.2.2.1.there 9 4 (by decide)) (by kernel_rfl) (by kernel_rfl) ?_
            simp only [Act.put]
            obtain ⟨ox, hox⟩ : ∃ o : O, Hid (o = withC (setO ((i + 1 : Nat) : Int) st pc pk (keyL lo) ⟨0, 0, 0, ⟨#[]⟩⟩) cl) := ⟨_, Eq.refl _⟩
            obtain ⟨W8, hW6⟩ : ∃ W6, Hid (W6 = W5.setCells Y 9 [.int .i64 0, .int .i64 0, .float .f64 0, .string ⟨#[]⟩]) := ⟨_, Eq.refl _⟩
            have HT6 : Hid (Touch (fun _ => False) w W8 ∧ Touch (fun _ => False) wr W8 ∧ OpAt Y ox W8) := by
              have h1 := HT5.out.2.2.2
              have h2 := HTw.out.1.size
              refine ⟨?_, ?_, ?_⟩
              · rw [hW6.out]; exact HT5.out.1.stores (by omega) 9 _
              · rw [hW6.out]; exact HT5.out.2.1.stores (by omega) 9 _
              · rw [hW6.out]; exact HT5.out.2.2.1.stored 9 _ (by rw [hox.out, ho1.out, ho0.out, hck'.out]; rfl)
            rw [← hW6.out]
            clear hW6 HT5
            have HGh : Hid (_ ∧ _) := HGone.out _ (Or.inr (Or.inr rfl)) ox hox
            have HF : Hid (OpAt Y ox W8 ∧ NewP w W8 (.slice oo G.length ocap) G ∧ NewD w W8 (.slice (some ⟨gi, 0, none⟩) I.length icap) I ∧ (∀ k, (Value.slice oo G.length ocap).ownBlock = some k → (Value.slice (some ⟨gi, 0, none⟩) I.length icap).ownBlock ≠ some k) ∧ 0 < I.length ∧ I.length ≤ i + 1 + 1 ∧ InOk (G ++ [ox]) I) :=
              ⟨HT6.out.2.2, HR.out.1.on HT6.out.2.1, HR.out.2.1.on HT6.out.2.1, HR.out.2.2.1, HR.out.2.2.2.2.2.1, by have := HR.out.2.2.2.2.2.2.1; omega, HR.out.2.2.2.2.2.2.2.more ox⟩
            clear HT6
            go_upto_region 15 with fail
            obtain ⟨v9, w9, hrun9, hN9, hD9, hs9⟩ := two_outP HF.out.2.1 HF.out.2.2.1 HF.out.2.2.2.1 ox (by have := HR.out.2.2.2.2.1; have := Hil.out; omega)
            have HL9 : Hid (NewP w w9 v9 (G ++ [ox]) ∧ (G ++ [ox]).length = i + 1) := ⟨hN9, by have := HR.out.2.2.2.2.1; simp; omega⟩
            refine wp_region_lit ?_
            iterate 1 (refine wpList_plain rfl fun K hK => ?_; go_simp; refine hK _ _ ?_; clear hK K)
            refine wpList_load_mid rfl 41 (.tmp 7) rfl Y 0 rfl ox.vals.toList _ (rangeAt_of HF.out.1) Try.underlying41 rfl (by kernel_rfl) ?_
            simp only [Act.put, List.setIfInBounds_toArray, List.set_cons_succ, List.set_cons_zero]
            have hbs := run_build1O ox W8
            iterate 1 (refine wpList_plain rfl fun K hK => ?_; go_simp; refine hK _ _ ?_; clear hK K)
            refine wpList_append_runO rfl (.tmp 70) (.tmp 72) rfl _ _ _ rfl rfl hrun9 ?_
            simp only [Act.put, List.setIfInBounds_toArray, List.set_cons_succ, List.set_cons_zero]
            have HH9 : Hid (_ ∧ _) := ⟨hD9, hs9⟩
            clear hrun9 hbs hN9 hD9 hs9
            generalize Value.agg ox.vals = vo3
            go_wp2_with fail
            go_roundg (zs.length - (i + 1))
            case measure => have := Hil.out; omega
            case rel => exact ⟨i + 1, G ++ [ox], _, by have := Hil.out; omega, by rw [hck'.out], HL9.out.1, HH9.out.1, HH9.out.2, HGh.out.2.2.2.2, HL9.out.2, HF.out.2.2.2.2.1, HF.out.2.2.2.2.2.1, HF.out.2.2.2.2.2.2⟩
          · have e0 : (sw == 0) = false := by simpa using hs0
            have e1 : (sw == 1) = false := by simpa using hs1
            obtain ⟨ox, hox⟩ : ∃ o : O, Hid (o = withC (setO ((i + 1 : Nat) : Int) st pc pk (keyL lo) ⟨2, (i : Int), 0, ⟨#[]⟩⟩) cl) := ⟨_, Eq.refl _⟩
            have hox1 : o1 = ox := by rw [hox.out, ho1.out, ho0.out, hck'.out]
            have HGh : Hid (_ ∧ _) := HGone.out _ (Or.inl rfl) ox hox
            obtain ⟨W8, hW6⟩ : ∃ W6, Hid (W6 = W5) := ⟨_, Eq.refl _⟩
            have HF : Hid (OpAt Y ox W8 ∧ NewP w W8 (.slice oo G.length ocap) G ∧ NewD w W8 (.slice (some ⟨gi, 0, none⟩) I.length icap) I ∧ (∀ k, (Value.slice oo G.length ocap).ownBlock = some k → (Value.slice (some ⟨gi, 0, none⟩) I.length icap).ownBlock ≠ some k) ∧ 0 < I.length ∧ I.length ≤ i + 1 + 1 ∧ InOk (G ++ [ox]) I) := by
              rw [hW6.out]
              exact ⟨by rw [← hox1]; exact HT5.out.2.2.1, HR.out.1.on HT5.out.2.1, HR.out.2.1.on HT5.out.2.1, HR.out.2.2.1, HR.out.2.2.2.2.2.1, by have := HR.out.2.2.2.2.2.2.1; omega, HR.out.2.2.2.2.2.2.2.more ox⟩
            rw [← hW6.out]
            clear hW6 HT5 hox1
            go_upto_region 15 with fail
            obtain ⟨v9, w9, hrun9, hN9, hD9, hs9⟩ := two_outP HF.out.2.1 HF.out.2.2.1 HF.out.2.2.2.1 ox (by have := HR.out.2.2.2.2.1; have := Hil.out; omega)
            have HL9 : Hid (NewP w w9 v9 (G ++ [ox]) ∧ (G ++ [ox]).length = i + 1) := ⟨hN9, by have := HR.out.2.2.2.2.1; simp; omega⟩
            refine wp_region_lit ?_
            iterate 1 (refine wpList_plain rfl fun K hK => ?_; go_simp; refine hK _ _ ?_; clear hK K)
            refine wpList_load_mid rfl 41 (.tmp 7) rfl Y 0 rfl ox.vals.toList _ (rangeAt_of HF.out.1) Try.underlying41 rfl (by kernel_rfl) ?_
            simp only [Act.put, List.setIfInBounds_toArray, List.set_cons_succ, List.set_cons_zero]
            have hbs := run_build1O ox W8
            iterate 1 (refine wpList_plain rfl fun K hK => ?_; go_simp; refine hK _ _ ?_; clear hK K)
            refine wpList_append_runO rfl (.tmp 70) (.tmp 72) rfl _ _ _ rfl rfl hrun9 ?_
            simp only [Act.put, List.setIfInBounds_toArray, List.set_cons_succ, List.set_cons_zero]
            have HH9 : Hid (_ ∧ _) := ⟨hD9, hs9⟩
            clear hrun9 hbs hN9 hD9 hs9
            generalize Value.agg ox.vals = vo3
            go_wp2_with fail
            go_roundg (zs.length - (i + 1))
            case measure => have := Hil.out; omega
            case rel => exact ⟨i + 1, G ++ [ox], _, by have := Hil.out; omega, by rw [hck'.out], HL9.out.1, HH9.out.1, HH9.out.2, HGh.out.2.2.2.2, HL9.out.2, HF.out.2.2.2.2.1, HF.out.2.2.2.2.2.1, HF.out.2.2.2.2.2.2⟩
    · have hin : i = zs.length := by omega
      subst hin
      have HF := HR
      clear HR
      go_wp2_with fail
      go_ret
      exact ⟨_, rfl, G, HF.out.1, by have := HF.out.2.2.2.2.1; omega, HF.out.2.2.2.1⟩
end Go.Proofs.Ytegldlfbmaapiaa

/- quirelaw12.MapsAnyOrder. -/
namespace Go.Proofs.Ytegldlfbmaapiaa
open Go.RowKit Go.Maps
set_option linter.unusedVariables false
set_option linter.unusedSimpArgs false
set_option maxRecDepth 100000

theorem rng_par {W : World} {b p : Nat} {x : O} (h : W.rangeAt b p x.vals.toList) : W.rangeAt b (p + 14) [.int .u64 x.pc, .int .u64 x.pk] := by
  intro j v hv
  match j, hv with
  | 0, hv => have := h 14 _ rfl; cases hv; exact this
  | 1, hv => have := h 15 _ rfl; cases hv; exact this
  | j + 2, hv => simp at hv
theorem SlP.kept {w w' : World} {K : Nat → Prop} {v : Value} {l : List O} (h : SlP w v l) (hk : Kept K w w') (hb : ∀ k, v.ownBlock = some k → K k) : SlP w' v l := by
  obtain ⟨ao, cap, e, h1, h2, h3, h4⟩ := h
  refine ⟨ao, cap, e, h1, h2, h3, ?_⟩
  rcases h4 with h4 | ⟨b, o, e2, hc⟩
  · exact .inl h4
  · refine .inr ⟨b, o, e2, fun j u hu => ?_⟩
    have := hc j u hu
    rw [World.cell?_of_block (hk b (hb b (by rw [e, e2]; rfl)))]; exact this
/-- What is left, cut and joined. -/
theorem left_cut {w : World} {lo : Option Addr} {lc : Nat} {LF : List O} (h : SlP w (.slice lo LF.length lc) LF) (hl : LF.length ≤ 40) {j : Nat} (hj : j < LF.length) :
    ∃ a2, (∀ W, (Instr.slice 26 (.slice lo LF.length lc) none (some (.int .i64 (j : Int))) none).run Try.prog W = .ok (.slice lo j lc) W) ∧
      (∀ W, (Instr.slice 26 (.slice lo LF.length lc) (some (.int .i64 ((j + 1 : Nat) : Int))) none none).run Try.prog W = .ok (.slice a2 (LF.length - (j + 1)) (lc - (j + 1))) W) ∧
      ∃ va Wa vb Wb, (Builtin.append_ #[26, 26] 26 #[.slice none 0 0, .slice lo j lc]).run Try.prog w = .ok va Wa ∧ (Builtin.append_ #[26, 26] 26 #[va, .slice a2 (LF.length - (j + 1)) (lc - (j + 1))]).run Try.prog Wa = .ok vb Wb ∧ NewP w Wb vb (LF.take j ++ LF.drop (j + 1)) := by
  obtain ⟨ao, cap, e, h1, h2, h3, h4⟩ := id h
  simp only [Value.slice.injEq] at e
  obtain ⟨rfl, -, rfl⟩ := e
  refine ⟨_, sliceO_to lo LF.length lc j (by omega), sliceO_from lo LF.length lc (j + 1) (by omega), ?_⟩
  have u1 := h.upto j (by omega)
  have u2 := h.from (j + 1) (by omega)
  obtain ⟨ao1, cap1, e1, p1, p2, p3, p4⟩ := u1
  simp only [Value.slice.injEq] at e1
  obtain ⟨rfl, q1, rfl⟩ := e1
  obtain ⟨va, Wa, hra, hNa, -⟩ := (NewP.nil w w (Touch.refl _ _)).appO lo j lc (LF.take j) q1 p1 p4 (by simp; omega)
  have u3 := u2.touch hNa.touch
  obtain ⟨ao2, cap2, e2, s1, s2, s3, s4⟩ := u3
  simp only [Value.slice.injEq] at e2
  obtain ⟨e3, q2, rfl⟩ := e2
  rw [← e3] at s1 s4
  obtain ⟨vb, Wb, hrb, hNb, -⟩ := hNa.appO _ (LF.length - (j + 1)) (lc - (j + 1)) (LF.drop (j + 1)) q2 s1 s4 (by simp; omega)
  exact ⟨va, Wa, vb, Wb, hra, hrb, by simpa using hNb⟩
set_option maxHeartbeats 64000000 in
theorem mapsAnyOrder_any (w : World) (ao : Option Addr) (zs : List Int) (n cap : Nat) (hL : n = zs.length) (hS : LiesK w .u16 ao zs) (hX : cap ≤ maxLen) (hM : n ≤ cap) (hY : ∀ y ∈ zs, 0 ≤ y ∧ y < 65536)
    (ao2 : Option Addr) (ys : List Int) (m cap2 : Nat) (hL2 : m = ys.length) (hS2 : LiesK w .u8 ao2 ys) (hX2 : cap2 ≤ maxLen) (hM2 : m ≤ cap2) (hY2 : ∀ y ∈ ys, 0 ≤ y ∧ y < 256)
    (ao3 : Option Addr) (hl : List Rg) (r cap3 : Nat) (hr : r = hl.length) (hS3 : SlR w (.slice ao3 r cap3) hl) :
    Calls Try.prog 3 #[.slice ao n cap, .slice ao2 m cap2, .slice ao3 r cap3] w fun e w' => e = .returned (.bool true) ∧ Touch (fun _ => False) w w' := by
  have HKn : Hid (Calls Try.prog 6 #[] w fun e w' => e = .returned (.bool true) ∧ Touch (fun _ => False) w w') := known_any w
  have HZ : Hid (LiesK w .u16 ao zs ∧ (∀ y ∈ zs, 0 ≤ y ∧ y < 65536) ∧ n = zs.length ∧ n ≤ cap ∧ cap ≤ maxLen) := ⟨hS, hY, hL, hM, hX⟩
  have HY : Hid (LiesK w .u8 ao2 ys ∧ (∀ y ∈ ys, 0 ≤ y ∧ y < 256) ∧ m = ys.length ∧ m ≤ cap2) := ⟨hS2, hY2, hL2, hM2⟩
  have HR0 : Hid (SlR w (.slice ao3 r cap3) hl ∧ r = hl.length) := ⟨hS3, hr⟩
  have hn1 : n ≤ 9223372036854775807 := by unfold maxLen at hX; omega
  have hm1 : m ≤ 9223372036854775807 := by unfold maxLen at hX2; omega
  have hr1 : r ≤ 9223372036854775807 := by
    obtain ⟨aq, cq, eq, -, p2, p3, -⟩ := hS3
    omega
  clear hS hX hY hL hM hS2 hX2 hM2 hY2 hL2 hS3 hr
  go_enter Try.func3, Try.ntmps3
  go_wp2_with fail
  refine HKn.out.mono ?_
  rintro e w1 ⟨rfl, tk⟩
  have HT1 : Hid (Touch (fun _ => False) w w1) := tk
  clear tk HKn
  by_cases h40 : 40 < n
  · have d1 : (40 : Int) < (n : Int) := by omega
    go_wp2_with fail
    go_ret
    exact ⟨rfl, HT1.out⟩
  have d1 : ¬ (40 : Int) < (n : Int) := by omega
  by_cases h200 : 200 < m
  · have d2 : (200 : Int) < (m : Int) := by omega
    go_wp2_with fail
    go_ret
    exact ⟨rfl, HT1.out⟩
  have d2 : ¬ (200 : Int) < (m : Int) := by omega
  by_cases h20 : 20 < r
  · have d3 : (20 : Int) < (r : Int) := by omega
    go_wp2_with fail
    go_ret
    exact ⟨rfl, HT1.out⟩
  have d3 : ¬ (20 : Int) < (r : Int) := by omega
  have HGr : Hid (Calls Try.prog 7 #[.slice ao n cap] w1 fun e w' => ∃ v G, e = .returned v ∧ NewP w1 w' v G ∧ G.length = n ∧ GrOk G) := grown_any w1 ao zs n cap HZ.out.2.2.1 (HZ.out.1.touch HT1.out) HZ.out.2.2.2.2 HZ.out.2.2.2.1 HZ.out.2.1 (by omega)
  go_wp2_with fail
  refine HGr.out.mono ?_
  rintro e w2 ⟨v7, G, rfl, hN7, hGl, hGO⟩
  obtain ⟨ao7, cap7, hv7, -⟩ := hN7.shape
  subst hv7
  have HG : Hid (NewP w1 w2 (.slice ao7 G.length cap7) G ∧ GrOk G ∧ G.length ≤ 40 ∧ Touch (fun _ => False) w w2) := ⟨hN7, hGO, by omega, HT1.out.trans hN7.touch⟩
  have hG40 : G.length ≤ 40 := by omega
  clear hN7 hGl hGO HGr d1 d2 d3 HT1
  have HNA : Hid (Calls Try.prog 8 #[] w2 fun e w' => ∃ g, e = .returned (.pointer (some ⟨g, 0, none⟩)) ∧ Lv w2 (fun _ => False) w' g newS [] ∧ Touch (fun _ => False) w2 w') := lv_new2 w2 (Touch.refl _ _) (fun k hk => hk.elim)
  go_wp2_with fail
  refine HNA.out.mono ?_
  rintro e w3 ⟨ga, rfl, hA3, t3⟩
  have HA3 : Hid (Lv w2 (fun _ => False) w3 ga newS [] ∧ Touch (fun _ => False) w2 w3) := ⟨hA3, t3⟩
  clear hA3 t3 HNA
  have HNB : Hid (Calls Try.prog 8 #[] w3 fun e w' => ∃ g, e = .returned (.pointer (some ⟨g, 0, none⟩)) ∧ Lv w2 (fun k => w2.heap.size ≤ k ∧ k < w3.heap.size) w' g newS [] ∧ Touch (fun _ => False) w3 w') := lv_new2 w3 HA3.out.2 (fun k hk => hk.2)
  go_wp2_with fail
  refine HNB.out.mono ?_
  rintro e w4 ⟨gb, rfl, hB4, t4⟩
  obtain ⟨KA, hKA⟩ : ∃ KA : Nat → Prop, Hid (KA = fun k => w3.heap.size ≤ k ∧ k < w4.heap.size) := ⟨_, Eq.refl _⟩
  have HA4 : Hid (Lv w2 KA w4 ga newS []) := by
    rw [hKA.out]
    exact (HA3.out.1.boxes t4).weaken fun k hk => .inr hk
  have HB4 : Hid (Lv w2 (fun k => w2.heap.size ≤ k ∧ k < w3.heap.size) w4 gb newS [] ∧ ∀ k, w2.heap.size ≤ k → k < w4.heap.size → ¬ (w2.heap.size ≤ k ∧ k < w3.heap.size) → KA k) := ⟨hB4, fun k h1 h2 h3 => by rw [hKA.out]; exact ⟨by omega, h2⟩⟩
  clear hB4 t4 HNB HA3 hKA
  have HHide : Hid (Calls Try.prog 9 #[.pointer (some ⟨ga, 0, none⟩), .slice ao3 r cap3] w4 fun e w' => e = .returned (.tuple #[]) ∧ ∃ out, (∀ c k, hasB out c k = hasB hl c k) ∧ Lv w2 KA w' ga { newS with hid := out } [] ∧ Kept KA w4 w' ∧ w4.heap.size ≤ w'.heap.size) := lv_hide2 HA4.out hl _ (HR0.out.1.touch (HG.out.2.2.2.trans HA4.out.touch0)) (by have := HR0.out.2; omega)
  go_wp2_with fail
  refine HHide.out.mono ?_
  rintro e w5 ⟨rfl, outA, hoA, hA5, hK5, hs5⟩
  have HA5 : Hid (Lv w2 KA w5 ga { newS with hid := outA } [] ∧ Kept KA w4 w5 ∧ w4.heap.size ≤ w5.heap.size ∧ ∀ c k, hasB outA c k = hasB hl c k) := ⟨hA5, hK5, hs5, hoA⟩
  clear hA5 hK5 hs5 hoA HHide HA4
  go_wp2_with fail
  go_loopg [10] G.length (fun gk s10 wr => ∃ (i : Nat) (s : MS), i + gk = G.length ∧ s10 = .int .i64 (i : Int) ∧ Hid (Lv w2 KA wr ga s (G.take i) ∧ Kept KA w4 wr ∧ w4.heap.size ≤ wr.heap.size ∧ ∀ c k, hasB s.hid c k = hasB hl c k))
  case atStart => exact ⟨0, _, by omega, rfl, HA5.out.1, HA5.out.2.1, HA5.out.2.2.1, HA5.out.2.2.2⟩
  case round =>
    obtain ⟨i, s, hig, rfl, HR⟩ := hrel
    have hG1 : G.length ≤ 9223372036854775807 := by omega
    by_cases hil : i < G.length
    · obtain ⟨b7, o7, cp7, he7, -, -, hrow⟩ := (HG.out.1.sl.touch HR.out.1.touch0).row (by intro e; rw [e] at hil; simp at hil)
      simp only [Value.slice.injEq] at he7
      obtain ⟨rfl, -, rfl⟩ := he7
      obtain ⟨x, hx⟩ : ∃ x, Hid (x = G[i]'hil) := ⟨G[i]'hil, Eq.refl _⟩
      have hrg := hrow i hil
      rw [← hx.out] at hrg
      have HRg : Hid (wr.rangeAt b7 (o7 + i * 22) x.vals.toList) := hrg
      have hone := HG.out.2.1.one (List.getElem_mem hil)
      have hoA := HG.out.2.1.okA hil HR.out.1.hasL
      rw [← hx.out] at hone hoA
      have HC : Hid (Calls Try.prog 10 #[.pointer (some ⟨ga, 0, none⟩), .agg x.vals] wr fun e w' => e = .returned (.bool true) ∧ Lv w2 KA w' ga (setS s x) (G.take i ++ [x]) ∧ Kept KA wr w' ∧ wr.heap.size ≤ w'.heap.size) := lv_set2 HR.out.1 x hone.1 (by rw [hone.2.2.2.2.1]; decide) (by simp; omega) hoA
      have Hil : Hid (i < G.length ∧ G.take i ++ [x] = G.take (i + 1)) := ⟨hil, by rw [hx.out, List.take_succ_eq_append_getElem hil]⟩
      have l1 : (i : Int) < (G.length : Int) := by omega
      have l0 : (0 : Int) ≤ (i : Int) := by omega
      clear hrow hrg hone hoA hx
      go_upto_region 11 with fail
      refine wp_region_lit ?_
      iterate 4 (refine wpList_plain rfl fun K hK => ?_; go_simp; refine hK _ _ ?_; clear hK K)
      refine wpList_load_mid rfl 41 (.tmp 45) rfl b7 (o7 + i * 22) rfl x.vals.toList _ HRg.out Try.underlying41 rfl (by kernel_rfl) ?_
      simp only [Act.put, List.setIfInBounds_toArray, List.set_cons_succ, List.set_cons_zero]
      refine wpList_plain rfl fun K hK => ?_
      go_simp
      refine HC.out.mono ?_
      rintro e w6 ⟨rfl, hl6, hk6, hs6⟩
      refine hK _ _ ?_
      clear hK K
      have HF : Hid (Lv w2 KA w6 ga (setS s x) (G.take (i + 1)) ∧ Kept KA w4 w6 ∧ w4.heap.size ≤ w6.heap.size ∧ ∀ c k, hasB (setS s x).hid c k = hasB hl c k) := ⟨by rw [← Hil.out.2]; exact hl6, HR.out.2.1.trans hk6, Nat.le_trans HR.out.2.2.1 hs6, fun c k => by rw [hid_set]; exact HR.out.2.2.2 c k⟩
      clear hl6 hk6 hs6 HC HRg HR
      generalize Value.agg x.vals = vx
      have w1' : IntKind.i64.wrap ((i : Int) + 1) = ((i + 1 : Nat) : Int) := by rw [IntKind.wrap_i64]; omega
      go_wp2_with fail
      go_roundg (G.length - (i + 1))
      case measure => have := Hil.out; omega
      case rel => exact ⟨i + 1, _, by have := Hil.out; omega, rfl, HF.out⟩
    · have hin : i = G.length := by omega
      have HA : Hid (Lv w2 KA wr ga s G ∧ Kept KA w4 wr ∧ w4.heap.size ≤ wr.heap.size ∧ ∀ c k, hasB s.hid c k = hasB hl c k) := by
        have h := HR.out
        rw [hin, List.take_length] at h
        exact h
      clear HR HA5
      have l1 : ¬ (i : Int) < (G.length : Int) := by omega
      obtain ⟨wA, hwA⟩ : ∃ W, W = wr := ⟨_, rfl⟩
      subst hwA
      obtain ⟨KB, hKB⟩ : ∃ KB : Nat → Prop, Hid (KB = fun k => w2.heap.size ≤ k ∧ k < wA.heap.size ∧ ¬ KA k) := ⟨_, Eq.refl _⟩
      have HB0 : Hid (Lv w2 KB wA gb newS [] ∧ ∀ k, w2.heap.size ≤ k → k < wA.heap.size → ¬ KA k → KB k) := by
        rw [hKB.out]
        exact ⟨HB4.out.1.swap HA.out.1 HA.out.2.1 HA.out.2.2.1 HB4.out.2, fun k h1 h2 h3 => ⟨h1, h2, h3⟩⟩
      obtain ⟨aq, cq, eq, p1, p2, p3, p4⟩ := HG.out.1.sl.touch HA.out.1.touch0
      simp only [Value.slice.injEq] at eq
      obtain ⟨rfl, -, rfl⟩ := eq
      obtain ⟨v11, wL, hrunL, hNL, -⟩ := (NewP.nil wA wA (Touch.refl _ _)).appO ao7 G.length cap7 G rfl p1 p4 (by simp; omega)
      simp only [List.nil_append] at hNL
      obtain ⟨lo0, lc0, hv11, -⟩ := hNL.shape
      subst hv11
      have HL0 : Hid (AnyInv G [] G ∧ newS.hid = [] ∧ Kept KB wA wL ∧ wA.heap.size ≤ wL.heap.size ∧ SlP wL (.slice lo0 G.length lc0) G ∧ ∃ K : Nat → Prop, Lv w2 K wL gb newS [] ∧ (∀ k, KB k → K k) ∧ ∀ k, (Value.slice lo0 G.length lc0).ownBlock = some k → K k) := by
        refine ⟨AnyInv.start HG.out.2.1, rfl, Kept.of (by rw [hKB.out]; exact fun k hk => hk.2.1) hNL.touch, hNL.touch.size, hNL.sl, _, HB0.out.1.boxes hNL.touch, fun k hk => .inl hk, fun k hk => .inr ⟨hNL.fresh k hk, (hNL.owns.lt k hk).2⟩⟩
      clear hNL p1 p2 p3 p4 HB4 hKB
      go_upto_region 13 with fail
      refine wp_region_lit ?_
      iterate 1 (refine wpList_plain rfl fun K hK => ?_; go_simp; refine hK _ _ ?_; clear hK K)
      refine wpList_append_runO rfl (.const (.slice none 0 0)) (.tmp 49) rfl _ _ _ rfl rfl hrunL ?_
      simp only [Act.put, List.setIfInBounds_toArray, List.set_cons_succ, List.set_cons_zero]
      clear hrunL
      go_wp2_with fail
      go_loopg [11, 12] G.length (fun gk s11 s12 wx => ∃ (i2 : Nat) (LB LF : List O) (sB : MS) (lo_ : Option Addr) (lc : Nat), LF.length = gk ∧ s11 = .slice lo_ LF.length lc ∧ s12 = .int .i64 (i2 : Int) ∧ i2 + gk = G.length ∧ Hid (AnyInv G LB LF ∧ sB.hid = [] ∧ Kept KB wA wx ∧ wA.heap.size ≤ wx.heap.size ∧ SlP wx (.slice lo_ LF.length lc) LF ∧ ∃ K : Nat → Prop, Lv w2 K wx gb sB LB ∧ (∀ k, KB k → K k) ∧ ∀ k, (Value.slice lo_ LF.length lc).ownBlock = some k → K k))
      case atStart => exact ⟨0, [], G, newS, lo0, lc0, rfl, rfl, rfl, by omega, HL0.out⟩
      case round =>
        obtain ⟨i2, LB, LF, sB, lo_, lc, hgk, rfl, rfl, hig2, HQ⟩ := hrel
        obtain ⟨hAI, hsh, hkp, hsz, hsl, KM, hLv, hKs, hKo⟩ := HQ.out
        have HX : Hid (AnyInv G LB LF ∧ sB.hid = [] ∧ Kept KB wA wr ∧ wA.heap.size ≤ wr.heap.size ∧ SlP wr (.slice lo_ LF.length lc) LF ∧ Lv w2 KM wr gb sB LB ∧ (∀ k, KB k → KM k) ∧ ∀ k, (Value.slice lo_ LF.length lc).ownBlock = some k → KM k) := ⟨hAI, hsh, hkp, hsz, hsl, hLv, hKs, hKo⟩
        have hlf40 : LF.length ≤ 40 := by omega
        have hlf1 : LF.length ≤ 9223372036854775807 := by omega
        clear hAI hsh hkp hsz hsl hLv hKs hKo HQ HL0
        by_cases h0 : LF.length = 0
        · have hLF : LF = [] := List.length_eq_zero_iff.1 h0
          have hmem : ∀ o, o ∈ G ↔ o ∈ LB := fun o => by rw [HX.out.1.mem, hLF]; simp
          have hlen : LB.length = G.length := by have := HX.out.1.len; omega
          have HHb : Hid (Calls Try.prog 9 #[.pointer (some ⟨gb, 0, none⟩), .slice ao3 r cap3] wr fun e w' => e = .returned (.tuple #[]) ∧ ∃ out, (∀ c k, hasB out c k = hasB hl c k) ∧ Lv w2 KB w' gb { sB with hid := out } LB ∧ Kept KB wr w' ∧ wr.heap.size ≤ w'.heap.size) := lv_hide2 (HX.out.2.2.2.2.2.1.weaken HX.out.2.2.2.2.2.2.1) hl _ (HR0.out.1.touch (HG.out.2.2.2.trans HX.out.2.2.2.2.2.1.touch0)) (by have := HR0.out.2; omega)
          have l1 : ¬ (0 : Int) < (LF.length : Int) := by omega
          have hLF0 : Hid (LF = []) := hLF
          clear hLF
          go_upto_region 25 with fail
          go_wp2_with fail
          refine HHb.out.mono ?_
          rintro e w9 ⟨rfl, outB, hoB, hB9, hK9, hs9⟩
          obtain ⟨s9, hs9'⟩ : ∃ s9, Hid (s9 = ({ sB with hid := outB } : MS)) := ⟨_, Eq.refl _⟩
          rw [← hs9'.out] at hB9
          have HP : Hid (Lv w2 (fun k => w2.heap.size ≤ k ∧ k < w9.heap.size ∧ ¬ KB k) w9 ga s G) := HA.out.1.swap hB9 (HX.out.2.2.1.trans hK9) (Nat.le_trans HX.out.2.2.2.1 hs9) HB0.out.2
          have hpa := lv_parts HP.out
          have hpb := lv_parts hB9
          have hshort : ∀ o ∈ G, ShortO o := fun o ho => (HG.out.2.1.one ho).2.2.2.2.2
          have hta := txt_of hpa.1 hpa.2.1 hpa.2.2 hshort hG40
          have htb := txt_of hpb.1 hpb.2.1 hpb.2.2 (fun o ho => hshort o ((hmem o).2 ho)) (by omega)
          have hview : viewE s (G.length + 1) 0 0 = viewE s9 (LB.length + 1) 0 0 := by
            rw [hlen]
            refine view_same hpa.1 hpb.1 hmem (fun c k => ?_) hpb.2.2 _ _ _ u64_zero u64_zero
            unfold shS
            rw [HA.out.2.2.2 c k, hs9'.out]
            show (!hasB hl c k) = (!hasB outB c k)
            rw [hoB c k]
          obtain ⟨T, hT⟩ : ∃ T, Hid (T = strOf (etsT 0 (viewE s (G.length + 1) 0 0))) := ⟨_, Eq.refl _⟩
          have HV1 : Hid (∀ W, Touch (fun _ => False) w9 W → Calls Try.prog 13 #[.pointer (some ⟨ga, 0, none⟩)] W fun e w' => ∃ v, e = .returned v ∧ Touch (fun _ => False) W w' ∧ Calls Try.prog 12 #[v] w' fun e w'' => e = .returned (.string T) ∧ Touch (fun _ => False) w' w'') := fun W t => by
            refine (lv_view (HP.out.on t)).mono ?_
            rintro e w' ⟨v, rfl, hE, t'⟩
            refine ⟨v, rfl, t', ?_⟩
            rw [hT.out]
            exact text_any hE hta.1 (by omega) hta.2
          have HV2 : Hid (∀ W, Touch (fun _ => False) w9 W → Calls Try.prog 13 #[.pointer (some ⟨gb, 0, none⟩)] W fun e w' => ∃ v, e = .returned v ∧ Touch (fun _ => False) W w' ∧ Calls Try.prog 12 #[v] w' fun e w'' => e = .returned (.string T) ∧ Touch (fun _ => False) w' w'') := fun W t => by
            refine (lv_view (hB9.on t)).mono ?_
            rintro e w' ⟨v, rfl, hE, t'⟩
            refine ⟨v, rfl, t', ?_⟩
            rw [hT.out, hview]
            exact text_any hE htb.1 (by omega) htb.2
          have HW9 : Hid (Touch (fun _ => False) w w9) := HG.out.2.2.2.trans HP.out.touch0
          clear hpa hpb hshort hta htb hview hT hB9 hK9 hs9 hs9' hoB HP HX HA HB0 HHb hmem hlen
          go_wp2_with fail
          refine (HV1.out _ (Touch.refl _ _)).mono ?_
          rintro e w10 ⟨v1, rfl, t10, hc1⟩
          have HT10 : Hid (Touch (fun _ => False) w9 w10) := t10
          have HC1 : Hid (Calls Try.prog 12 #[v1] w10 fun e w'' => e = .returned (.string T) ∧ Touch (fun _ => False) w10 w'') := hc1
          clear t10 hc1 HV1
          go_wp2_with fail
          refine HC1.out.mono ?_
          rintro e w11 ⟨rfl, t11⟩
          have HT11 : Hid (Touch (fun _ => False) w9 w11) := HT10.out.trans t11
          clear t11 HC1 HT10
          go_wp2_with fail
          refine (HV2.out _ HT11.out).mono ?_
          rintro e w12 ⟨v2, rfl, t12, hc2⟩
          have HT12 : Hid (Touch (fun _ => False) w9 w12) := HT11.out.trans t12
          have HC2 : Hid (Calls Try.prog 12 #[v2] w12 fun e w'' => e = .returned (.string T) ∧ Touch (fun _ => False) w12 w'') := hc2
          clear t12 hc2 HV2 HT11
          go_wp2_with fail
          refine HC2.out.mono ?_
          rintro e w13 ⟨rfl, t13⟩
          have HT13 : Hid (Touch (fun _ => False) w w13) := HW9.out.trans (HT12.out.trans t13)
          clear t13 HC2 HT12
          go_wp2_with fail
          go_ret
          exact ⟨by simp, HT13.out⟩
        · have l1 : (0 : Int) < (LF.length : Int) := by omega
          have l1b : 0 < LF.length := by omega
          have hne : ¬ LF = [] := by intro e; rw [e] at h0; exact h0 rfl
          have m1 : ((LF.length : Int) == 0) = false := by rw [beq_eq_false_iff_ne]; omega
          have HJ0 : Hid (∃ j0 : Nat, j0 < LF.length ∧ ((j0 = 0 ∧ ¬ i2 < m) ∨ ∃ (hi : i2 < ys.length), j0 = (ys[i2]).toNat % LF.length)) := by
            by_cases hm : i2 < m
            · have hm2 : i2 < ys.length := by have := HY.out.2.2.1; omega
              exact ⟨_, Nat.mod_lt _ (by omega), .inr ⟨hm2, rfl⟩⟩
            · exact ⟨0, by omega, .inl ⟨rfl, hm⟩⟩
          obtain ⟨j0, hj0, hc⟩ := HJ0.out
          clear HJ0
          have Hgk : Hid (LF.length = gk ∧ i2 + gk = G.length) := ⟨hgk, hig2⟩
          clear hgk hig2
          rcases hc with ⟨hj00, hm⟩ | ⟨hm, hjq⟩
          · have l2 : ¬ (i2 : Int) < (m : Int) := by omega
            subst hj00
            go_wp2_with fail
            obtain ⟨wx, hwx⟩ : ∃ W, W = wr := ⟨_, rfl⟩
            subst hwx
            go_loopg [13] ((LF.length - 0) % LF.length) (fun gk s13 wi => ∃ j : Nat, j < LF.length ∧ s13 = .int .i64 (j : Int) ∧ gk = (LF.length - j) % LF.length ∧ Hid (Touch (fun _ => False) wx wi))
            case atStart => exact ⟨0, hj0, rfl, rfl, Touch.refl _ _⟩
            case round =>
              obtain ⟨j, hj, rfl, hgj, HTi⟩ := hrel
              obtain ⟨b, o, cq, heq, -, -, hrow⟩ := (HX.out.2.2.2.2.1.touch HTi.out).row hne
              simp only [Value.slice.injEq] at heq
              obtain ⟨rfl, -, rfl⟩ := heq
              obtain ⟨x, hx⟩ : ∃ x, Hid (x = LF[j]'hj) := ⟨LF[j]'hj, Eq.refl _⟩
              have hrg := hrow j hj
              rw [← hx.out] at hrg
              have HRg : Hid (wr.rangeAt b (o + j * 22) x.vals.toList) := hrg
              have hxG : x ∈ G := by rw [hx.out]; exact (HX.out.1.mem _).2 (.inr (List.getElem_mem _))
              have hone : Hid (x.fits ∧ x.kind = 4 ∧ numOk x.c = true ∧ numOk x.k = true ∧ x.ky.size = 1 ∧ ShortO x) := HG.out.2.1.one hxG
              obtain ⟨bi, hbi⟩ : ∃ bi, Hid (bi = isS sB x.pc x.pk) := ⟨_, Eq.refl _⟩
              have HIs : Hid (Calls Try.prog 11 #[.pointer (some ⟨gb, 0, none⟩), .agg #[.int .u64 x.pc, .int .u64 x.pk]] wr fun e w' => e = .returned (.bool bi) ∧ Touch (fun _ => False) wr w') := by
                rw [hbi.out]
                exact lv_is (HX.out.2.2.2.2.2.1.on HTi.out) hone.out.1.upc hone.out.1.upk
              have a0 : (0 : Int) ≤ (j : Int) := by omega
              have a1 : (j : Int) < (LF.length : Int) := by omega
              obtain ⟨j1, hj1⟩ : ∃ j1, j1 = j + 1 := ⟨_, rfl⟩
              have q1 : IntKind.i64.wrap ((j : Int) + 1) = (j1 : Int) := by rw [IntKind.wrap_i64]; omega
              clear hrow hrg hxG
              go_upto_region 20 with fail
              refine wp_region_lit ?_
              iterate 5 (refine wpList_plain rfl fun K hK => ?_; go_simp; refine hK _ _ ?_; clear hK K)
              refine wpList_load_mid rfl 34 (.tmp 72) rfl b (o + j * 22 + 14) rfl [.int .u64 x.pc, .int .u64 x.pk] _ (rng_par HRg.out) Try.underlying34 rfl (by kernel_rfl) ?_
              simp only [Act.put, List.setIfInBounds_toArray, List.set_cons_succ, List.set_cons_zero]
              refine wpList_plain rfl fun K hK => ?_
              go_simp
              refine HIs.out.mono ?_
              rintro e wi ⟨rfl, ti⟩
              refine hK _ _ ?_
              clear hK K
              have HTi2 : Hid (Touch (fun _ => False) wx wi ∧ Touch (fun _ => False) wr wi) := ⟨HTi.out.trans ti, ti⟩
              clear ti HIs
              cases bi with
              | false =>
                have hj00 : j ≠ 0 := by
                  intro e
                  subst e
                  have := HX.out.1.first HG.out.2.1 HX.out.2.2.2.2.2.1.hasL hj
                  rw [← hx.out, ← hbi.out] at this
                  cases this
                obtain ⟨j2, hj2⟩ : ∃ j2, j2 = j1 % LF.length := ⟨_, rfl⟩
                have hj2l : j2 < LF.length := by rw [hj2]; exact Nat.mod_lt _ (by omega)
                have q2 : Int.tmod (j1 : Int) (LF.length : Int) = (j2 : Int) := by
                  rw [Int.tmod_eq_emod_of_nonneg (by omega), hj2]; simp
                have q3 : IntKind.i64.wrap (j2 : Int) = (j2 : Int) := by rw [IntKind.wrap_i64]; omega
                have Hms : Hid ((LF.length - j2) % LF.length < (LF.length - j) % LF.length) := by
                  have e1 : (LF.length - j) % LF.length = LF.length - j := Nat.mod_eq_of_lt (by omega)
                  show _ < _
                  rw [e1]
                  by_cases hw : j1 = LF.length
                  · have : j2 = 0 := by rw [hj2, hw]; exact Nat.mod_self _
                    rw [this, Nat.sub_zero, Nat.mod_self]; omega
                  · have : j2 = j1 := by rw [hj2]; exact Nat.mod_eq_of_lt (by omega)
                    rw [this, Nat.mod_eq_of_lt (by omega)]; omega
                have Hj2 : Hid (j2 < LF.length) := hj2l
                clear hj2 hj2l hj1 hbi
                go_wp2_with fail
                go_roundg ((LF.length - j2) % LF.length)
                case measure => first | exact Hms.out | (rw [hgj]; exact Hms.out)
                case rel => exact ⟨j2, Hj2.out, rfl, rfl, HTi2.out.1⟩
              | true =>
                have hokx : okS sB x = true := by
                  have := HX.out.1.ok HG.out.2.1 HX.out.2.2.2.2.2.1.hasL hj (by rw [← hx.out, ← hbi.out])
                  rw [← hx.out] at this; exact this
                have HSet : Hid (Calls Try.prog 10 #[.pointer (some ⟨gb, 0, none⟩), .agg x.vals] wi fun e w' => e = .returned (.bool true) ∧ Lv w2 KM w' gb (setS sB x) (LB ++ [x]) ∧ Kept KM wi w' ∧ wi.heap.size ≤ w'.heap.size) := lv_set2 (HX.out.2.2.2.2.2.1.on HTi2.out.1) x hone.out.1 (by rw [hone.out.2.2.2.2.1]; decide) (by have := HX.out.1.len; omega) hokx
                have HRg2 : Hid (wi.rangeAt b (o + j * 22) x.vals.toList) := fun jj v hv => by
                  have := HRg.out jj v hv
                  rw [World.cell?_of_block (HTi2.out.2.block b (World.block_lt_of_cell? _ _ this) id)]; exact this
                clear hokx HRg hbi
                go_upto_region 22 with fail
                refine wp_region_lit ?_
                iterate 4 (refine wpList_plain rfl fun K hK => ?_; go_simp; refine hK _ _ ?_; clear hK K)
                refine wpList_load_mid rfl 41 (.tmp 84) rfl b (o + j * 22) rfl x.vals.toList _ HRg2.out Try.underlying41 rfl (by kernel_rfl) ?_
                simp only [Act.put, List.setIfInBounds_toArray, List.set_cons_succ, List.set_cons_zero]
                refine wpList_plain rfl fun K hK => ?_
                go_simp
                refine HSet.out.mono ?_
                rintro e w8 ⟨rfl, hl8, hk8, hs8⟩
                refine hK _ _ ?_
                clear hK
                have HL8 : Hid (Lv w2 KM w8 gb (setS sB x) (LB ++ [x]) ∧ Kept KM wi w8 ∧ wi.heap.size ≤ w8.heap.size) := ⟨hl8, hk8, hs8⟩
                clear hl8 hk8 hs8 HSet HRg2
                generalize Value.agg x.vals = vx
                obtain ⟨V9, hV9⟩ : ∃ V9, Hid (V9 = w8.drew) := ⟨_, Eq.refl _⟩
                have t89 : Touch (fun _ => False) w8 V9 := by rw [hV9.out]; exact (Touch.refl _ _).drew
                have hslV := (((HX.out.2.2.2.2.1.touch HTi2.out.1).kept HL8.out.2.1 HX.out.2.2.2.2.2.2.2).touch t89)
                obtain ⟨a2, hs1, hs2, va, Wa, vb, Wb, hruna, hrunb, hNb⟩ := left_cut hslV hlf40 hj
                rw [← hj1] at hs2 hrunb hNb
                obtain ⟨LF2, hLF2⟩ : ∃ l, Hid (l = LF.take j ++ LF.drop j1) := ⟨_, Eq.refl _⟩
                rw [← hLF2.out] at hNb
                obtain ⟨aB, cB, hvb, -⟩ := hNb.shape
                have HNew : Hid (AnyInv G (LB ++ [x]) LF2 ∧ (setS sB x).hid = [] ∧ Kept KB wA Wb ∧ wA.heap.size ≤ Wb.heap.size ∧ SlP Wb (.slice aB LF2.length cB) LF2 ∧ ∃ K : Nat → Prop, Lv w2 K Wb gb (setS sB x) (LB ++ [x]) ∧ (∀ k, KB k → K k) ∧ ∀ k, (Value.slice aB LF2.length cB).ownBlock = some k → K k) := by
                  have h1 := HX.out.1.step hj
                  rw [← hx.out, ← hj1, ← hLF2.out] at h1
                  have k1 := HX.out.2.2.2.2.2.1.kept HTi2.out.1
                  have k3 := HL8.out.1.kept (t89.trans hNb.touch)
                  have kk := (k1.trans HL8.out.2.1).trans k3
                  have z1 := HTi2.out.1.size
                  have z2 := (t89.trans hNb.touch).size
                  have z3 := HL8.out.2.2
                  have z4 := HX.out.2.2.2.1
                  rw [← hvb]
                  exact ⟨h1, by rw [hid_set]; exact HX.out.2.1, HX.out.2.2.1.trans fun k hk => kk k (HX.out.2.2.2.2.2.2.1 k hk), by omega, hNb.sl, _, (HL8.out.1.on t89).boxes hNb.touch, fun k hk => .inl (HX.out.2.2.2.2.2.2.1 k hk), fun k hk => .inr ⟨hNb.fresh k hk, (hNb.owns.lt k hk).2⟩⟩
                have Hlen2 : Hid (LF2.length + 1 = LF.length) := by
                  rw [Hid, hLF2.out]
                  simp only [List.length_append, List.length_take, List.length_drop]
                  omega
                subst hvb
                obtain ⟨n2, hn2⟩ : ∃ n2, n2 = LF.length - j1 := ⟨_, rfl⟩
                obtain ⟨c2, hc2⟩ : ∃ c2, c2 = lc - j1 := ⟨_, rfl⟩
                rw [← hn2, ← hc2] at hs2 hrunb
                have w1' : IntKind.i64.wrap ((i2 : Int) + 1) = ((i2 + 1 : Nat) : Int) := by have := Hgk.out; rw [IntKind.wrap_i64]; omega
                clear hn2 hc2 hNb hLF2 hslV t89 HL8 HTi HTi2 hx hone hgj hj1
                go_upto_region 24 with fail
                refine wp_region_held_drew (S := fun _ => True) (by kernel_rfl) trivial (fun hHeld => ?_)
                rw [← hV9.out]
                clear hV9
                refine wpAnyH_take (i := 0) (oi := { dst := some 88, op := Go.Op.move (Go.Operand.tmp 11), type := 26, pos := "law.go:152", after := #[], guard := none }) (v := .slice (some ⟨b, o, none⟩) LF.length lc) rfl (by kernel_rfl) (by kernel_rfl) (by kernel_rfl) (fun _ _ _ h => h) (Or.inl ⟨by kernel_rfl, ?_⟩) hHeld ?_
                · intro V1 hV1; clear hV1; go_simp
                simp only [Act.put, List.setIfInBounds_toArray, List.set_cons_succ, List.set_cons_zero]
                refine wpAnyH_take (i := 1) (oi := { dst := some 89, op := Go.Op.move (Go.Operand.tmp 13), type := 3, pos := "law.go:152", after := #[], guard := none }) (v := .int .i64 (j : Int)) rfl (by kernel_rfl) (by kernel_rfl) (by kernel_rfl) (fun _ _ _ h => h) (Or.inl ⟨by kernel_rfl, ?_⟩) hHeld ?_
                · intro V1 hV1; clear hV1; go_simp
                simp only [Act.put, List.setIfInBounds_toArray, List.set_cons_succ, List.set_cons_zero]
                refine wpAnyH_take (i := 4) (oi := { dst := some 92, op := Go.Op.move (Go.Operand.tmp 11), type := 26, pos := "law.go:152", after := #[], guard := none }) (v := .slice (some ⟨b, o, none⟩) LF.length lc) rfl (by kernel_rfl) (by kernel_rfl) (by kernel_rfl) (fun _ _ _ h => h) (Or.inl ⟨by kernel_rfl, ?_⟩) hHeld ?_
                · intro V1 hV1; clear hV1; go_simp
                simp only [Act.put, List.setIfInBounds_toArray, List.set_cons_succ, List.set_cons_zero]
                refine wpAnyH_take (i := 5) (oi := { dst := some 93, op := Go.Op.move (Go.Operand.tmp 13), type := 3, pos := "law.go:152", after := #[], guard := none }) (v := .int .i64 (j : Int)) rfl (by kernel_rfl) (by kernel_rfl) (by kernel_rfl) (fun _ _ _ h => h) (Or.inl ⟨by kernel_rfl, ?_⟩) hHeld ?_
                · intro V1 hV1; clear hV1; go_simp
                simp only [Act.put, List.setIfInBounds_toArray, List.set_cons_succ, List.set_cons_zero]
                refine wpAnyH_take (i := 6) (oi := { dst := some 94, op := Go.Op.binOp Go.BinOp.add 3 (Go.Operand.tmp 93) (Go.Operand.const (Go.Value.int Go.IntKind.i64 1)) 3, type := 3, pos := "law.go:152", after := #[{ on := 5, ground := Go.Ground.data }], guard := none }) (v := .int .i64 (j1 : Int)) rfl (by kernel_rfl) (by kernel_rfl) (by kernel_rfl) (fun _ _ _ h => h) (Or.inl ⟨by kernel_rfl, ?_⟩) hHeld ?_
                · intro V1 hV1; clear hV1; go_simp
                simp only [Act.put, List.setIfInBounds_toArray, List.set_cons_succ, List.set_cons_zero]
                refine wpAnyH_take (i := 2) (oi := { dst := some 90, op := Go.Op.slice 26 (Go.Operand.tmp 88) none (some (Go.Operand.tmp 89)) none, type := 26, pos := "law.go:152", after := #[{ on := 0, ground := Go.Ground.data }, { on := 1, ground := Go.Ground.data }], guard := none }) (v := .slice (some ⟨b, o, none⟩) j lc) rfl (by kernel_rfl) (by kernel_rfl) (by kernel_rfl) (fun _ _ _ h => h) (Or.inl ⟨by kernel_rfl, ?_⟩) hHeld ?_
                · intro V1 hV1; clear hV1; go_simp
                simp only [Act.put, List.setIfInBounds_toArray, List.set_cons_succ, List.set_cons_zero]
                refine wpAnyH_take (i := 7) (oi := { dst := some 95, op := Go.Op.slice 26 (Go.Operand.tmp 92) (some (Go.Operand.tmp 94)) none none, type := 26, pos := "law.go:152", after := #[{ on := 4, ground := Go.Ground.data }, { on := 6, ground := Go.Ground.data }], guard := none }) (v := .slice a2 n2 c2) rfl (by kernel_rfl) (by kernel_rfl) (by kernel_rfl) (fun _ _ _ h => h) (Or.inl ⟨by kernel_rfl, ?_⟩) hHeld ?_
                · intro V1 hV1; clear hV1; go_simp
                simp only [Act.put, List.setIfInBounds_toArray, List.set_cons_succ, List.set_cons_zero]
                refine wpAnyH_ready (rs := [3]) (by kernel_rfl) (by simp) ?_
                refine AllReadyH.cons (o := { dst := some 91, op := Go.Op.call { callee := Go.Callee.builtin Go.Builtin.append, args := #[Go.Operand.const (Go.Value.slice none 0 0), Go.Operand.tmp 90], argTypes := #[26, 26] }, type := 26, pos := "law.go:152", after := #[{ on := 2, ground := Go.Ground.data }], guard := none }) rfl (fun K hK => ?_) AllReadyH.nil
                try rw [if_pos (by kernel_rfl)]
                unfold Oper.wp
                simp [execOp, resolve, invoke, builtin, hruna, Result.andThen, Act.eval]
                refine hK.out _ _ trivial (fun hHeld => ?_)
                clear hK K
                simp only [Act.put, List.setIfInBounds_toArray, List.set_cons_succ, List.set_cons_zero]
                refine wpAnyH_ready (rs := [8]) (by kernel_rfl) (by simp) ?_
                refine AllReadyH.cons (o := { dst := some 96, op := Go.Op.call { callee := Go.Callee.builtin Go.Builtin.append, args := #[Go.Operand.tmp 91, Go.Operand.tmp 95], argTypes := #[26, 26] }, type := 26, pos := "law.go:152", after := #[{ on := 3, ground := Go.Ground.data }, { on := 7, ground := Go.Ground.data }, { on := 3, ground := Go.Ground.chain }], guard := none }) rfl (fun K hK => ?_) AllReadyH.nil
                try rw [if_pos (by kernel_rfl)]
                unfold Oper.wp
                simp [execOp, resolve, invoke, builtin, hrunb, Result.andThen, Act.eval]
                refine hK.out _ _ trivial (fun hHeld => ?_)
                clear hK K
                simp only [Act.put, List.setIfInBounds_toArray, List.set_cons_succ, List.set_cons_zero]
                refine wpAnyH_take (i := 9) (oi := { dst := some 11, op := Go.Op.assign (Go.Operand.tmp 96), type := 26, pos := "law.go:152", after := #[{ on := 8, ground := Go.Ground.data }, { on := 8, ground := Go.Ground.chain }, { on := 0, ground := Go.Ground.phase }, { on := 1, ground := Go.Ground.phase }, { on := 2, ground := Go.Ground.phase }, { on := 3, ground := Go.Ground.phase }, { on := 4, ground := Go.Ground.phase }, { on := 5, ground := Go.Ground.phase }, { on := 6, ground := Go.Ground.phase }, { on := 7, ground := Go.Ground.phase }, { on := 8, ground := Go.Ground.phase }], guard := none }) (v := .slice aB LF2.length cB) rfl (by kernel_rfl) (by kernel_rfl) (by kernel_rfl) (fun _ _ _ h => h) (Or.inl ⟨by kernel_rfl, ?_⟩) hHeld ?_
                · intro V1 hV1; clear hV1; go_simp
                simp only [Act.put, List.setIfInBounds_toArray, List.set_cons_succ, List.set_cons_zero]
                refine wpAnyH_done (by kernel_rfl) ?_ _
                try simp only [List.getElem_toArray, List.getElem_cons_succ, List.getElem_cons_zero, List.setIfInBounds_toArray, List.set_cons_succ, List.set_cons_zero]
                clear hHeld
                go_wp2_with fail
                go_roundg LF2.length
                case measure => have := Hlen2.out; have := Hgk.out; omega
                case rel => exact ⟨i2 + 1, LB ++ [x], LF2, setS sB x, aB, cB, rfl, rfl, rfl, by have := Hlen2.out; have := Hgk.out; omega, HNew.out⟩
          · obtain ⟨sb, so, rfl, hyc⟩ := HY.out.1.at hm
            obtain ⟨y, hy⟩ : ∃ y, y = ys[i2]'hm := ⟨_, rfl⟩
            have hy2 := HY.out.2.1 y (by rw [hy]; exact List.getElem_mem _)
            rw [← hy] at hyc hjq
            have y0 := hyc wr (HG.out.2.2.2.trans HX.out.2.2.2.2.2.1.touch0)
            have l2 : (i2 : Int) < (m : Int) := by have := HY.out.2.2.1; omega
            have l3 : (0 : Int) ≤ (i2 : Int) := by omega
            have x1 : IntKind.i64.wrap y = y := by rw [IntKind.wrap_i64]; omega
            have x2 : Int.tmod y (LF.length : Int) = (j0 : Int) := by
              rw [Int.tmod_eq_emod_of_nonneg hy2.1, hjq]
              have : y = (y.toNat : Int) := by omega
              rw [this]; simp
            have x3 : IntKind.i64.wrap (j0 : Int) = (j0 : Int) := by rw [IntKind.wrap_i64]; omega
            clear hyc hy hjq
            go_wp2_with fail
            clear y0 x1 x2 x3
            obtain ⟨wx, hwx⟩ : ∃ W, W = wr := ⟨_, rfl⟩
            subst hwx
            go_loopg [13] ((LF.length - j0) % LF.length) (fun gk s13 wi => ∃ j : Nat, j < LF.length ∧ s13 = .int .i64 (j : Int) ∧ gk = (LF.length - j) % LF.length ∧ Hid (Touch (fun _ => False) wx wi))
            case atStart => exact ⟨j0, hj0, rfl, rfl, Touch.refl _ _⟩
            case round =>
              obtain ⟨j, hj, rfl, hgj, HTi⟩ := hrel
              obtain ⟨b, o, cq, heq, -, -, hrow⟩ := (HX.out.2.2.2.2.1.touch HTi.out).row hne
              simp only [Value.slice.injEq] at heq
              obtain ⟨rfl, -, rfl⟩ := heq
              obtain ⟨x, hx⟩ : ∃ x, Hid (x = LF[j]'hj) := ⟨LF[j]'hj, Eq.refl _⟩
              have hrg := hrow j hj
              rw [← hx.out] at hrg
              have HRg : Hid (wr.rangeAt b (o + j * 22) x.vals.toList) := hrg
              have hxG : x ∈ G := by rw [hx.out]; exact (HX.out.1.mem _).2 (.inr (List.getElem_mem _))
              have hone : Hid (x.fits ∧ x.kind = 4 ∧ numOk x.c = true ∧ numOk x.k = true ∧ x.ky.size = 1 ∧ ShortO x) := HG.out.2.1.one hxG
              obtain ⟨bi, hbi⟩ : ∃ bi, Hid (bi = isS sB x.pc x.pk) := ⟨_, Eq.refl _⟩
              have HIs : Hid (Calls Try.prog 11 #[.pointer (some ⟨gb, 0, none⟩), .agg #[.int .u64 x.pc, .int .u64 x.pk]] wr fun e w' => e = .returned (.bool bi) ∧ Touch (fun _ => False) wr w') := by
                rw [hbi.out]
                exact lv_is (HX.out.2.2.2.2.2.1.on HTi.out) hone.out.1.upc hone.out.1.upk
              have a0 : (0 : Int) ≤ (j : Int) := by omega
              have a1 : (j : Int) < (LF.length : Int) := by omega
              obtain ⟨j1, hj1⟩ : ∃ j1, j1 = j + 1 := ⟨_, rfl⟩
              have q1 : IntKind.i64.wrap ((j : Int) + 1) = (j1 : Int) := by rw [IntKind.wrap_i64]; omega
              clear hrow hrg hxG
              go_upto_region 20 with fail
              refine wp_region_lit ?_
              iterate 5 (refine wpList_plain rfl fun K hK => ?_; go_simp; refine hK _ _ ?_; clear hK K)
              refine wpList_load_mid rfl 34 (.tmp 72) rfl b (o + j * 22 + 14) rfl [.int .u64 x.pc, .int .u64 x.pk] _ (rng_par HRg.out) Try.underlying34 rfl (by kernel_rfl) ?_
              simp only [Act.put, List.setIfInBounds_toArray, List.set_cons_succ, List.set_cons_zero]
              refine wpList_plain rfl fun K hK => ?_
              go_simp
              refine HIs.out.mono ?_
              rintro e wi ⟨rfl, ti⟩
              refine hK _ _ ?_
              clear hK K
              have HTi2 : Hid (Touch (fun _ => False) wx wi ∧ Touch (fun _ => False) wr wi) := ⟨HTi.out.trans ti, ti⟩
              clear ti HIs
              cases bi with
              | false =>
                have hj00 : j ≠ 0 := by
                  intro e
                  subst e
                  have := HX.out.1.first HG.out.2.1 HX.out.2.2.2.2.2.1.hasL hj
                  rw [← hx.out, ← hbi.out] at this
                  cases this
                obtain ⟨j2, hj2⟩ : ∃ j2, j2 = j1 % LF.length := ⟨_, rfl⟩
                have hj2l : j2 < LF.length := by rw [hj2]; exact Nat.mod_lt _ (by omega)
                have q2 : Int.tmod (j1 : Int) (LF.length : Int) = (j2 : Int) := by
                  rw [Int.tmod_eq_emod_of_nonneg (by omega), hj2]; simp
                have q3 : IntKind.i64.wrap (j2 : Int) = (j2 : Int) := by rw [IntKind.wrap_i64]; omega
                have Hms : Hid ((LF.length - j2) % LF.length < (LF.length - j) % LF.length) := by
                  have e1 : (LF.length - j) % LF.length = LF.length - j := Nat.mod_eq_of_lt (by omega)
                  show _ < _
                  rw [e1]
                  by_cases hw : j1 = LF.length
                  · have : j2 = 0 := by rw [hj2, hw]; exact Nat.mod_self _
                    rw [this, Nat.sub_zero, Nat.mod_self]; omega
                  · have : j2 = j1 := by rw [hj2]; exact Nat.mod_eq_of_lt (by omega)
                    rw [this, Nat.mod_eq_of_lt (by omega)]; omega
                have Hj2 : Hid (j2 < LF.length) := hj2l
                clear hj2 hj2l hj1 hbi
                go_wp2_with fail
                go_roundg ((LF.length - j2) % LF.length)
                case measure => first | exact Hms.out | (rw [hgj]; exact Hms.out)
                case rel => exact ⟨j2, Hj2.out, rfl, rfl, HTi2.out.1⟩
              | true =>
                have hokx : okS sB x = true := by
                  have := HX.out.1.ok HG.out.2.1 HX.out.2.2.2.2.2.1.hasL hj (by rw [← hx.out, ← hbi.out])
                  rw [← hx.out] at this; exact this
                have HSet : Hid (Calls Try.prog 10 #[.pointer (some ⟨gb, 0, none⟩), .agg x.vals] wi fun e w' => e = .returned (.bool true) ∧ Lv w2 KM w' gb (setS sB x) (LB ++ [x]) ∧ Kept KM wi w' ∧ wi.heap.size ≤ w'.heap.size) := lv_set2 (HX.out.2.2.2.2.2.1.on HTi2.out.1) x hone.out.1 (by rw [hone.out.2.2.2.2.1]; decide) (by have := HX.out.1.len; omega) hokx
                have HRg2 : Hid (wi.rangeAt b (o + j * 22) x.vals.toList) := fun jj v hv => by
                  have := HRg.out jj v hv
                  rw [World.cell?_of_block (HTi2.out.2.block b (World.block_lt_of_cell? _ _ this) id)]; exact this
                clear hokx HRg hbi
                go_upto_region 22 with fail
                refine wp_region_lit ?_
                iterate 4 (refine wpList_plain rfl fun K hK => ?_; go_simp; refine hK _ _ ?_; clear hK K)
                refine wpList_load_mid rfl 41 (.tmp 84) rfl b (o + j * 22) rfl x.vals.toList _ HRg2.out Try.underlying41 rfl (by kernel_rfl) ?_
                simp only [Act.put, List.setIfInBounds_toArray, List.set_cons_succ, List.set_cons_zero]
                refine wpList_plain rfl fun K hK => ?_
                go_simp
                refine HSet.out.mono ?_
                rintro e w8 ⟨rfl, hl8, hk8, hs8⟩
                refine hK _ _ ?_
                clear hK
                have HL8 : Hid (Lv w2 KM w8 gb (setS sB x) (LB ++ [x]) ∧ Kept KM wi w8 ∧ wi.heap.size ≤ w8.heap.size) := ⟨hl8, hk8, hs8⟩
                clear hl8 hk8 hs8 HSet HRg2
                generalize Value.agg x.vals = vx
                obtain ⟨V9, hV9⟩ : ∃ V9, Hid (V9 = w8.drew) := ⟨_, Eq.refl _⟩
                have t89 : Touch (fun _ => False) w8 V9 := by rw [hV9.out]; exact (Touch.refl _ _).drew
                have hslV := (((HX.out.2.2.2.2.1.touch HTi2.out.1).kept HL8.out.2.1 HX.out.2.2.2.2.2.2.2).touch t89)
                obtain ⟨a2, hs1, hs2, va, Wa, vb, Wb, hruna, hrunb, hNb⟩ := left_cut hslV hlf40 hj
                rw [← hj1] at hs2 hrunb hNb
                obtain ⟨LF2, hLF2⟩ : ∃ l, Hid (l = LF.take j ++ LF.drop j1) := ⟨_, Eq.refl _⟩
                rw [← hLF2.out] at hNb
                obtain ⟨aB, cB, hvb, -⟩ := hNb.shape
                have HNew : Hid (AnyInv G (LB ++ [x]) LF2 ∧ (setS sB x).hid = [] ∧ Kept KB wA Wb ∧ wA.heap.size ≤ Wb.heap.size ∧ SlP Wb (.slice aB LF2.length cB) LF2 ∧ ∃ K : Nat → Prop, Lv w2 K Wb gb (setS sB x) (LB ++ [x]) ∧ (∀ k, KB k → K k) ∧ ∀ k, (Value.slice aB LF2.length cB).ownBlock = some k → K k) := by
                  have h1 := HX.out.1.step hj
                  rw [← hx.out, ← hj1, ← hLF2.out] at h1
                  have k1 := HX.out.2.2.2.2.2.1.kept HTi2.out.1
                  have k3 := HL8.out.1.kept (t89.trans hNb.touch)
                  have kk := (k1.trans HL8.out.2.1).trans k3
                  have z1 := HTi2.out.1.size
                  have z2 := (t89.trans hNb.touch).size
                  have z3 := HL8.out.2.2
                  have z4 := HX.out.2.2.2.1
                  rw [← hvb]
                  exact ⟨h1, by rw [hid_set]; exact HX.out.2.1, HX.out.2.2.1.trans fun k hk => kk k (HX.out.2.2.2.2.2.2.1 k hk), by omega, hNb.sl, _, (HL8.out.1.on t89).boxes hNb.touch, fun k hk => .inl (HX.out.2.2.2.2.2.2.1 k hk), fun k hk => .inr ⟨hNb.fresh k hk, (hNb.owns.lt k hk).2⟩⟩
                have Hlen2 : Hid (LF2.length + 1 = LF.length) := by
                  rw [Hid, hLF2.out]
                  simp only [List.length_append, List.length_take, List.length_drop]
                  omega
                subst hvb
                obtain ⟨n2, hn2⟩ : ∃ n2, n2 = LF.length - j1 := ⟨_, rfl⟩
                obtain ⟨c2, hc2⟩ : ∃ c2, c2 = lc - j1 := ⟨_, rfl⟩
                rw [← hn2, ← hc2] at hs2 hrunb
                have w1' : IntKind.i64.wrap ((i2 : Int) + 1) = ((i2 + 1 : Nat) : Int) := by have := Hgk.out; rw [IntKind.wrap_i64]; omega
                clear hn2 hc2 hNb hLF2 hslV t89 HL8 HTi HTi2 hx hone hgj hj1
                go_upto_region 24 with fail
                refine wp_region_held_drew (S := fun _ => True) (by kernel_rfl) trivial (fun hHeld => ?_)
                rw [← hV9.out]
                clear hV9
                refine wpAnyH_take (i := 0) (oi := { dst := some 88, op := Go.Op.move (Go.Operand.tmp 11), type := 26, pos := "law.go:152", after := #[], guard := none }) (v := .slice (some ⟨b, o, none⟩) LF.length lc) rfl (by kernel_rfl) (by kernel_rfl) (by kernel_rfl) (fun _ _ _ h => h) (Or.inl ⟨by kernel_rfl, ?_⟩) hHeld ?_
                · intro V1 hV1; clear hV1; go_simp
                simp only [Act.put, List.setIfInBounds_toArray, List.set_cons_succ, List.set_cons_zero]
                refine wpAnyH_take (i := 1) (oi := { dst := some 89, op := Go.Op.move (Go.Operand.tmp 13), type := 3, pos := "law.go:152", after := #[], guard := none }) (v := .int .i64 (j : Int)) rfl (by kernel_rfl) (by kernel_rfl) (by kernel_rfl) (fun _ _ _ h => h) (Or.inl ⟨by kernel_rfl, ?_⟩) hHeld ?_
                · intro V1 hV1; clear hV1; go_simp
                simp only [Act.put, List.setIfInBounds_toArray, List.set_cons_succ, List.set_cons_zero]
                refine wpAnyH_take (i := 4) (oi := { dst := some 92, op := Go.Op.move (Go.Operand.tmp 11), type := 26, pos := "law.go:152", after := #[], guard := none }) (v := .slice (some ⟨b, o, none⟩) LF.length lc) rfl (by kernel_rfl) (by kernel_rfl) (by kernel_rfl) (fun _ _ _ h => h) (Or.inl ⟨by kernel_rfl, ?_⟩) hHeld ?_
                · intro V1 hV1; clear hV1; go_simp
                simp only [Act.put, List.setIfInBounds_toArray, List.set_cons_succ, List.set_cons_zero]
                refine wpAnyH_take (i := 5) (oi := { dst := some 93, op := Go.Op.move (Go.Operand.tmp 13), type := 3, pos := "law.go:152", after := #[], guard := none }) (v := .int .i64 (j : Int)) rfl (by kernel_rfl) (by kernel_rfl) (by kernel_rfl) (fun _ _ _ h => h) (Or.inl ⟨by kernel_rfl, ?_⟩) hHeld ?_
                · intro V1 hV1; clear hV1; go_simp
                simp only [Act.put, List.setIfInBounds_toArray, List.set_cons_succ, List.set_cons_zero]
                refine wpAnyH_take (i := 6) (oi := { dst := some 94, op := Go.Op.binOp Go.BinOp.add 3 (Go.Operand.tmp 93) (Go.Operand.const (Go.Value.int Go.IntKind.i64 1)) 3, type := 3, pos := "law.go:152", after := #[{ on := 5, ground := Go.Ground.data }], guard := none }) (v := .int .i64 (j1 : Int)) rfl (by kernel_rfl) (by kernel_rfl) (by kernel_rfl) (fun _ _ _ h => h) (Or.inl ⟨by kernel_rfl, ?_⟩) hHeld ?_
                · intro V1 hV1; clear hV1; go_simp
                simp only [Act.put, List.setIfInBounds_toArray, List.set_cons_succ, List.set_cons_zero]
                refine wpAnyH_take (i := 2) (oi := { dst := some 90, op := Go.Op.slice 26 (Go.Operand.tmp 88) none (some (Go.Operand.tmp 89)) none, type := 26, pos := "law.go:152", after := #[{ on := 0, ground := Go.Ground.data }, { on := 1, ground := Go.Ground.data }], guard := none }) (v := .slice (some ⟨b, o, none⟩) j lc) rfl (by kernel_rfl) (by kernel_rfl) (by kernel_rfl) (fun _ _ _ h => h) (Or.inl ⟨by kernel_rfl, ?_⟩) hHeld ?_
                · intro V1 hV1; clear hV1; go_simp
                simp only [Act.put, List.setIfInBounds_toArray, List.set_cons_succ, List.set_cons_zero]
                refine wpAnyH_take (i := 7) (oi := { dst := some 95, op := Go.Op.slice 26 (Go.Operand.tmp 92) (some (Go.Operand.tmp 94)) none none, type := 26, pos := "law.go:152", after := #[{ on := 4, ground := Go.Ground.data }, { on := 6, ground := Go.Ground.data }], guard := none }) (v := .slice a2 n2 c2) rfl (by kernel_rfl) (by kernel_rfl) (by kernel_rfl) (fun _ _ _ h => h) (Or.inl ⟨by kernel_rfl, ?_⟩) hHeld ?_
                · intro V1 hV1; clear hV1; go_simp
                simp only [Act.put, List.setIfInBounds_toArray, List.set_cons_succ, List.set_cons_zero]
                refine wpAnyH_ready (rs := [3]) (by kernel_rfl) (by simp) ?_
                refine AllReadyH.cons (o := { dst := some 91, op := Go.Op.call { callee := Go.Callee.builtin Go.Builtin.append, args := #[Go.Operand.const (Go.Value.slice none 0 0), Go.Operand.tmp 90], argTypes := #[26, 26] }, type := 26, pos := "law.go:152", after := #[{ on := 2, ground := Go.Ground.data }], guard := none }) rfl (fun K hK => ?_) AllReadyH.nil
                try rw [if_pos (by kernel_rfl)]
                unfold Oper.wp
                simp [execOp, resolve, invoke, builtin, hruna, Result.andThen, Act.eval]
                refine hK.out _ _ trivial (fun hHeld => ?_)
                clear hK K
                simp only [Act.put, List.setIfInBounds_toArray, List.set_cons_succ, List.set_cons_zero]
                refine wpAnyH_ready (rs := [8]) (by kernel_rfl) (by simp) ?_
                refine AllReadyH.cons (o := { dst := some 96, op := Go.Op.call { callee := Go.Callee.builtin Go.Builtin.append, args := #[Go.Operand.tmp 91, Go.Operand.tmp 95], argTypes := #[26, 26] }, type := 26, pos := "law.go:152", after := #[{ on := 3, ground := Go.Ground.data }, { on := 7, ground := Go.Ground.data }, { on := 3, ground := Go.Ground.chain }], guard := none }) rfl (fun K hK => ?_) AllReadyH.nil
                try rw [if_pos (by kernel_rfl)]
                unfold Oper.wp
                simp [execOp, resolve, invoke, builtin, hrunb, Result.andThen, Act.eval]
                refine hK.out _ _ trivial (fun hHeld => ?_)
                clear hK K
                simp only [Act.put, List.setIfInBounds_toArray, List.set_cons_succ, List.set_cons_zero]
                refine wpAnyH_take (i := 9) (oi := { dst := some 11, op := Go.Op.assign (Go.Operand.tmp 96), type := 26, pos := "law.go:152", after := #[{ on := 8, ground := Go.Ground.data }, { on := 8, ground := Go.Ground.chain }, { on := 0, ground := Go.Ground.phase }, { on := 1, ground := Go.Ground.phase }, { on := 2, ground := Go.Ground.phase }, { on := 3, ground := Go.Ground.phase }, { on := 4, ground := Go.Ground.phase }, { on := 5, ground := Go.Ground.phase }, { on := 6, ground := Go.Ground.phase }, { on := 7, ground := Go.Ground.phase }, { on := 8, ground := Go.Ground.phase }], guard := none }) (v := .slice aB LF2.length cB) rfl (by kernel_rfl) (by kernel_rfl) (by kernel_rfl) (fun _ _ _ h => h) (Or.inl ⟨by kernel_rfl, ?_⟩) hHeld ?_
                · intro V1 hV1; clear hV1; go_simp
                simp only [Act.put, List.setIfInBounds_toArray, List.set_cons_succ, List.set_cons_zero]
                refine wpAnyH_done (by kernel_rfl) ?_ _
                try simp only [List.getElem_toArray, List.getElem_cons_succ, List.getElem_cons_zero, List.setIfInBounds_toArray, List.set_cons_succ, List.set_cons_zero]
                clear hHeld
                go_wp2_with fail
                go_roundg LF2.length
                case measure => have := Hlen2.out; have := Hgk.out; omega
                case rel => exact ⟨i2 + 1, LB ++ [x], LF2, setS sB x, aB, cB, rfl, rfl, rfl, by have := Hlen2.out; have := Hgk.out; omega, HNew.out⟩
end Go.Proofs.Ytegldlfbmaapiaa

/- Arguments that are slices of ranges. -/
namespace Go.Proofs.Ytegldlfbmaapiaa
open Go.ChangeShapes Go.WideShapes Go.ChangeAt Go.RowKit Go.Joins
set_option linter.unusedVariables false
set_option linter.unusedSimpArgs false
set_option maxRecDepth 100000
theorem cellsOfR : Try.prog.cellsOf 54 = 3 := by kernel_rfl
def u64in (x : Int) : Prop := 0 ≤ x ∧ x ≤ 18446744073709551615
set_option maxHeartbeats 1000000 in
theorem argId_of {H : Type} {enc : TypeId × Value → H} {w : World} {base b0 : Nat} {spare : Nat → Bool} {held : Bool} {v : Value} {d : DataW H} {p : List MemPlace}
    (hv : Value.okWide Try.prog w .any b0 34 v) (h : DataW.Trod enc Try.prog w base spare held 34 v d p) : ∃ c k, v = idV c k ∧ u64in c ∧ u64in k := by
  obtain ⟨v0, v1, y0, y1, m, rfl, rfl, rfl, h0, h1⟩ := open_agg2 Try.underlying34 (by kernel_rfl) (by kernel_rfl) hv h
  obtain ⟨k, e0, _, w0⟩ := DataW.trod_int Try.underlying32 h0
  obtain ⟨n, e1, _, w1⟩ := DataW.trod_int Try.underlying32 h1
  simp at e0 e1
  subst e0 e1
  simp [Lit.wf, IntKind.min, IntKind.max, IntKind.signed, IntKind.bits] at w0 w1
  exact ⟨k, n, rfl, by unfold u64in; omega, by unfold u64in; omega⟩
def fitsR (r : Rg) : Prop := u64in r.c ∧ u64in r.f ∧ u64in r.t
set_option maxHeartbeats 1000000 in
theorem argR_of {H : Type} {enc : TypeId × Value → H} {w : World} {held : Bool} {fuel : Nat} {cs : List Value} {x : DataW H × List MemPlace}
    (h : DataW.trod enc Try.prog w 0 (fun _ => true) held fuel 54 cs = some x) : ∃ r : Rg, cs = cellR r ∧ fitsR r := by
  obtain ⟨xs, n, _, hx, hl, hxl, hf⟩ := DataW.trod_struct Try.underlying54 h
  rw [cellsOfR] at hl
  match xs, hxl, cs, hl with
  | [y0, y1, y2], _, [v0, v1, v2], _ =>
    have g0 : DataW.trod enc Try.prog w 0 (fun _ => true) held n 32 [v0] = some y0 := hf 0 _ rfl
    have g1 : DataW.trod enc Try.prog w 0 (fun _ => true) held n 32 [v1] = some y1 := hf 1 _ rfl
    have g2 : DataW.trod enc Try.prog w 0 (fun _ => true) held n 32 [v2] = some y2 := hf 2 _ rfl
    obtain ⟨k0, e0, _, w0⟩ := DataW.trod_int Try.underlying32 g0
    obtain ⟨k1, e1, _, w1⟩ := DataW.trod_int Try.underlying32 g1
    obtain ⟨k2, e2, _, w2⟩ := DataW.trod_int Try.underlying32 g2
    simp at e0 e1 e2
    subst e0 e1 e2
    simp [Lit.wf, IntKind.min, IntKind.max, IntKind.signed, IntKind.bits] at w0 w1 w2
    exact ⟨⟨k0, k1, k2⟩, rfl, by unfold fitsR u64in; simp only; omega⟩
set_option maxHeartbeats 1000000 in
theorem argsR_of {H : Type} {enc : TypeId × Value → H} {w : World} {held : Bool} {fuel n cap : Nat} {ao : Option Addr} {x : DataW H × List MemPlace}
    (h : DataW.trod enc Try.prog w 0 (fun _ => true) held fuel 24 (Value.slice ao n cap).cells.toList = some x) :
    ∃ l : List Rg, n = l.length ∧ SlR w (.slice ao n cap) l ∧ ∀ r ∈ l, fitsR r := by
  rcases Deep.open_slice Try.underlying24 h with ⟨hcs, hx⟩ | ⟨a, len, c, m, k, D, Pl, hcs, _, hl, hm, hmm, hx, hel⟩
  · simp [Value.cells] at hcs
    obtain ⟨rfl, rfl, rfl⟩ := hcs
    exact ⟨[], rfl, SlR.nil w, (by intro x hx; cases hx)⟩
  · simp [Value.cells] at hcs
    obtain ⟨rfl, rfl, rfl⟩ := hcs
    simp only [if_true] at hmm
    have each : ∀ i, i < n → ∃ s : Rg, fitsR s ∧ ∀ j, j < 3 → w.cell? ((a.add (i * 3)).add j) = (cellR s)[j]? := by
      intro i hi
      obtain ⟨cs', h1, h2⟩ := hel i (by omega)
      rw [cellsOfR] at h1
      obtain ⟨_, _, hc⟩ := World.cells?_some h1
      obtain ⟨s, hs, hok⟩ := argR_of h2
      exact ⟨s, hok, fun j hj => by rw [hc j hj, hs]⟩
    obtain ⟨f, hf⟩ := Deep.choose_lt each
    have hcap : cap ≤ 9223372036854775807 := by unfold maxLen at hm; omega
    refine ⟨(List.range n).map f, by simp, ⟨some a, cap, by simp, (by intro h; cases h), by simpa using hl, hcap, ?_⟩, ?_⟩
    · by_cases hn : n = 0
      · subst hn; exact .inl rfl
      · have h0 : w.cell? ((a.add (0 * 3)).add 0) = some (.int .u64 (f 0).c) := (hf 0 (by omega)).2 0 (by decide)
        obtain ⟨b, off, rfl, _⟩ : ∃ b off, a = ⟨b, off, none⟩ ∧ True := by
          obtain ⟨b, off, spot⟩ := a
          cases spot with
          | none => exact ⟨b, off, rfl, trivial⟩
          | some s => exfalso; clear hf each hel h hx; simp [World.cell?, Addr.add] at h0; split at h0 <;> simp_all
        refine .inr ⟨b, off, rfl, fun t u hu => ?_⟩
        have hlt : t < n * 3 := by
          have := (List.getElem?_eq_some_iff.1 hu).1
          rw [cellsR_len] at this; simpa using this
        have hdv : t / 3 < n := by omega
        have h3 : t % 3 < 3 := Nat.mod_lt _ (by omega)
        have hc := (hf (t / 3) hdv).2 (t % 3) h3
        rw [addr_addR, addr_addR, Nat.add_assoc, show t / 3 * 3 + t % 3 = t from by omega] at hc
        rw [hc]
        obtain ⟨a0, a1, a2⟩ := cellsR_get ((List.range n).map f) (t / 3) (by simpa using hdv)
        simp only [List.getElem_map, List.getElem_range] at a0 a1 a2
        have hm2 : t = t / 3 * 3 + t % 3 := by omega
        rw [hm2] at hu
        generalize t / 3 = q at *
        generalize t % 3 = r at *
        rcases (by omega : r = 0 ∨ r = 1 ∨ r = 2) with rfl | rfl | rfl
        · rw [Nat.add_zero, a0] at hu; exact hu
        · rw [a1] at hu; exact hu
        · rw [a2] at hu; exact hu
    · intro y hy
      obtain ⟨i, hi, rfl⟩ := List.mem_map.1 hy
      exact (hf i (List.mem_range.1 hi)).1
end Go.Proofs.Ytegldlfbmaapiaa
