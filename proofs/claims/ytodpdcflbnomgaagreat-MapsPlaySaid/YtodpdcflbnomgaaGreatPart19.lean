/- Slices of operations, not of a named type: cut, grown. -/
import Derived.Test.YtodpdcflbnomgaaGreatPart2
import Derived.Test.YtodpdcflbnomgaaGreatPlF
namespace Go.Proofs.YtodpdcflbnomgaaGreat
open Go.RowKit Go.Maps
set_option linter.unusedVariables false
set_option linter.unusedSimpArgs false

theorem sliceO_from (vo : Option Addr) (n cap c : Nat) (h : c ≤ n) (W : World) : (Instr.slice 28 (.slice vo n cap) (some (.int .i64 (c : Int))) none none).run Tryz.prog W = .ok (.slice (if cap = c then vo else vo.map (·.add (c * 22))) (n - c) (cap - c)) W := by
  have h1 : (c : Int) ≤ (n : Int) := by omega
  have hu := Tryz.underlying28
  obtain ⟨i0, hi, hz0, hz1, hz2⟩ := info_parts infoP
  simp [Instr.slice, run_underlying hu, Instr.sliceBounds, run_sliceBound, h1, sizeOf, typeInfo, hi, hz1]
theorem sliceO_to (vo : Option Addr) (n cap c : Nat) (h : c ≤ cap) (W : World) : (Instr.slice 28 (.slice vo n cap) none (some (.int .i64 (c : Int))) none).run Tryz.prog W = .ok (.slice vo c cap) W := by
  have h1 : (c : Int) ≤ (cap : Int) := by omega
  have hu := Tryz.underlying28
  have ha : ∀ a : Addr, a.add 0 = a := fun a => by cases a; simp [Addr.add]
  obtain ⟨i0, hi, hz0, hz1, hz2⟩ := info_parts infoP
  simp [Instr.slice, run_underlying hu, Instr.sliceBounds, run_sliceBound, h1, sizeOf, typeInfo, hi, ha]

theorem run_appendO (w : World) (v : Value) (a : List O) (hown : w.ownsRow 0 41 22 v a.length (cellsP a)) (ao : Option Addr) (n cap : Nat) (b : List O) (hn : n = b.length) (hno : ao = none → cap = 0) (hL : LiesP w ao b) (hlen : a.length + b.length ≤ 1073741825) :
    ∃ v' w', (Builtin.append_ #[28, 28] 28 #[v, .slice ao n cap]).run Tryz.prog w = .ok v' w' ∧ w'.ownsRow 0 41 22 v' (a ++ b).length (cellsP (a ++ b)) ∧ w.grownBy w' v.ownBlock ∧ (v'.ownBlock = v.ownBlock ∨ v'.ownBlock = some w.heap.size) := by
  subst hn
  obtain ⟨i0, hi, hz0, hz1, hz2⟩ := info_parts infoP
  cases ao with
  | none =>
    have hb : b = [] := by
      rcases hL with h | ⟨b', o, e, _⟩
      · exact h
      · cases e
    subst hb
    have hc := hno rfl
    subst hc
    refine ⟨v, w, run_append_owned_none w 0 28 28 41 i0 22 Tryz.underlying28 hi v a.length (cellsP a) hown, ?_, World.grownBy.refl w _, .inl rfl⟩
    rw [List.append_nil]; exact hown
  | some ad =>
    have hcl : ∀ j u, (cellsP b)[j]? = some u → w.cell? (ad.add j) = some u := by
      rcases hL with h | ⟨b', o, e, h⟩
      · subst h; intro j u hu; simp [cellsP] at hu
      · cases e; intro j u hu; rw [addr_addP]; exact h j u hu
    obtain ⟨v', w', hrun, hown', hg, _, hat⟩ := run_append_own_at w 0 28 28 41 i0 _ 22 200 Tryz.underlying28 hi hz0 hz1 hz2 rfl (by decide) v a.length (cellsP a) hown ad b.length cap (cellsP b) (cellsP_len b) hcl (cellsP_one b) (by unfold maxLen; omega) (by omega) (Nat.zero_le _)
    refine ⟨v', w', hrun, ?_, hg, hat⟩
    rw [cellsP_append, List.length_append]; exact hown'
theorem NewP.appO {W wx : World} {v : Value} {a : List O} (h : NewP W wx v a) (ao : Option Addr) (n cap : Nat) (b : List O) (hn : n = b.length) (hno : ao = none → cap = 0) (hL : LiesP wx ao b) (hlen : a.length + b.length ≤ 1073741825) :
    ∃ v' w', (Builtin.append_ #[28, 28] 28 #[v, .slice ao n cap]).run Tryz.prog wx = .ok v' w' ∧ NewP W w' v' (a ++ b) ∧ wx.grownBy w' v.ownBlock := by
  obtain ⟨v', w', hr, ho, hg, hb⟩ := run_appendO wx v a h.owns ao n cap b hn hno hL hlen
  refine ⟨v', w', hr, ⟨ho, ?_, fun k hk => ?_⟩, hg⟩
  · exact h.touch.then ((Touch.refl (fun i => v.ownBlock = some i) wx).grown hg (fun i e _ => e)) fun i hi e => absurd hi (Nat.not_lt.2 (h.fresh i e))
  · rcases hb with e | e
    · exact h.fresh k (e ▸ hk)
    · rw [hk] at e; have := h.touch.size; simp at e; omega
theorem NewP.app1O {W wx : World} {v : Value} {a : List O} (h : NewP W wx v a) (r : O) (hlen : a.length ≤ 1073741824) :
    ∃ v' w', (Builtin.append_ #[28, 28] 28 #[v, .slice (some ⟨wx.heap.size, 0, none⟩) 1 1]).run Tryz.prog (wx.alloc (opO r)) = .ok v' w' ∧ NewP W w' v' (a ++ [r]) ∧ (wx.alloc (opO r)).grownBy w' v.ownBlock :=
  NewP.appO (h.on ((Touch.refl _ wx).alloc _)) (some ⟨wx.heap.size, 0, none⟩) 1 1 [r] rfl (fun h => by cases h) (LiesP.new wx r) (by simp; omega)
theorem wpList_append_runO {w w' : World} {ops : Array Oper} {rest : List Oper} {o : Oper} {a : Act} {Q : Exit → Act → World → Prop} (hgd : o.guard = none) (s x : Operand)
    (ho : o.op = .call { callee := .builtin .append, args := #[s, x], argTypes := #[28, 28] }) (v y v' : Value) (hs : a.eval s = v) (hx : a.eval x = y)
    (hrun : (Builtin.append_ #[28, 28] o.type #[v, y]).run Tryz.prog w = .ok v' w') (h : wpList Tryz.prog ops Q rest (a.put o.dst v') w') : wpList Tryz.prog ops Q (o :: rest) a w := by
  refine wpList_plain hgd fun K' hK' => ?_
  unfold Oper.wp
  simp [execOp, ho, resolve, invoke, builtin, hs, hx, hrun, Result.andThen]
  exact hK' _ _ h
end Go.Proofs.YtodpdcflbnomgaaGreat

/- Slices of operations: cut with three indexes, grown past their room. -/
namespace Go.Proofs.YtodpdcflbnomgaaGreat
open Go.RowKit Go.Maps
set_option linter.unusedVariables false
set_option linter.unusedSimpArgs false
set_option maxRecDepth 100000

theorem sliceO_full (vo : Option Addr) (n cap : Nat) (h : n ≤ cap) (W : World) : (Instr.slice 28 (.slice vo n cap) none (some (.int .i64 (n : Int))) (some (.int .i64 (n : Int)))).run Tryz.prog W = .ok (.slice vo n n) W := by
  have h1 : (n : Int) ≤ (cap : Int) := by omega
  have hu := Tryz.underlying28
  have ha : ∀ a : Addr, a.add 0 = a := fun a => by cases a; simp [Addr.add]
  obtain ⟨i0, hi, hz0, hz1, hz2⟩ := info_parts infoP
  simp [Instr.slice, run_underlying hu, Instr.sliceBounds, run_sliceBound, h1, sizeOf, typeInfo, hi, ha]
/-- An append to a slice of operations that has no room: it lies anew. -/
theorem append_opR {w : World} {ao : Option Addr} {cap : Nat} {M : List O} (hs : SlP w (.slice ao M.length cap) M) (x : O) (hl : M.length ≤ 1073741824) :
    ∃ g' cap' w', (Builtin.append_ #[28, 28] 28 #[.slice ao M.length M.length, .slice (some ⟨w.heap.size, 0, none⟩) 1 1]).run Tryz.prog (w.alloc (opO x)) = .ok (.slice (some ⟨g', 0, none⟩) (M.length + 1) cap') w' ∧
      SlP w' (.slice (some ⟨g', 0, none⟩) (M.length + 1) cap') (M ++ [x]) ∧ w.heap.size ≤ g' ∧ Touch (fun _ => False) w w' := by
  obtain ⟨i0, hi, hz0, hz1, hz2⟩ := info_parts infoP
  have hT : Touch (fun _ => False) w (w.alloc (opO x)) := (Touch.refl _ _).alloc _
  have hcl : ∀ j u, (cellsP [x])[j]? = some u → (w.alloc (opO x)).cell? ((⟨w.heap.size, 0, none⟩ : Addr).add j) = some u := by
    intro j u hu
    rw [addr_addP, Nat.zero_add, cell_of_block (heap_alloc_new w (opO x))]
    have : (cellsP [x])[j]? = (x.vals : Array Value)[j]? := by simp [cellsP, cellP]
    rw [← this]; exact hu
  have hlen1 : (cellsP [x]).length = 1 * 22 := cellsP_len [x]
  obtain ⟨ao', cap', e, h1, h2, h3, h4⟩ := hs
  simp only [Value.slice.injEq] at e
  obtain ⟨rfl, -, rfl⟩ := e
  have fin : ∀ (v' : Value) (w' : World), w'.ownsRow 0 41 22 v' (M.length + 1) (cellsP (M ++ [x])) → (Builtin.append_ #[28, 28] 28 #[.slice ao M.length M.length, .slice (some ⟨w.heap.size, 0, none⟩) 1 1]).run Tryz.prog (w.alloc (opO x)) = .ok v' w' → (∀ k, v'.ownBlock = some k → w.heap.size ≤ k) → Touch (fun _ => False) w w' → ∃ g' cap' w', (Builtin.append_ #[28, 28] 28 #[.slice ao M.length M.length, .slice (some ⟨w.heap.size, 0, none⟩) 1 1]).run Tryz.prog (w.alloc (opO x)) = .ok (.slice (some ⟨g', 0, none⟩) (M.length + 1) cap') w' ∧
      SlP w' (.slice (some ⟨g', 0, none⟩) (M.length + 1) cap') (M ++ [x]) ∧ w.heap.size ≤ g' ∧ Touch (fun _ => False) w w' := by
    intro v' w' ho hr hf ht
    have hN : NewP w w' v' (M ++ [x]) := ⟨by rw [List.length_append]; exact ho, ht, hf⟩
    rcases ho.2 with ⟨_, h9⟩ | ⟨g', cap', cur', rfl, r⟩
    · omega
    · have := hN.sl
      exact ⟨g', cap', w', hr, this, hf g' rfl, ht⟩
  cases ao with
  | none =>
    have hM : M = [] := by
      rcases h4 with h | ⟨_, _, e, _⟩
      · exact h
      · cases e
    subst hM
    obtain ⟨v', w', hrun, hown', hgr, _, hat⟩ := run_append_own_at (w.alloc (opO x)) 0 28 28 41 i0 _ 22 200 Tryz.underlying28 hi hz0 hz1 hz2 rfl (by decide) (.slice none 0 0) 0 [] (World.ownsRow_nil _ _ _ _) ⟨w.heap.size, 0, none⟩ 1 1 (cellsP [x]) hlen1 hcl (cellsP_one [x]) (by unfold maxLen; omega) (by omega) (Nat.zero_le _)
    refine fin v' w' hown' hrun (fun k hk => ?_) (hT.trans ⟨hgr.os, hgr.tape, hgr.output, hgr.size, fun k hk _ => hgr.block k hk (by simp [Value.ownBlock])⟩)
    rcases hat with e | e
    · rw [hk] at e; simp [Value.ownBlock] at e
    · rw [hk] at e; simp at e; omega
  | some ad =>
    have holds : ∀ j u, (cellsP M)[j]? = some u → (w.alloc (opO x)).cell? (ad.add j) = some u := by
      intro j u hu
      rcases h4 with h | ⟨g, o, e, hc⟩
      · subst h; simp [cellsP] at hu
      · simp only [Option.some.injEq] at e
        subst e
        rw [addr_addP]
        have h0 := hc j u hu
        rw [World.cell?_of_block (hT.block g (World.block_lt_of_cell? _ _ h0) id)]; exact h0
    have hr := run_append_grow (P := Tryz.prog) (w := w.alloc (opO x)) 28 28 41 i0 _ Tryz.underlying28 hi hz0 ad M.length M.length (cellsP M) (by rw [hz1]; exact cellsP_len M) holds ⟨w.heap.size, 0, none⟩ 1 1 (cellsP [x]) (by rw [hz1]; exact hlen1) hcl (by omega) (by omega) (growslice_fits (by omega) (by rw [hz2]; omega))
    have hge := grownCap_ge (w.alloc (opO x)) (M.length + 1) M.length 41
    have hcm := grownCap_le_maxLen (w.alloc (opO x)) (M.length + 1) M.length 41 (by unfold maxLen; omega)
    refine fin _ _ ⟨by rw [cellsP_len, List.length_append]; rfl, .inr ⟨_, _, _, rfl, Nat.zero_le _, heap_alloc_new _ _, hge, hcm, ?_, ?_⟩⟩ hr (fun k hk => ?_) ((hT.drew).alloc _)
    · simp only [Array.size_append, List.size_toArray, size_zeroCells, cellsP_len, ← Nat.add_mul, List.length_cons, List.length_nil]
      show (M.length + 1) * 22 + (grownCap (w.alloc (opO x)) (M.length + 1) M.length 41 - (M.length + 1)) * 22 = _
      omega
    · simp only [Array.toList_append, List.append_assoc, cellsP_append]
      rw [← List.append_assoc, show (M.length + 1) * 22 = (cellsP M ++ cellsP [x]).length from by rw [List.length_append, cellsP_len, hlen1]; omega]
      exact List.take_left
    · simp only [Value.ownBlock, Option.some.injEq] at hk
      subst hk
      simp
end Go.Proofs.YtodpdcflbnomgaaGreat
