/- Package marks: spans' iterator. -/
import Derived.Test.YtnilikomoapcaaaGreatPart20
import Derived.Test.YtnilikomoapcaaaGreatPart21
import Derived.Shelf.Abstract
import Derived.Shelf.RegionOpen
import Derived.TacticsInMore
import Derived.LoopNIn
import Derived.LoopIn
namespace Go.Proofs.YtnilikomoapcaaaGreat
open Go.RowKit Go.Shelf
set_option linter.unusedVariables false
set_option linter.unusedSimpArgs false
set_option maxRecDepth 100000
attribute [local go_sem] Oper.semAt_some

structure Spn where
  f : Int
  t : Int
  o : O
abbrev spnV (a b : Int) (o : O) : Value := .agg #[.int .i64 a, .int .i64 b, .int .u64 o.c, .int .u64 o.k, .int .i64 o.kind, .int .u64 o.st, .int .u64 o.lc, .int .u64 o.lk, .int .u64 o.rc, .int .u64 o.rk, .string o.tx, .int .i64 o.vk, .int .i64 o.vn, .float .f64 o.vf, .string o.vs, .string o.ky, .int .u64 o.pc, .int .u64 o.pk, .int .u64 o.fc, .int .u64 o.fk, .bool o.fa, .int .u64 o.tc, .int .u64 o.tk, .bool o.ta]
/-- A mark that is over any place. -/
def spanM (S : SS) (o : O) : Option Spn := if o.kind = 3 ∧ (overM S o).1 < (overM S o).2 then some ⟨(overM S o).1, (overM S o).2, o⟩ else none
def spansM (S : SS) (l : List O) : List Spn := l.filterMap (spanM S)
theorem spansM_take {S : SS} {l : List O} {j : Nat} (h : j < l.length) : spansM S (l.take (j + 1)) = spansM S (l.take j) ++ (spanM S l[j]).toList := by
  unfold spansM
  rw [List.take_succ_eq_append_getElem h, List.filterMap_append]
  cases h : spanM S l[j] <;> simp [List.filterMap_cons, h]
theorem spansM_pre {S : SS} (l : List O) (j : Nat) : spansM S (l.take j) <+: spansM S l := by
  unfold spansM
  conv => rhs; rw [← List.take_append_drop j l, List.filterMap_append]
  exact List.prefix_append _ _
/-- An operation's cells from q on. -/
def OpCells (W : World) (m q : Nat) (o : O) : Prop := W.cell? ⟨m, q, none⟩ = some (.int .u64 o.c) ∧ W.cell? ⟨m, q + 1, none⟩ = some (.int .u64 o.k) ∧ W.cell? ⟨m, q + 2, none⟩ = some (.int .i64 o.kind) ∧ W.cell? ⟨m, q + 3, none⟩ = some (.int .u64 o.st) ∧ W.cell? ⟨m, q + 4, none⟩ = some (.int .u64 o.lc) ∧ W.cell? ⟨m, q + 5, none⟩ = some (.int .u64 o.lk) ∧ W.cell? ⟨m, q + 6, none⟩ = some (.int .u64 o.rc) ∧ W.cell? ⟨m, q + 7, none⟩ = some (.int .u64 o.rk) ∧ W.cell? ⟨m, q + 8, none⟩ = some (.string o.tx) ∧ W.cell? ⟨m, q + 9, none⟩ = some (.int .i64 o.vk) ∧ W.cell? ⟨m, q + 10, none⟩ = some (.int .i64 o.vn) ∧ W.cell? ⟨m, q + 11, none⟩ = some (.float .f64 o.vf) ∧ W.cell? ⟨m, q + 12, none⟩ = some (.string o.vs) ∧ W.cell? ⟨m, q + 13, none⟩ = some (.string o.ky) ∧ W.cell? ⟨m, q + 14, none⟩ = some (.int .u64 o.pc) ∧ W.cell? ⟨m, q + 15, none⟩ = some (.int .u64 o.pk) ∧ W.cell? ⟨m, q + 16, none⟩ = some (.int .u64 o.fc) ∧ W.cell? ⟨m, q + 17, none⟩ = some (.int .u64 o.fk) ∧ W.cell? ⟨m, q + 18, none⟩ = some (.bool o.fa) ∧ W.cell? ⟨m, q + 19, none⟩ = some (.int .u64 o.tc) ∧ W.cell? ⟨m, q + 20, none⟩ = some (.int .u64 o.tk) ∧ W.cell? ⟨m, q + 21, none⟩ = some (.bool o.ta)
/-- A slice of operations lies. -/
structure OpsIn (W : World) (ao : Option Addr) (l : List O) : Prop where
  at_ : ∀ i (h : i < l.length), ∃ g q, ao = some ⟨g, q, none⟩ ∧ OpCells W g (q + i * 22) l[i]
end Go.Proofs.YtnilikomoapcaaaGreat

/- Package marks: spans' iterator gives the marks that are over any place. -/
namespace Go.Proofs.YtnilikomoapcaaaGreat
open Go.RowKit Go.Shelf
set_option linter.unusedVariables false
set_option linter.unusedSimpArgs false
set_option maxRecDepth 100000
attribute [local go_sem] Oper.semAt_some

theorem World.rangeAt_keep {w w' : World} {b o : Nat} {cs : List Value} {Z : Nat → Prop} (h : w.rangeAt b o cs) (t : Touch Z w w') (hb : ¬ Z b) : w'.rangeAt b o cs := fun j v hj => by
  have h1 := h j v hj
  have hl := World.block_lt_of_cell? _ _ h1
  rw [← h1]
  simp only [World.cell?, t.block b hl hb]
theorem cells_storedS {W : World} {B : Nat} {C : Array Value} {t : TypeId} (h : W.heap[B]? = some (.cells C t (0, 0))) (k : Nat) (vs : List Value) : (W.setCells B k vs).heap[B]? = some (.cells ((vs.zipIdx k).foldl (fun (c : Array Value) x => c.setIfInBounds x.2 x.1) C) t (0, 0)) := by
  have key : ∀ (vs : List Value) (k : Nat) (W : World) (c : Array Value), W.heap[B]? = some (.cells c t (0, 0)) → (W.setCells B k vs).heap[B]? = some (.cells ((vs.zipIdx k).foldl (fun (c : Array Value) x => c.setIfInBounds x.2 x.1) c) t (0, 0)) := by
    intro vs
    induction vs with
    | nil => intro k W c h; exact h
    | cons v r ih =>
      intro k W c h
      rw [World.setCells]
      exact ih (k + 1) _ _ (heap_setCell_same W B k v h)
  exact key vs k W C h
theorem there_ofS {W : World} {B : Nat} {C : Array Value} {t : TypeId} (h : W.heap[B]? = some (.cells C t (0, 0))) (k n : Nat) (hk : k + n ≤ C.size) : W.there B k n := by
  intro j hj
  refine ⟨?_, free_of_block h⟩
  rw [cell_of_block h, Array.getElem?_eq_getElem (by omega)]
  rfl
theorem rangeAt_ofS {W : World} {B : Nat} {o : O} (h : W.heap[B]? = some (opO o)) : W.rangeAt B 0 o.vals.toList := by
  intro j v hv
  rw [Nat.zero_add, cell_of_block (i := j) h]
  simpa using hv
abbrev zeroOp : Obj := .cells #[.int .u64 0, .int .u64 0, .int .i64 0, .int .u64 0, .int .u64 0, .int .u64 0, .int .u64 0, .int .u64 0, .string ⟨#[]⟩, .int .i64 0, .int .i64 0, .float .f64 0, .string ⟨#[]⟩, .string ⟨#[]⟩, .int .u64 0, .int .u64 0, .int .u64 0, .int .u64 0, .bool false, .int .u64 0, .int .u64 0, .bool false] 39
/-- A new box, and an operation stored in it. -/
theorem newOp (W : World) (o : O) : Touch (fun _ => False) W ((W.alloc zeroOp).setCells W.heap.size 0 o.vals.toList) ∧ ((W.alloc zeroOp).setCells W.heap.size 0 o.vals.toList).heap[W.heap.size]? = some (opO o) := by
  refine ⟨((Touch.refl _ _).alloc _).stored (Nat.le_refl _) 0 _, ?_⟩
  rw [cells_storedS (heap_alloc_new W zeroOp)]
  kernel_rfl
set_option maxHeartbeats 4000000 in
theorem spans_stops {w : World} {p C1 C2 g q cap : Nat} {S : SS} {l : List O} {R : Nat → Prop} (hRl : ∀ k, R k → k < w.heap.size) (hS : ∀ wr, Touch (fun k => ¬ R k) w wr → SeqRd wr p S)
    (h1 : w.heap[C1]? = some (.cells #[.slice (some ⟨g, q, none⟩) l.length cap] 41 (0, 0))) (h2 : w.heap[C2]? = some (.cells #[.pointer (some ⟨p, 0, none⟩)] 24 (0, 0)))
    (r1 : R C1) (r2 : R C2) (rg : R g) (hle : l.length ≤ cap) (hmx : cap ≤ maxLen) (hl : ∀ i (h : i < l.length), w.rangeAt g (q + i * 22) l[i].vals.toList) (hf : ∀ o ∈ l, o.fits) :
    SeqP Tryz.prog 59 #[.pointer (some ⟨C1, 0, none⟩), .pointer (some ⟨C2, 0, none⟩)] (fun x : Spn => #[spnV x.f x.t x.o]) R (spansM S l) w := fun ly n' J Jx W Φ hW fJ fJx hR hY h0 => by
  have HC : Hid (∀ wr, Touch Φ W wr → wr.cell? ⟨C1, 0, none⟩ = some (.slice (some ⟨g, q, none⟩) l.length cap) ∧ wr.cell? ⟨C2, 0, none⟩ = some (.pointer (some ⟨p, 0, none⟩))) := fun wr t => by
    have e1 := (hW.block _ (lt_of_heap h1) fun q => q r1).trans h1
    have e2 := (hW.block _ (lt_of_heap h2) fun q => q r2).trans h2
    rw [cell_of_block ((t.block _ (lt_of_heap e1) (hR C1 r1)).trans e1), cell_of_block ((t.block _ (lt_of_heap e2) (hR C2 r2)).trans e2)]
    exact ⟨rfl, rfl⟩
  have HS : Hid (∀ wr, Touch Φ W wr → SeqRd wr p S) := fun wr t => hS wr (hW.trans (t.mono fun k _ hk hr => hR k hr hk))
  have HL : Hid (∀ wr, Touch Φ W wr → ∀ i (h : i < l.length), wr.rangeAt g (q + i * 22) l[i].vals.toList) := fun wr t i h => World.rangeAt_keep (World.rangeAt_keep (hl i h) hW fun x => x rg) t (hR g rg)
  have HY : Hid _ := hY
  have HFJ : Hid (Foot W.heap.size J) := fJ
  have HRP : Hid (∀ Ψ : Nat → Prop, Swells Φ Ψ W.heap.size → ∀ x, R x → ¬ Ψ x) := fun Ψ hs x hx hp => by
    rcases hs x hp with q | q
    · exact hR x hx q
    · have := hRl x hx; have := hW.size; omega
  have HF : Hid (∀ o ∈ l, o.fits) := hf
  obtain ⟨c1, c2⟩ := HC.out W (Touch.refl _ _)
  have H0 : Hid (J [] Φ W) := h0
  have hmx' : Hid (l.length ≤ maxLen) := Nat.le_trans hle hmx
  clear hW hR hY h1 h2 hS hl hf fJ fJx h0 r1 r2 rg hRl
  refine callsIn_of_wp Tryz.func59 rfl trivial ?_ rfl
  simp only [Tryz.ntmps59, List.size_toArray, List.length_cons, List.length_nil, Nat.reduceAdd, Nat.reduceSub, Array.replicate_succ, Array.replicate_zero, List.push_toArray, List.append_toArray, List.nil_append, List.cons_append]
  gi_wp2_with fail
  clear c1 c2
  gi_loopw [10] (fun i wr => ∃ (j : Nat) (Ψ : Nat → Prop), i = iV (j : Int) ∧ j ≤ l.length ∧ J (spansM S (l.take j)) Ψ wr ∧ Touch Φ W wr ∧ Swells Φ Ψ W.heap.size) (fun i _ => l.length - (intOf i).toNat)
  case atStart => exact ⟨0, Φ, rfl, Nat.zero_le _, by rw [List.take_zero]; exact H0.out, Touch.refl _ _, Swells.refl _ _⟩
  case round =>
    obtain ⟨j, Ψ, rfl, hj, hJr, hTr, hSr⟩ := hrel
    by_cases hlt : j < l.length
    · have HJr : Hid (J (spansM S (l.take j)) Ψ wr) := hJr
      have HTr : Hid (Touch Φ W wr) := hTr
      have HSr : Hid (Swells Φ Ψ W.heap.size) := hSr
      have HLt : Hid (j < l.length) := hlt
      have hi1 : (0 : Int) ≤ (j : Int) := by omega
      have hi2 : (j : Int) < (l.length : Int) := by omega
      have HRg : Hid (wr.rangeAt g (q + j * 22) l[j].vals.toList) := HL.out wr hTr j hlt
      have HFo : Hid (l[j].fits) := HF.out _ (List.getElem_mem hlt)
      have HTk : Hid (spansM S (l.take (j + 1)) = spansM S (l.take j) ++ (spanM S l[j]).toList ∧ spansM S (l.take (j + 1)) <+: spansM S l) := ⟨spansM_take hlt, spansM_pre l (j + 1)⟩
      have hjm : (j : Int) + 1 < 9223372036854775808 := by have := hmx'.out; simp only [maxLen] at this; omega
      generalize l[j] = o at *
      obtain ⟨W1, hW1⟩ : ∃ W1, Hid (W1 = (wr.alloc zeroOp).setCells wr.heap.size 0 o.vals.toList) := ⟨_, Eq.refl _⟩
      have HW1 : Hid (Touch (fun _ => False) wr W1 ∧ W1.heap[wr.heap.size]? = some (opO o)) := by rw [hW1.out]; exact newOp wr o
      have HZ : Hid ((wr.alloc zeroOp).heap[wr.heap.size]? = some zeroOp) := heap_alloc_new _ _
      have HT1 : Hid (Touch Φ W W1) := hTr.trans (HW1.out.1.mono fun _ _ q => q.elim)
      have HJ1 : Hid (J (spansM S (l.take j)) Ψ W1) := HFJ.out.keep _ _ _ _ hJr (HW1.out.1.mono fun _ _ q => q.elim)
      obtain ⟨-, -, k2, -, -, -⟩ := opO_head HW1.out.2
      have k33 := (HC.out W1 HT1.out).2
      have hsz := hTr.size
      clear hJr hTr hSr hlt hj HJr HTr
      iterate 18 (first | go_values | gi_guarded | gi_step)
      refine wpListIn_plain rfl fun K hK => ?_
      go_simp
      refine hK _ _ ?_
      clear hK K
      refine wpListIn_load_mid rfl 39 (.tmp 12) rfl g (q + j * 22) rfl o.vals.toList _ HRg.out Tryz.underlying39 rfl (by kernel_rfl) ?_
      simp only [Act.put, List.setIfInBounds_toArray, List.set_cons_succ, List.set_cons_zero]
      refine wpListIn_plain rfl fun K hK => ?_
      go_simp
      refine hK _ _ ?_
      clear hK K
      refine wpListIn_store_mid rfl 39 (.tmp 5) (.tmp 13) rfl wr.heap.size 0 o.vals rfl rfl (there_ofS HZ.out 0 22 (by decide)) (by kernel_rfl) (by kernel_rfl) ?_
      simp only [Act.put]
      rw [← hW1.out]
      generalize Value.agg #[.int .u64 o.c, .int .u64 o.k, .int .i64 o.kind, .int .u64 o.st, .int .u64 o.lc, .int .u64 o.lk, .int .u64 o.rc, .int .u64 o.rk, .string o.tx, .int .i64 o.vk, .int .i64 o.vn, .float .f64 o.vf, .string o.vs, .string o.ky, .int .u64 o.pc, .int .u64 o.pk, .int .u64 o.fc, .int .u64 o.fk, .bool o.fa, .int .u64 o.tc, .int .u64 o.tk, .bool o.ta] = v13
      clear hW1 HZ HRg
      generalize wr.heap.size = X at *
      cases hb : (o.kind == 3) with
      | false =>
        have HE : Hid (spansM S (l.take (j + 1)) = spansM S (l.take j)) := by
          have h3 : ¬ o.kind = 3 := by simpa using hb
          rw [Hid, HTk.out.1, spanM, if_neg fun h => h3 h.1]; simp
        have hb3 : (o.kind != 3) = true := by rw [bne, hb]; rfl
        clear hle hmx hi1 hi2 hb
        gi_wp2_with fail
        go_roundw
        case rel => exact ⟨j + 1, Ψ, by go_num, HLt.out, by rw [HE.out]; exact HJ1.out, HT1.out, HSr.out⟩
        case measure => simp only [intOf]; have := HLt.out; omega
      | true =>
        have hb2 : o.kind = 3 := by simpa using hb
        clear hi1 hi2
        clear hle hmx
        iterate 14 (first | go_values | gi_guarded | gi_step)
        iterate 10 (first | go_values | gi_guarded | gi_step)
        have HSp : Hid ((overM S o).1 < (overM S o).2 → spanM S o = some ⟨(overM S o).1, (overM S o).2, o⟩) := fun h => by rw [spanM, if_pos ⟨hb2, h⟩]
        have HSn : Hid (¬ (overM S o).1 < (overM S o).2 → spanM S o = none) := fun h => by rw [spanM, if_neg fun h' => h h'.2]
        refine wpListIn_plain rfl fun K hK => ?_
        go_simp
        refine hK _ _ ?_
        clear hK K hb hb2 k2
        refine wpListIn_load_mid rfl 39 (.tmp 5) rfl X 0 rfl o.vals.toList _ (rangeAt_ofS HW1.out.2) Tryz.underlying39 rfl (by kernel_rfl) ?_
        simp only [Act.put, List.setIfInBounds_toArray, List.set_cons_succ, List.set_cons_zero]
        refine wpListIn_plain rfl fun K hK => ?_
        go_simp
        refine ⟨trivial, wideN, (callsIn_wide.2 (over_any (HS.out W1 HT1.out) o HFo.out)).mono ?_⟩
        rintro e W2 ⟨rfl, t2⟩
        refine hK _ _ ?_
        clear hK K
        have HT2 : Hid (Touch Φ W W2) := HT1.out.trans (t2.mono fun _ _ q => q.elim)
        have HJ2 : Hid (J (spansM S (l.take j)) Ψ W2) := HFJ.out.keep _ _ _ _ HJ1.out (t2.mono fun _ _ q => q.elim)
        have HB2 : Hid (W2.heap[X]? = some (opO o)) := heap_keep t2 HW1.out.2
        have hsz2 : W.heap.size ≤ W2.heap.size := HT2.out.size
        generalize (overM S o).1 = a at *
        generalize (overM S o).2 = b at *
        clear t2 HW1 HT1 HJ1 k33 hsz
        generalize Value.agg #[.int .u64 o.c, .int .u64 o.k, .int .i64 o.kind, .int .u64 o.st, .int .u64 o.lc, .int .u64 o.lk, .int .u64 o.rc, .int .u64 o.rk, .string o.tx, .int .i64 o.vk, .int .i64 o.vn, .float .f64 o.vf, .string o.vs, .string o.ky, .int .u64 o.pc, .int .u64 o.pk, .int .u64 o.fc, .int .u64 o.fk, .bool o.fa, .int .u64 o.tc, .int .u64 o.tk, .bool o.ta] = v19
        by_cases hab : a < b
        · have hd : decide (a < b) = true := by simpa using hab
          have HE := HSp.out hab
          clear hab HSp HSn
          iterate 20 (first | go_values | gi_guarded | gi_step)
          refine wpListIn_plain rfl fun K hK => ?_
          go_simp
          refine hK _ _ ?_
          clear hK K
          refine wpListIn_plain rfl fun K hK => ?_
          go_simp
          refine hK _ _ ?_
          clear hK K
          refine wpListIn_plain rfl fun K hK => ?_
          go_simp
          refine hK _ _ ?_
          clear hK K
          refine wpListIn_plain rfl fun K hK => ?_
          go_simp
          refine hK _ _ ?_
          clear hK K
          refine wpListIn_step fun K hK => ?_
          rw [if_pos (by kernel_rfl)]
          go_simp
          refine hK _ _ ?_
          clear hK K
          refine wpListIn_step fun K hK => ?_
          rw [if_pos (by kernel_rfl)]
          go_simp
          refine hK _ _ ?_
          clear hK K
          refine wpListIn_step fun K hK => ?_
          rw [if_pos (by kernel_rfl)]
          go_simp
          refine hK _ _ ?_
          clear hK K
          refine wpListIn_step fun K hK => ?_
          rw [if_pos (by kernel_rfl)]
          refine wpIn_load_mid 39 (.tmp 5) rfl X 0 rfl o.vals.toList _ (rangeAt_ofS HB2.out) Tryz.underlying39 rfl (by kernel_rfl) (hK _ _ ?_)
          clear hK K
          simp only [Act.put, List.setIfInBounds_toArray, List.set_cons_succ, List.set_cons_zero]
          refine wpListIn_step fun K hK => ?_
          rw [if_pos (by kernel_rfl)]
          go_simp
          refine hK _ _ ?_
          clear hK K
          have HP1 : Hid (spansM S (l.take j) ++ [⟨a, b, o⟩] <+: spansM S l) := by
            have h := HTk.out.2
            rw [HTk.out.1, HE] at h
            exact h
          have HP2 : Hid (spansM S (l.take (j + 1)) = spansM S (l.take j) ++ [⟨a, b, o⟩]) := by rw [Hid, HTk.out.1, HE]; rfl
          obtain ⟨fn, tmps, assign, body, hy, hRd⟩ := HY.out (spansM S (l.take j)) ⟨a, b, o⟩ Ψ W2 HJ2.out (HRP.out Ψ HSr.out) HP1.out 0
          simp only [spnV] at hy
          clear HE HTk
          refine wpListIn_step fun K hK => ?_
          rw [if_pos (by kernel_rfl)]
          go_simp
          refine ⟨wideN, (round_wide hRd).mono ?_⟩
          rintro e W3 ⟨t3, Ψ3, s3, (⟨rfl, hJ3⟩ | ⟨rfl, hJ3⟩)⟩
          · have HT3 : Hid (Touch Φ W W3) := HT2.out.swell t3 HSr.out
            have HS3 : Hid (Swells Φ Ψ3 W.heap.size) := HSr.out.trans s3 hsz2
            have HJ3 : Hid (J (spansM S (l.take j) ++ [⟨a, b, o⟩]) Ψ3 W3) := hJ3
            clear hy hRd t3 s3 hJ3
            refine hK _ _ ?_
            clear hK K
            gi_wp2_with fail
            go_roundw
            case rel => exact ⟨j + 1, Ψ3, by go_num, HLt.out, by rw [HP2.out]; exact HJ3.out, HT3.out, HS3.out⟩
            case measure => simp only [intOf]; have := HLt.out; omega
          · have HT3 : Hid (Touch Φ W W3) := HT2.out.swell t3 HSr.out
            have HS3 : Hid (Swells Φ Ψ3 W.heap.size) := HSr.out.trans s3 hsz2
            have HJ3 : Hid (Jx (spansM S (l.take j) ++ [⟨a, b, o⟩]) Ψ3 W3) := hJ3
            clear hy hRd t3 s3 hJ3
            refine hK _ _ ?_
            clear hK K
            gi_wp2_with fail
            refine bodyPost_ret (results_none rfl _ _ _) rfl ?_
            exact ⟨⟨_, rfl⟩, HT3.out, Ψ3, HS3.out, .inr ⟨_, HP1.out, HJ3.out⟩⟩
        · have hd : decide (a < b) = false := by simpa using hab
          have HE : Hid (spansM S (l.take (j + 1)) = spansM S (l.take j)) := by
            rw [Hid, HTk.out.1, HSn.out hab]; simp
          clear hab HSp HSn
          iterate 20 (first | go_values | gi_guarded | gi_step)
          refine wpListIn_plain rfl fun K hK => ?_
          go_simp
          refine hK _ _ ?_
          clear hK K
          refine wpListIn_plain rfl fun K hK => ?_
          go_simp
          refine hK _ _ ?_
          clear hK K
          refine wpListIn_plain rfl fun K hK => ?_
          go_simp
          refine hK _ _ ?_
          clear hK K
          refine wpListIn_plain rfl fun K hK => ?_
          go_simp
          refine hK _ _ ?_
          clear hK K
          iterate 2 (first | go_values | gi_guarded | gi_step)
          refine ⟨fun _ _ => trivial, ?_⟩
          gi_wp2_with fail
          go_roundw
          case rel => exact ⟨j + 1, Ψ, by go_num, HLt.out, by rw [HE.out]; exact HJ2.out, HT2.out, HSr.out⟩
          case measure => simp only [intOf]; have := HLt.out; omega
    · have hjl : j = l.length := by omega
      subst hjl
      gi_wp2
      go_end0
      exact ⟨⟨_, rfl⟩, hTr, Ψ, hSr, .inl (by rw [List.take_length] at hJr; exact hJr)⟩
end Go.Proofs.YtnilikomoapcaaaGreat
