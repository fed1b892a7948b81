/- Package seq: sequences side by side, with units beside them. -/
import Derived.Test.YtdnhoicfolkbnaaGreatPart16
import Derived.Test.YtdnhoicfolkbnaaGreatPart18
import Derived.Test.YtdnhoicfolkbnaaGreatPart17
import Derived.Shelf.Abstract
import Derived.Shelf.RegionOpen
import Derived.TacticsInMore
import Derived.LoopNIn
import Derived.LoopIn
import Derived.Deep.MidRow
import Derived.Test.YtdnhoicfolkbnaaGreatPart1
import Derived.Maps.OwnSet
import Derived.Maps.OwnIn
namespace Go.Proofs.YtdnhoicfolkbnaaGreat
open Go.RowKit
set_option linter.unusedVariables false
set_option linter.unusedSimpArgs false

/-- A sequence at p, made since w0, in the blocks B. -/
structure Sq1 (w0 w : World) (p : Nat) (B : Bk) (S : SS) : Prop where
  mem : SeqM w B S
  at_ : B.b = p
  new : ∀ k, B.has k → w0.heap.size ≤ k
  inv : Inv S
def ApartB (B C : Bk) : Prop := ∀ k, B.has k → ¬ C.has k
theorem ApartB.symm {B C : Bk} (h : ApartB B C) : ApartB C B := fun k hk hb => h k hb hk
theorem Sq1.touch {w0 w w' : World} {p : Nat} {B : Bk} {S : SS} (h : Sq1 w0 w p B S) (t : Touch (fun _ => False) w w') : Sq1 w0 w' p B S := ⟨h.mem.keep0 t, h.at_, h.new, h.inv⟩
/-- Another one's blocks are touched alone. -/
theorem Sq1.other {w0 w w' : World} {p : Nat} {B C : Bk} {S : SS} (h : Sq1 w0 w p B S) (t : Touch C.has w w') (ha : ApartB B C) : Sq1 w0 w' p B S := ⟨h.mem.keep t ha, h.at_, h.new, h.inv⟩
/-- A block of a sequence has a type of its own. -/
theorem SeqM.typ {w : World} {B : Bk} {S : SS} (h : SeqM w B S) {k : Nat} (hk : B.has k) : ∃ c t fr, w.heap[k]? = some (.cells c t fr) ∧ t ≠ 59 := by
  rcases hk with rfl | rfl | rfl | rfl | rfl
  · obtain ⟨c, hc⟩ := h.blk
    exact ⟨c, _, _, hc, by decide⟩
  · obtain ⟨c, hc, _⟩ := h.runs.row
    exact ⟨c, _, _, hc, by decide⟩
  · obtain ⟨c, hc, _⟩ := h.pcs.row
    exact ⟨c, _, _, hc, by decide⟩
  · obtain ⟨L, tr, h1, _⟩ := h.ord
    obtain ⟨c, hc, _⟩ := h1.row
    exact ⟨c, _, _, hc, by decide⟩
  · obtain ⟨L, tr, h1, _⟩ := h.idx
    obtain ⟨c, hc, _⟩ := h1.row
    exact ⟨c, _, _, hc, by decide⟩
theorem SeqM.noBox {w : World} {B : Bk} {S : SS} (h : SeqM w B S) {m : Nat} {u : Un} (hm : w.heap[m]? = some (unO u)) : ¬ B.has m := fun hk => by
  obtain ⟨c, t, fr, e, ht⟩ := h.typ hk
  rw [hm] at e
  simp at e
  exact ht e.2.1.symm
theorem SeqM.noOwn {w0 w : World} {B : Bk} {S : SS} {v : Value} {n : Nat} {xs : List Value} (h : SeqM w B S) (hv : OwnV w0 w v n xs) : ∀ k, v.ownBlock = some k → ¬ B.has k := fun k e hk => by
  obtain ⟨c, t, fr, e2, ht⟩ := h.typ hk
  rcases hv.owns.2 with ⟨e', _⟩ | ⟨g, cap, cur, e', q, hg, _⟩
  · rw [e'] at e; simp [Value.ownBlock] at e
  · rw [e'] at e
    have hgk : g = k := by simpa [Value.ownBlock] using e
    rw [hgk, e2] at hg
    simp at hg
    exact ht hg.2.1
theorem Sq1.ins {w0 w : World} {p : Nat} {B : Bk} {S : SS} (h : Sq1 w0 w p B S) (u : Un) (hu : u.ok) {n : Nat} (hz : Size S n) (hn : n ≤ 1000000) :
    Calls Tryz.prog 32 #[.pointer (some ⟨p, 0, none⟩), .agg #[.int .u64 u.c, .int .u64 u.k, .int .u64 u.lc, .int .u64 u.lk, .int .u64 u.rc, .int .u64 u.rk]] w fun e w' => e = .returned (.bool (S.may u 1)) ∧ ∃ B', Sq1 w0 w' p B' (S.run u 1) ∧ (∀ x, B'.has x → B.has x ∨ w.heap.size ≤ x) ∧ Touch B.has w w' := by
  have hp := h.at_
  subst hp
  refine (insert_any h.mem h.inv u hu (hz.room hn 1 (by omega))).mono ?_
  rintro e w' ⟨rfl, B', a, b, c, d⟩
  refine ⟨rfl, B', ⟨a, b, fun k hk => ?_, (h.inv.run1 hu hz hn).1⟩, c, d⟩
  rcases c k hk with e | e
  · exact h.new k e
  · obtain ⟨c', hc⟩ := h.mem.blk
    have h1 := lt_of_heap hc
    have h2 := h.new B.b (.inl rfl)
    omega
theorem Sq1.len {w0 w : World} {p : Nat} {B : Bk} {S : SS} (h : Sq1 w0 w p B S) :
    Calls Tryz.prog 35 #[.pointer (some ⟨p, 0, none⟩)] w fun e w' => e = .returned (.int .i64 (S.units.length : Int)) ∧ Touch (fun _ => False) w w' := by
  have hp := h.at_
  subst hp
  have := len_any h.mem
  rw [← h.inv.units_len] at this
  exact this
theorem Sq1.find {w0 w : World} {p : Nat} {B : Bk} {S : SS} (h : Sq1 w0 w p B S) (c k : Int) (hc : 0 ≤ c) (hk : 0 ≤ k) (hk2 : k < 18446744073709551616) :
    Calls Tryz.prog 36 #[.pointer (some ⟨p, 0, none⟩), .agg #[.int .u64 c, .int .u64 k]] w fun e w' => e = .returned (.int .i64 (S.find c k)) ∧ Touch (fun _ => False) w w' := by
  have hp := h.at_
  subst hp
  exact find_any h.mem h.inv c k hc hk hk2
theorem Sq1.fresh (w0 w : World) (t : Touch (fun _ => False) w0 w) :
    Calls Tryz.prog 29 #[] w fun e w' => ∃ p B, e = .returned (.pointer (some ⟨p, 0, none⟩)) ∧ Sq1 w0 w' p B .new ∧ (∀ k, B.has k → w.heap.size ≤ k) ∧ Touch (fun _ => False) w w' := by
  refine (new_any w).mono ?_
  rintro e w' ⟨B, rfl, a, b, c⟩
  exact ⟨B.b, B, rfl, ⟨a, rfl, fun k hk => Nat.le_trans t.size (b k hk), Inv.new⟩, b, c⟩
/-- Blocks that are new are none of another's. -/
theorem Sq1.apart {w0 w : World} {p : Nat} {B C C' : Bk} {S : SS} (h : Sq1 w0 w p B S) (ha : ApartB B C) (hc : ∀ x, C'.has x → C.has x ∨ w.heap.size ≤ x) : ApartB B C' := fun k hk hk' => by
  rcases hc k hk' with e | e
  · exact ha k hk e
  · have := h.mem.lt hk
    omega
theorem Sq1.touch0 {w0 w w' : World} {p : Nat} {B : Bk} {S : SS} (h : Sq1 w0 w p B S) (t0 : Touch (fun _ => False) w0 w) (t : Touch B.has w w') : Touch (fun _ => False) w0 w' := t0.then t fun k hk e => by
  have := h.new k e
  omega
theorem OwnV.onB {w0 w w' : World} {p : Nat} {B : Bk} {S : SS} {v : Value} {n : Nat} {xs : List Value} (hv : OwnV w0 w v n xs) (h : Sq1 w0 w p B S) (t : Touch B.has w w') : OwnV w0 w' v n xs :=
  ⟨ownV_touch hv.owns t (h.mem.noOwn hv), h.touch0 hv.touch t, hv.fresh⟩
end Go.Proofs.YtdnhoicfolkbnaaGreat

/- Package marks: spans' iterator. -/
namespace Go.Proofs.YtdnhoicfolkbnaaGreat
open Go.RowKit Go.Shelf
set_option linter.unusedVariables false
set_option linter.unusedSimpArgs false
set_option maxRecDepth 100000
attribute [local go_sem] Oper.semAt_some

structure Spn where
  f : Int
  t : Int
  o : O
abbrev spnV (a b : Int) (o : O) : Value := .agg #[.int .i64 a, .int .i64 b, .int .u64 o.c, .int .u64 o.k, .int .i64 o.kind, .int .u64 o.st, .int .u64 o.lc, .int .u64 o.lk, .int .u64 o.rc, .int .u64 o.rk, .string o.tx, .int .i64 o.vk, .int .i64 o.vn, .float .f64 o.vf, .string o.vs, .string o.ky, .int .u64 o.pc, .int .u64 o.pk, .int .u64 o.fc, .int .u64 o.fk, .bool o.fa, .int .u64 o.tc, .int .u64 o.tk, .bool o.ta]
/-- A mark that is over any place. -/
def spanM (S : SS) (o : O) : Option Spn := if o.kind = 3 ∧ (overM S o).1 < (overM S o).2 then some ⟨(overM S o).1, (overM S o).2, o⟩ else none
def spansM (S : SS) (l : List O) : List Spn := l.filterMap (spanM S)
theorem spansM_take {S : SS} {l : List O} {j : Nat} (h : j < l.length) : spansM S (l.take (j + 1)) = spansM S (l.take j) ++ (spanM S l[j]).toList := by
  unfold spansM
  rw [List.take_succ_eq_append_getElem h, List.filterMap_append]
  cases h : spanM S l[j] <;> simp [List.filterMap_cons, h]
theorem spansM_pre {S : SS} (l : List O) (j : Nat) : spansM S (l.take j) <+: spansM S l := by
  unfold spansM
  conv => rhs; rw [← List.take_append_drop j l, List.filterMap_append]
  exact List.prefix_append _ _
/-- An operation's cells from q on. -/
def OpCells (W : World) (m q : Nat) (o : O) : Prop := W.cell? ⟨m, q, none⟩ = some (.int .u64 o.c) ∧ W.cell? ⟨m, q + 1, none⟩ = some (.int .u64 o.k) ∧ W.cell? ⟨m, q + 2, none⟩ = some (.int .i64 o.kind) ∧ W.cell? ⟨m, q + 3, none⟩ = some (.int .u64 o.st) ∧ W.cell? ⟨m, q + 4, none⟩ = some (.int .u64 o.lc) ∧ W.cell? ⟨m, q + 5, none⟩ = some (.int .u64 o.lk) ∧ W.cell? ⟨m, q + 6, none⟩ = some (.int .u64 o.rc) ∧ W.cell? ⟨m, q + 7, none⟩ = some (.int .u64 o.rk) ∧ W.cell? ⟨m, q + 8, none⟩ = some (.string o.tx) ∧ W.cell? ⟨m, q + 9, none⟩ = some (.int .i64 o.vk) ∧ W.cell? ⟨m, q + 10, none⟩ = some (.int .i64 o.vn) ∧ W.cell? ⟨m, q + 11, none⟩ = some (.float .f64 o.vf) ∧ W.cell? ⟨m, q + 12, none⟩ = some (.string o.vs) ∧ W.cell? ⟨m, q + 13, none⟩ = some (.string o.ky) ∧ W.cell? ⟨m, q + 14, none⟩ = some (.int .u64 o.pc) ∧ W.cell? ⟨m, q + 15, none⟩ = some (.int .u64 o.pk) ∧ W.cell? ⟨m, q + 16, none⟩ = some (.int .u64 o.fc) ∧ W.cell? ⟨m, q + 17, none⟩ = some (.int .u64 o.fk) ∧ W.cell? ⟨m, q + 18, none⟩ = some (.bool o.fa) ∧ W.cell? ⟨m, q + 19, none⟩ = some (.int .u64 o.tc) ∧ W.cell? ⟨m, q + 20, none⟩ = some (.int .u64 o.tk) ∧ W.cell? ⟨m, q + 21, none⟩ = some (.bool o.ta)
/-- A slice of operations lies. -/
structure OpsIn (W : World) (ao : Option Addr) (l : List O) : Prop where
  at_ : ∀ i (h : i < l.length), ∃ g q, ao = some ⟨g, q, none⟩ ∧ OpCells W g (q + i * 22) l[i]
end Go.Proofs.YtdnhoicfolkbnaaGreat

/- Package marks: spans' iterator gives the marks that are over any place. -/
namespace Go.Proofs.YtdnhoicfolkbnaaGreat
open Go.RowKit Go.Shelf
set_option linter.unusedVariables false
set_option linter.unusedSimpArgs false
set_option maxRecDepth 100000
attribute [local go_sem] Oper.semAt_some

theorem World.rangeAt_keep {w w' : World} {b o : Nat} {cs : List Value} {Z : Nat → Prop} (h : w.rangeAt b o cs) (t : Touch Z w w') (hb : ¬ Z b) : w'.rangeAt b o cs := fun j v hj => by
  have h1 := h j v hj
  have hl := World.block_lt_of_cell? _ _ h1
  rw [← h1]
  simp only [World.cell?, t.block b hl hb]
theorem cells_storedS {W : World} {B : Nat} {C : Array Value} {t : TypeId} (h : W.heap[B]? = some (.cells C t (0, 0))) (k : Nat) (vs : List Value) : (W.setCells B k vs).heap[B]? = some (.cells ((vs.zipIdx k).foldl (fun (c : Array Value) x => c.setIfInBounds x.2 x.1) C) t (0, 0)) := by
  have key : ∀ (vs : List Value) (k : Nat) (W : World) (c : Array Value), W.heap[B]? = some (.cells c t (0, 0)) → (W.setCells B k vs).heap[B]? = some (.cells ((vs.zipIdx k).foldl (fun (c : Array Value) x => c.setIfInBounds x.2 x.1) c) t (0, 0)) := by
    intro vs
    induction vs with
    | nil => intro k W c h; exact h
    | cons v r ih =>
      intro k W c h
      rw [World.setCells]
      exact ih (k + 1) _ _ (heap_setCell_same W B k v h)
  exact key vs k W C h
theorem there_ofS {W : World} {B : Nat} {C : Array Value} {t : TypeId} (h : W.heap[B]? = some (.cells C t (0, 0))) (k n : Nat) (hk : k + n ≤ C.size) : W.there B k n := by
  intro j hj
  refine ⟨?_, free_of_block h⟩
  rw [cell_of_block h, Array.getElem?_eq_getElem (by omega)]
  rfl
theorem rangeAt_ofS {W : World} {B : Nat} {o : O} (h : W.heap[B]? = some (opO o)) : W.rangeAt B 0 o.vals.toList := by
  intro j v hv
  rw [Nat.zero_add, cell_of_block (i := j) h]
  simpa using hv
abbrev zeroOp : Obj := .cells #[.int .u64 0, .int .u64 0, .int .i64 0, .int .u64 0, .int .u64 0, .int .u64 0, .int .u64 0, .int .u64 0, .string ⟨#[]⟩, .int .i64 0, .int .i64 0, .float .f64 0, .string ⟨#[]⟩, .string ⟨#[]⟩, .int .u64 0, .int .u64 0, .int .u64 0, .int .u64 0, .bool false, .int .u64 0, .int .u64 0, .bool false] 31
/-- A new box, and an operation stored in it. -/
theorem newOp (W : World) (o : O) : Touch (fun _ => False) W ((W.alloc zeroOp).setCells W.heap.size 0 o.vals.toList) ∧ ((W.alloc zeroOp).setCells W.heap.size 0 o.vals.toList).heap[W.heap.size]? = some (opO o) := by
  refine ⟨((Touch.refl _ _).alloc _).stored (Nat.le_refl _) 0 _, ?_⟩
  rw [cells_storedS (heap_alloc_new W zeroOp)]
  kernel_rfl
set_option maxHeartbeats 4000000 in
theorem spans_stops {w : World} {p C1 C2 g q cap : Nat} {S : SS} {l : List O} {R : Nat → Prop} (hRl : ∀ k, R k → k < w.heap.size) (hS : ∀ wr, Touch (fun k => ¬ R k) w wr → SeqRd wr p S)
    (h1 : w.heap[C1]? = some (.cells #[.slice (some ⟨g, q, none⟩) l.length cap] 45 (0, 0))) (h2 : w.heap[C2]? = some (.cells #[.pointer (some ⟨p, 0, none⟩)] 33 (0, 0)))
    (r1 : R C1) (r2 : R C2) (rg : R g) (hle : l.length ≤ cap) (hmx : cap ≤ maxLen) (hl : ∀ i (h : i < l.length), w.rangeAt g (q + i * 22) l[i].vals.toList) (hf : ∀ o ∈ l, o.fits) :
    SeqP Tryz.prog 79 #[.pointer (some ⟨C1, 0, none⟩), .pointer (some ⟨C2, 0, none⟩)] (fun x : Spn => #[spnV x.f x.t x.o]) R (spansM S l) w := fun ly n' J Jx W Φ hW fJ fJx hR hY h0 => by
  have HC : Hid (∀ wr, Touch Φ W wr → wr.cell? ⟨C1, 0, none⟩ = some (.slice (some ⟨g, q, none⟩) l.length cap) ∧ wr.cell? ⟨C2, 0, none⟩ = some (.pointer (some ⟨p, 0, none⟩))) := fun wr t => by
    have e1 := (hW.block _ (lt_of_heap h1) fun q => q r1).trans h1
    have e2 := (hW.block _ (lt_of_heap h2) fun q => q r2).trans h2
    rw [cell_of_block ((t.block _ (lt_of_heap e1) (hR C1 r1)).trans e1), cell_of_block ((t.block _ (lt_of_heap e2) (hR C2 r2)).trans e2)]
    exact ⟨rfl, rfl⟩
  have HS : Hid (∀ wr, Touch Φ W wr → SeqRd wr p S) := fun wr t => hS wr (hW.trans (t.mono fun k _ hk hr => hR k hr hk))
  have HL : Hid (∀ wr, Touch Φ W wr → ∀ i (h : i < l.length), wr.rangeAt g (q + i * 22) l[i].vals.toList) := fun wr t i h => World.rangeAt_keep (World.rangeAt_keep (hl i h) hW fun x => x rg) t (hR g rg)
  have HY : Hid _ := hY
  have HFJ : Hid (Foot W.heap.size J) := fJ
  have HRP : Hid (∀ Ψ : Nat → Prop, Swells Φ Ψ W.heap.size → ∀ x, R x → ¬ Ψ x) := fun Ψ hs x hx hp => by
    rcases hs x hp with q | q
    · exact hR x hx q
    · have := hRl x hx; have := hW.size; omega
  have HF : Hid (∀ o ∈ l, o.fits) := hf
  obtain ⟨c1, c2⟩ := HC.out W (Touch.refl _ _)
  have H0 : Hid (J [] Φ W) := h0
  have hmx' : Hid (l.length ≤ maxLen) := Nat.le_trans hle hmx
  clear hW hR hY h1 h2 hS hl hf fJ fJx h0 r1 r2 rg hRl
  refine callsIn_of_wp Tryz.func79 rfl trivial ?_ rfl
  simp only [Tryz.ntmps79, List.size_toArray, List.length_cons, List.length_nil, Nat.reduceAdd, Nat.reduceSub, Array.replicate_succ, Array.replicate_zero, List.push_toArray, List.append_toArray, List.nil_append, List.cons_append]
  gi_wp2_with fail
  clear c1 c2
  gi_loopw [10] (fun i wr => ∃ (j : Nat) (Ψ : Nat → Prop), i = iV (j : Int) ∧ j ≤ l.length ∧ J (spansM S (l.take j)) Ψ wr ∧ Touch Φ W wr ∧ Swells Φ Ψ W.heap.size) (fun i _ => l.length - (intOf i).toNat)
  case atStart => exact ⟨0, Φ, rfl, Nat.zero_le _, by rw [List.take_zero]; exact H0.out, Touch.refl _ _, Swells.refl _ _⟩
  case round =>
    obtain ⟨j, Ψ, rfl, hj, hJr, hTr, hSr⟩ := hrel
    by_cases hlt : j < l.length
    · have HJr : Hid (J (spansM S (l.take j)) Ψ wr) := hJr
      have HTr : Hid (Touch Φ W wr) := hTr
      have HSr : Hid (Swells Φ Ψ W.heap.size) := hSr
      have HLt : Hid (j < l.length) := hlt
      have hi1 : (0 : Int) ≤ (j : Int) := by omega
      have hi2 : (j : Int) < (l.length : Int) := by omega
      have HRg : Hid (wr.rangeAt g (q + j * 22) l[j].vals.toList) := HL.out wr hTr j hlt
      have HFo : Hid (l[j].fits) := HF.out _ (List.getElem_mem hlt)
      have HTk : Hid (spansM S (l.take (j + 1)) = spansM S (l.take j) ++ (spanM S l[j]).toList ∧ spansM S (l.take (j + 1)) <+: spansM S l) := ⟨spansM_take hlt, spansM_pre l (j + 1)⟩
      have hjm : (j : Int) + 1 < 9223372036854775808 := by have := hmx'.out; simp only [maxLen] at this; omega
      generalize l[j] = o at *
      obtain ⟨W1, hW1⟩ : ∃ W1, Hid (W1 = (wr.alloc zeroOp).setCells wr.heap.size 0 o.vals.toList) := ⟨_, Eq.refl _⟩
      have HW1 : Hid (Touch (fun _ => False) wr W1 ∧ W1.heap[wr.heap.size]? = some (opO o)) := by rw [hW1.out]; exact newOp wr o
      have HZ : Hid ((wr.alloc zeroOp).heap[wr.heap.size]? = some zeroOp) := heap_alloc_new _ _
      have HT1 : Hid (Touch Φ W W1) := hTr.trans (HW1.out.1.mono fun _ _ q => q.elim)
      have HJ1 : Hid (J (spansM S (l.take j)) Ψ W1) := HFJ.out.keep _ _ _ _ hJr (HW1.out.1.mono fun _ _ q => q.elim)
      obtain ⟨-, -, k2, -, -, -⟩ := opO_head HW1.out.2
      have k33 := (HC.out W1 HT1.out).2
      have hsz := hTr.size
      clear hJr hTr hSr hlt hj HJr HTr
      iterate 18 (first | go_values | gi_guarded | gi_step)
      refine wpListIn_plain rfl fun K hK => ?_
      go_simp
      refine hK _ _ ?_
      clear hK K
      refine wpListIn_load_mid rfl 31 (.tmp 12) rfl g (q + j * 22) rfl o.vals.toList _ HRg.out Tryz.underlying31 rfl (by kernel_rfl) ?_
      simp only [Act.put, List.setIfInBounds_toArray, List.set_cons_succ, List.set_cons_zero]
      refine wpListIn_plain rfl fun K hK => ?_
      go_simp
      refine hK _ _ ?_
      clear hK K
      refine wpListIn_store_mid rfl 31 (.tmp 5) (.tmp 13) rfl wr.heap.size 0 o.vals rfl rfl (there_ofS HZ.out 0 22 (by decide)) (by kernel_rfl) (by kernel_rfl) ?_
      simp only [Act.put]
      rw [← hW1.out]
      generalize Value.agg #[.int .u64 o.c, .int .u64 o.k, .int .i64 o.kind, .int .u64 o.st, .int .u64 o.lc, .int .u64 o.lk, .int .u64 o.rc, .int .u64 o.rk, .string o.tx, .int .i64 o.vk, .int .i64 o.vn, .float .f64 o.vf, .string o.vs, .string o.ky, .int .u64 o.pc, .int .u64 o.pk, .int .u64 o.fc, .int .u64 o.fk, .bool o.fa, .int .u64 o.tc, .int .u64 o.tk, .bool o.ta] = v13
      clear hW1 HZ HRg
      generalize wr.heap.size = X at *
      cases hb : (o.kind == 3) with
      | false =>
        have HE : Hid (spansM S (l.take (j + 1)) = spansM S (l.take j)) := by
          have h3 : ¬ o.kind = 3 := by simpa using hb
          rw [Hid, HTk.out.1, spanM, if_neg fun h => h3 h.1]; simp
        have hb3 : (o.kind != 3) = true := by rw [bne, hb]; rfl
        clear hle hmx hi1 hi2 hb
        gi_wp2_with fail
        go_roundw
        case rel => exact ⟨j + 1, Ψ, by go_num, HLt.out, by rw [HE.out]; exact HJ1.out, HT1.out, HSr.out⟩
        case measure => simp only [intOf]; have := HLt.out; omega
      | true =>
        have hb2 : o.kind = 3 := by simpa using hb
        clear hi1 hi2
        clear hle hmx
        iterate 14 (first | go_values | gi_guarded | gi_step)
        iterate 10 (first | go_values | gi_guarded | gi_step)
        have HSp : Hid ((overM S o).1 < (overM S o).2 → spanM S o = some ⟨(overM S o).1, (overM S o).2, o⟩) := fun h => by rw [spanM, if_pos ⟨hb2, h⟩]
        have HSn : Hid (¬ (overM S o).1 < (overM S o).2 → spanM S o = none) := fun h => by rw [spanM, if_neg fun h' => h h'.2]
        refine wpListIn_plain rfl fun K hK => ?_
        go_simp
        refine hK _ _ ?_
        clear hK K hb hb2 k2
        refine wpListIn_load_mid rfl 31 (.tmp 5) rfl X 0 rfl o.vals.toList _ (rangeAt_ofS HW1.out.2) Tryz.underlying31 rfl (by kernel_rfl) ?_
        simp only [Act.put, List.setIfInBounds_toArray, List.set_cons_succ, List.set_cons_zero]
        refine wpListIn_plain rfl fun K hK => ?_
        go_simp
        refine ⟨trivial, wideN, (callsIn_wide.2 (over_any (HS.out W1 HT1.out) o HFo.out)).mono ?_⟩
        rintro e W2 ⟨rfl, t2⟩
        refine hK _ _ ?_
        clear hK K
        have HT2 : Hid (Touch Φ W W2) := HT1.out.trans (t2.mono fun _ _ q => q.elim)
        have HJ2 : Hid (J (spansM S (l.take j)) Ψ W2) := HFJ.out.keep _ _ _ _ HJ1.out (t2.mono fun _ _ q => q.elim)
        have HB2 : Hid (W2.heap[X]? = some (opO o)) := heap_keep t2 HW1.out.2
        have hsz2 : W.heap.size ≤ W2.heap.size := HT2.out.size
        generalize (overM S o).1 = a at *
        generalize (overM S o).2 = b at *
        clear t2 HW1 HT1 HJ1 k33 hsz
        generalize Value.agg #[.int .u64 o.c, .int .u64 o.k, .int .i64 o.kind, .int .u64 o.st, .int .u64 o.lc, .int .u64 o.lk, .int .u64 o.rc, .int .u64 o.rk, .string o.tx, .int .i64 o.vk, .int .i64 o.vn, .float .f64 o.vf, .string o.vs, .string o.ky, .int .u64 o.pc, .int .u64 o.pk, .int .u64 o.fc, .int .u64 o.fk, .bool o.fa, .int .u64 o.tc, .int .u64 o.tk, .bool o.ta] = v19
        by_cases hab : a < b
        · have hd : decide (a < b) = true := by simpa using hab
          have HE := HSp.out hab
          clear hab HSp HSn
          iterate 20 (first | go_values | gi_guarded | gi_step)
          refine wpListIn_plain rfl fun K hK => ?_
          go_simp
          refine hK _ _ ?_
          clear hK K
          refine wpListIn_plain rfl fun K hK => ?_
          go_simp
          refine hK _ _ ?_
          clear hK K
          refine wpListIn_plain rfl fun K hK => ?_
          go_simp
          refine hK _ _ ?_
          clear hK K
          refine wpListIn_plain rfl fun K hK => ?_
          go_simp
          refine hK _ _ ?_
          clear hK K
          refine wpListIn_step fun K hK => ?_
          rw [if_pos (by kernel_rfl)]
          go_simp
          refine hK _ _ ?_
          clear hK K
          refine wpListIn_step fun K hK => ?_
          rw [if_pos (by kernel_rfl)]
          go_simp
          refine hK _ _ ?_
          clear hK K
          refine wpListIn_step fun K hK => ?_
          rw [if_pos (by kernel_rfl)]
          go_simp
          refine hK _ _ ?_
          clear hK K
          refine wpListIn_step fun K hK => ?_
          rw [if_pos (by kernel_rfl)]
          refine wpIn_load_mid 31 (.tmp 5) rfl X 0 rfl o.vals.toList _ (rangeAt_ofS HB2.out) Tryz.underlying31 rfl (by kernel_rfl) (hK _ _ ?_)
          clear hK K
          simp only [Act.put, List.setIfInBounds_toArray, List.set_cons_succ, List.set_cons_zero]
          refine wpListIn_step fun K hK => ?_
          rw [if_pos (by kernel_rfl)]
          go_simp
          refine hK _ _ ?_
          clear hK K
          have HP1 : Hid (spansM S (l.take j) ++ [⟨a, b, o⟩] <+: spansM S l) := by
            have h := HTk.out.2
            rw [HTk.out.1, HE] at h
            exact h
          have HP2 : Hid (spansM S (l.take (j + 1)) = spansM S (l.take j) ++ [⟨a, b, o⟩]) := by rw [Hid, HTk.out.1, HE]; rfl
          obtain ⟨fn, tmps, assign, body, hy, hRd⟩ := HY.out (spansM S (l.take j)) ⟨a, b, o⟩ Ψ W2 HJ2.out (HRP.out Ψ HSr.out) HP1.out 0
          simp only [spnV] at hy
          clear HE HTk
          refine wpListIn_step fun K hK => ?_
          rw [if_pos (by kernel_rfl)]
          go_simp
          refine ⟨wideN, (round_wide hRd).mono ?_⟩
          rintro e W3 ⟨t3, Ψ3, s3, (⟨rfl, hJ3⟩ | ⟨rfl, hJ3⟩)⟩
          · have HT3 : Hid (Touch Φ W W3) := HT2.out.swell t3 HSr.out
            have HS3 : Hid (Swells Φ Ψ3 W.heap.size) := HSr.out.trans s3 hsz2
            have HJ3 : Hid (J (spansM S (l.take j) ++ [⟨a, b, o⟩]) Ψ3 W3) := hJ3
            clear hy hRd t3 s3 hJ3
            refine hK _ _ ?_
            clear hK K
            gi_wp2_with fail
            go_roundw
            case rel => exact ⟨j + 1, Ψ3, by go_num, HLt.out, by rw [HP2.out]; exact HJ3.out, HT3.out, HS3.out⟩
            case measure => simp only [intOf]; have := HLt.out; omega
          · have HT3 : Hid (Touch Φ W W3) := HT2.out.swell t3 HSr.out
            have HS3 : Hid (Swells Φ Ψ3 W.heap.size) := HSr.out.trans s3 hsz2
            have HJ3 : Hid (Jx (spansM S (l.take j) ++ [⟨a, b, o⟩]) Ψ3 W3) := hJ3
            clear hy hRd t3 s3 hJ3
            refine hK _ _ ?_
            clear hK K
            gi_wp2_with fail
            refine bodyPost_ret (results_none rfl _ _ _) rfl ?_
            exact ⟨⟨_, rfl⟩, HT3.out, Ψ3, HS3.out, .inr ⟨_, HP1.out, HJ3.out⟩⟩
        · have hd : decide (a < b) = false := by simpa using hab
          have HE : Hid (spansM S (l.take (j + 1)) = spansM S (l.take j)) := by
            rw [Hid, HTk.out.1, HSn.out hab]; simp
          clear hab HSp HSn
          iterate 20 (first | go_values | gi_guarded | gi_step)
          refine wpListIn_plain rfl fun K hK => ?_
          go_simp
          refine hK _ _ ?_
          clear hK K
          refine wpListIn_plain rfl fun K hK => ?_
          go_simp
          refine hK _ _ ?_
          clear hK K
          refine wpListIn_plain rfl fun K hK => ?_
          go_simp
          refine hK _ _ ?_
          clear hK K
          refine wpListIn_plain rfl fun K hK => ?_
          go_simp
          refine hK _ _ ?_
          clear hK K
          iterate 2 (first | go_values | gi_guarded | gi_step)
          refine ⟨fun _ _ => trivial, ?_⟩
          gi_wp2_with fail
          go_roundw
          case rel => exact ⟨j + 1, Ψ, by go_num, HLt.out, by rw [HE.out]; exact HJ2.out, HT2.out, HSr.out⟩
          case measure => simp only [intOf]; have := HLt.out; omega
    · have hjl : j = l.length := by omega
      subst hjl
      gi_wp2
      go_end0
      exact ⟨⟨_, rfl⟩, hTr, Ψ, hSr, .inl (by rw [List.take_length] at hJr; exact hJr)⟩
end Go.Proofs.YtdnhoicfolkbnaaGreat

/- Package marks: spans; greatestFirst. -/
namespace Go.Proofs.YtdnhoicfolkbnaaGreat
open Go.RowKit Go.Shelf
set_option linter.unusedVariables false
set_option linter.unusedSimpArgs false
set_option maxRecDepth 100000

theorem spans_any (s v : Value) (w : World) (hs : ∃ p, s = .pointer (some ⟨p, 0, none⟩)) (hv : ∃ ao n cap, v = .slice ao n cap) : Calls Tryz.prog 39 #[s, v] w fun e w' => e = .returned (.func (.func 79) #[] #[.pointer (some ⟨w.heap.size + 1, 0, none⟩), .pointer (some ⟨w.heap.size, 0, none⟩)]) ∧ w' = (w.alloc (.cells #[s] 33)).alloc (.cells #[v] 45) := by
  obtain ⟨p, rfl⟩ := hs
  obtain ⟨ao, n, cap, rfl⟩ := hv
  go_enter Tryz.func39, Tryz.ntmps39
  go_wp2_with fail
  go_ret
  exact ⟨rfl, rfl⟩
abbrev spnO (x : Spn) : Obj := .cells (#[.int .i64 x.f, .int .i64 x.t, .int .u64 x.o.c, .int .u64 x.o.k, .int .i64 x.o.kind, .int .u64 x.o.st, .int .u64 x.o.lc, .int .u64 x.o.lk, .int .u64 x.o.rc, .int .u64 x.o.rk, .string x.o.tx, .int .i64 x.o.vk, .int .i64 x.o.vn, .float .f64 x.o.vf, .string x.o.vs, .string x.o.ky, .int .u64 x.o.pc, .int .u64 x.o.pk, .int .u64 x.o.fc, .int .u64 x.o.fk, .bool x.o.fa, .int .u64 x.o.tc, .int .u64 x.o.tk, .bool x.o.ta]) 83
theorem rangeAt_spn {W : World} {m : Nat} {x : Spn} (h : W.heap[m]? = some (spnO x)) : W.rangeAt m 2 x.o.vals.toList := by
  intro j v hv
  rw [cell_of_block h, show 2 + j = j + 1 + 1 by omega]
  simpa using hv
/-- Which of two spans comes first: the greater mark. -/
def greatM (a b : O) : Int := if lessM b a then -1 else if lessM a b then 1 else 0
set_option maxHeartbeats 4000000 in
theorem greatest_any (a b : Spn) (w : World) : Calls Tryz.prog 84 #[spnV a.f a.t a.o, spnV b.f b.t b.o] w fun e w' => e = .returned (.int .i64 (greatM a.o b.o)) ∧ Touch (fun _ => False) w w' := by
  obtain ⟨E, hE⟩ : ∃ E, Hid (E = (w.alloc (spnO a)).alloc (spnO b)) := ⟨_, Eq.refl _⟩
  have HTE : Hid (Touch (fun _ => False) w E) := by rw [hE.out]; exact ((Touch.refl _ _).alloc _).alloc _
  have HB : Hid (∀ W, Touch (fun _ => False) E W → W.heap[w.heap.size]? = some (spnO a) ∧ W.heap[w.heap.size + 1]? = some (spnO b)) := by
    have h1 : E.heap[w.heap.size]? = some (spnO a) := by rw [hE.out]; exact (Below.heap_alloc _ _ _ (by simp)).trans (heap_alloc_new _ _)
    have h2 : E.heap[w.heap.size + 1]? = some (spnO b) := by
      have := heap_alloc_new (w.alloc (spnO a)) (spnO b)
      rw [World.size_alloc] at this
      rw [hE.out]; exact this
    exact fun W t => ⟨heap_keep t h1, heap_keep t h2⟩
  have HL1 : Hid (∀ W, Calls Tryz.prog 27 #[b.o.val, a.o.val] W fun e w' => e = .returned (.bool (lessM b.o a.o)) ∧ Touch (fun _ => False) W w') := mless_any b.o a.o
  have HL2 : Hid (∀ W, Calls Tryz.prog 27 #[a.o.val, b.o.val] W fun e w' => e = .returned (.bool (lessM a.o b.o)) ∧ Touch (fun _ => False) W w') := mless_any a.o b.o
  have HG : Hid (greatM a.o b.o = if lessM b.o a.o then -1 else if lessM a.o b.o then 1 else 0) := rfl
  generalize greatM a.o b.o = gr at *
  generalize lessM b.o a.o = c1 at *
  generalize lessM a.o b.o = c2 at *
  obtain ⟨af, at_, x⟩ := a
  obtain ⟨bf, bt, y⟩ := b
  simp only at HL1 HL2 HB hE ⊢
  go_enter Tryz.func84, Tryz.ntmps84
  go_upto_region 1 with fail
  rw [← hE.out]
  clear hE
  refine wp_region_lit ?_
  refine wpList_plain rfl fun K hK => ?_
  go_simp
  refine hK _ _ ?_
  clear hK K
  refine wpList_load_mid rfl 31 (.tmp 6) rfl (w.heap.size + 1) 2 rfl y.vals.toList _ (rangeAt_spn (HB.out E (Touch.refl _ _)).2) Tryz.underlying31 rfl (by kernel_rfl) ?_
  simp only [Act.put, List.setIfInBounds_toArray, List.set_cons_succ, List.set_cons_zero]
  refine wpList_plain rfl fun K hK => ?_
  go_simp
  refine hK _ _ ?_
  clear hK K
  refine wpList_load_mid rfl 31 (.tmp 8) rfl w.heap.size 2 rfl x.vals.toList _ (rangeAt_spn (HB.out E (Touch.refl _ _)).1) Tryz.underlying31 rfl (by kernel_rfl) ?_
  simp only [Act.put, List.setIfInBounds_toArray, List.set_cons_succ, List.set_cons_zero]
  refine wpList_plain rfl fun K hK => ?_
  go_simp
  refine (HL1.out _).mono ?_
  rintro e W1 ⟨rfl, t1⟩
  refine hK _ _ ?_
  clear hK K
  have HT1 : Hid (Touch (fun _ => False) E W1) := t1
  clear t1 HL1
  generalize Value.agg #[.int .u64 x.c, .int .u64 x.k, .int .i64 x.kind, .int .u64 x.st, .int .u64 x.lc, .int .u64 x.lk, .int .u64 x.rc, .int .u64 x.rk, .string x.tx, .int .i64 x.vk, .int .i64 x.vn, .float .f64 x.vf, .string x.vs, .string x.ky, .int .u64 x.pc, .int .u64 x.pk, .int .u64 x.fc, .int .u64 x.fk, .bool x.fa, .int .u64 x.tc, .int .u64 x.tk, .bool x.ta] = v9
  generalize Value.agg #[.int .u64 y.c, .int .u64 y.k, .int .i64 y.kind, .int .u64 y.st, .int .u64 y.lc, .int .u64 y.lk, .int .u64 y.rc, .int .u64 y.rk, .string y.tx, .int .i64 y.vk, .int .i64 y.vn, .float .f64 y.vf, .string y.vs, .string y.ky, .int .u64 y.pc, .int .u64 y.pk, .int .u64 y.fc, .int .u64 y.fk, .bool y.fa, .int .u64 y.tc, .int .u64 y.tk, .bool y.ta] = v7
  cases c1 with
  | true =>
    go_wp2_with fail
    go_ret
    exact ⟨by rw [HG.out]; rfl, HTE.out.trans HT1.out⟩
  | false =>
    go_upto_region 3 with fail
    refine wp_region_lit ?_
    refine wpList_plain rfl fun K hK => ?_
    go_simp
    refine hK _ _ ?_
    clear hK K
    refine wpList_load_mid rfl 31 (.tmp 12) rfl w.heap.size 2 rfl x.vals.toList _ (rangeAt_spn (HB.out W1 HT1.out).1) Tryz.underlying31 rfl (by kernel_rfl) ?_
    simp only [Act.put, List.setIfInBounds_toArray, List.set_cons_succ, List.set_cons_zero]
    refine wpList_plain rfl fun K hK => ?_
    go_simp
    refine hK _ _ ?_
    clear hK K
    refine wpList_load_mid rfl 31 (.tmp 14) rfl (w.heap.size + 1) 2 rfl y.vals.toList _ (rangeAt_spn (HB.out W1 HT1.out).2) Tryz.underlying31 rfl (by kernel_rfl) ?_
    simp only [Act.put, List.setIfInBounds_toArray, List.set_cons_succ, List.set_cons_zero]
    refine wpList_plain rfl fun K hK => ?_
    go_simp
    refine (HL2.out _).mono ?_
    rintro e W2 ⟨rfl, t2⟩
    refine hK _ _ ?_
    clear hK K
    have HT2 : Hid (Touch (fun _ => False) w W2) := (HTE.out.trans HT1.out).trans t2
    clear t2 HL2 HT1 HB
    generalize Value.agg #[.int .u64 x.c, .int .u64 x.k, .int .i64 x.kind, .int .u64 x.st, .int .u64 x.lc, .int .u64 x.lk, .int .u64 x.rc, .int .u64 x.rk, .string x.tx, .int .i64 x.vk, .int .i64 x.vn, .float .f64 x.vf, .string x.vs, .string x.ky, .int .u64 x.pc, .int .u64 x.pk, .int .u64 x.fc, .int .u64 x.fk, .bool x.fa, .int .u64 x.tc, .int .u64 x.tk, .bool x.ta] = v13
    generalize Value.agg #[.int .u64 y.c, .int .u64 y.k, .int .i64 y.kind, .int .u64 y.st, .int .u64 y.lc, .int .u64 y.lk, .int .u64 y.rc, .int .u64 y.rk, .string y.tx, .int .i64 y.vk, .int .i64 y.vn, .float .f64 y.vf, .string y.vs, .string y.ky, .int .u64 y.pc, .int .u64 y.pk, .int .u64 y.fc, .int .u64 y.fk, .bool y.fa, .int .u64 y.tc, .int .u64 y.tk, .bool y.ta] = v15
    cases c2 with
    | true =>
      go_wp2_with fail
      go_ret
      exact ⟨by rw [HG.out]; rfl, HT2.out⟩
    | false =>
      go_wp2_with fail
      go_ret
      exact ⟨by rw [HG.out]; rfl, HT2.out⟩
end Go.Proofs.YtdnhoicfolkbnaaGreat

/- A map of strings to operations: its datum, lookups and updates within a round. -/
namespace Go.Proofs.YtdnhoicfolkbnaaGreat
open Go.RowKit Go.Maps
set_option linter.unusedVariables false
set_option linter.unusedSimpArgs false
set_option maxRecDepth 100000

abbrev zeroOO : O := ⟨0, 0, 0, 0, 0, 0, 0, 0, ⟨#[]⟩, 0, 0, 0, ⟨#[]⟩, ⟨#[]⟩, 0, 0, 0, 0, false, 0, 0, false⟩
def getO (k : Key) (es : List (Key × O)) : O := (aget k es).getD zeroOO
/-- How an element reads: as itself. -/
def heldO (v : Value) : Option (DataW Value × List MemPlace) := some (.held v, [])
def toO (es : List (Key × O)) : DataW Value := .map (es.map fun p => (.string p.1, .held p.2.val))

theorem toO_ins (k : Key) (f : O) : ∀ es : List (Key × O), DataW.insert (Lit.string k, DataW.held f.val) (es.map fun p => (Lit.string p.1, DataW.held p.2.val)) = (ains k f es).map fun p => (Lit.string p.1, DataW.held p.2.val)
  | [] => rfl
  | y :: r => by
    have ih := toO_ins k f r
    by_cases e : bytesBefore k y.1 = true
    · have e2 : (Lit.string k).before (Lit.string y.1) = true := e
      simp [ains, DataW.insert, e, e2]
    · have e2 : ¬ (Lit.string k).before (Lit.string y.1) = true := e
      simp [ains, DataW.insert, e, e2, ih]
theorem toO_fil (k : Key) (es : List (Key × O)) : (es.map fun p => (Lit.string p.1, DataW.held (H := Value) p.2.val)).filter (fun p => !p.1.sameKey (.string k)) = (adel k es).map fun p => (Lit.string p.1, DataW.held p.2.val) := by
  simp only [adel, List.filter_map, Function.comp_def, Lit.sameKey]
theorem toO_put (k : Key) (f : O) (es : List (Key × O)) : (toO es).put (.string k) (.held f.val) = toO (aput k f es) := by
  simp only [toO, DataW.put, toO_fil, toO_ins, aput]
theorem toO_del (k : Key) (es : List (Key × O)) : (toO es).del (.string k) = toO (adel k es) := by
  simp only [toO, DataW.del, toO_fil]
theorem toO_has (k : Key) : ∀ es : List (Key × O), Maps.has (toO es) (.string k) = (aget k es).isSome
  | [] => rfl
  | y :: r => by
    have := toO_has k r
    simp only [toO, Maps.has, List.map_cons, List.any_cons, Lit.sameKey, aget] at this ⊢
    by_cases e : y.1 = k
    · simp [e]
    · have e2 : (y.1 == k) = false := by simpa using e
      rw [e2, this]; simp
theorem toO_at (k : Key) : ∀ es : List (Key × O), (toO es).atKey (.string k) (.held zeroOO.val) = .held (getO k es).val
  | [] => rfl
  | y :: r => by
    have := toO_at k r
    simp only [toO, DataW.atKey, List.map_cons, List.find?_cons, Lit.sameKey, getO, aget] at this ⊢
    by_cases e : y.1 = k
    · simp [e]
    · simp only [beq_iff_eq, e, if_false]
      have e2 : (y.1 == k) = false := by simpa using e
      rw [e2]; exact this
theorem toO_size (es : List (Key × O)) : Maps.size (toO es) = es.length := by simp [toO, Maps.size]
theorem toO_keys (es : List (Key × O)) : strKeys (toO es) = es.map (·.1) := by simp [toO, strKeys, strOf, Function.comp_def]
theorem lawS : Keyed Tryz.prog 9 := string_keyed Tryz.underlying9
theorem keyStrO (s : ByteArray) (hs : s.size ≤ maxLen) : keyOf Tryz.prog 9 (.string s) = some (.string s.data.toList) := WideMaps.keyOf_string_mk Tryz.underlying9 hs
theorem zeroOpRun (w : World) : (zeroValue 31).run Tryz.prog w = .ok zeroOO.val w := by kernel_rfl
theorem ownsO_touch {S : Nat → Prop} {w w' : World} {m n : Nat} {D : DataW Value} (h : w.ownsMap Tryz.prog 9 heldO m n D) (t : Touch S w w') (hm : ¬ S m) : w'.ownsMap Tryz.prog 9 heldO m n D := by
  have hl := h.lt
  obtain ⟨es, c, hb, r⟩ := h
  exact ⟨es, c, (t.block m hl hm).trans hb, r⟩
section
variable {F : Fence} {nF : Nat}
theorem wpListIn_lookO (w : World) {ops : Array Oper} {rest : List Oper} {o : Oper} {a : Act} {Q : Exit → Act → World → Prop}
    (hg : o.guard = none) (m x : Operand) (hop : o.op = Op.lookup 94 m x true) (b n : Nat) (es : List (Key × O))
    (hm : a.eval m = .map (some b)) (hown : w.ownsMap Tryz.prog 9 heldO b n (toO es)) (s : ByteArray) (hs : s.size ≤ maxLen) (hx : a.eval x = .string s)
    (hK : wpListIn F nF Tryz.prog ops Q rest (a.put o.dst (.tuple #[(getO s.data.toList es).val, .bool (aget s.data.toList es).isSome])) w) :
    wpListIn F nF Tryz.prog ops Q (o :: rest) a w :=
  wpListIn_lookup_own_ok w hg m x _ hop 9 31 lawS Tryz.underlying94 heldO (zeroOpRun w) (.held zeroOO.val) [] rfl b n (toO es) hm hown _ _ hx (keyStrO s hs) fun v ps hv => by
    rw [toO_at] at hv
    rw [toO_has]
    simp only [heldO, Option.some.injEq, Prod.mk.injEq, DataW.held.injEq] at hv
    rw [hv.1]; exact hK
theorem wpListIn_putO (w : World) {ops : Array Oper} {rest : List Oper} {o : Oper} {a : Act} {Q : Exit → Act → World → Prop}
    (hg : o.guard = none) (m x v : Operand) (hop : o.op = Op.mapUpdate 94 m x v) (b n : Nat) (es : List (Key × O))
    (hm : a.eval m = .map (some b)) (hown : w.ownsMap Tryz.prog 9 heldO b n (toO es)) (hn : n < maxLen) (s : ByteArray) (hs : s.size ≤ maxLen) (hx : a.eval x = .string s) (y : O) (hv : a.eval v = y.val)
    (hK : ∀ w', w'.ownsMap Tryz.prog 9 heldO b (n + 1) (toO (aput s.data.toList y es)) → w.mapTurned w' b → wpListIn F nF Tryz.prog ops Q rest (a.put o.dst undef) w') :
    wpListIn F nF Tryz.prog ops Q (o :: rest) a w :=
  wpListIn_mapUpdate_in w hg m x v _ hop 9 31 lawS Tryz.underlying94 heldO b n (toO es) hm hown hn _ _ _ hx hv (keyStrO s hs) (.held y.val) [] rfl fun w' h1 h2 => hK w' (by rw [← toO_put]; exact h1) h2
end
end Go.Proofs.YtdnhoicfolkbnaaGreat

/- Package marks: winners by keys, as lists (no Go in it): the document's list in order is the program's map, told by its keys in order. -/
namespace Go.Proofs.YtdnhoicfolkbnaaGreat
open Go.RowKit Go.Maps
set_option linter.unusedVariables false
set_option linter.unusedSimpArgs false

section
variable {α : Type}
/-- The program's: the winner of a key, in its map. -/
def winP (less : α → α → Bool) (k : Key) (o : α) (es : List (Key × α)) : List (Key × α) :=
  match aget k es with
  | none => aput k o es
  | some b => if less b o then aput k o es else es
/-- The document's: where a key belongs in its list. -/
def idxR (k : Key) (es : List (Key × α)) : Nat := (es.takeWhile fun p => bytesBefore p.1 k).length
def winR (less : α → α → Bool) (k : Key) (o : α) (es : List (Key × α)) : List (Key × α) :=
  match es[idxR k es]? with
  | none => es ++ [(k, o)]
  | some y => if y.1 = k then (if less y.2 o then es.set (idxR k es) (k, o) else es) else es.take (idxR k es) ++ (k, o) :: es.drop (idxR k es)
theorem adel_none {k : Key} {es : List (Key × α)} (h : ∀ p ∈ es, p.1 ≠ k) : adel k es = es := by
  unfold adel
  rw [List.filter_eq_self]
  intro p hp
  simpa using h p hp
theorem winP_rising {less : α → α → Bool} {k : Key} {o : α} {es : List (Key × α)} (h : Rising es) : Rising (winP less k o es) := by
  unfold winP
  split
  · exact h.aput
  · split
    · exact h.aput
    · exact h
theorem win_eq (less : α → α → Bool) (k : Key) (o : α) : ∀ es : List (Key × α), Rising es → winR less k o es = winP less k o es
  | [], _ => rfl
  | y :: r, h => by
    have h' := List.pairwise_cons.1 h
    by_cases hb : bytesBefore y.1 k = true
    · have ih := win_eq less k o r h'.2
      have hne : y.1 ≠ k := before_ne hb
      have hnk : bytesBefore k y.1 = false := by
        cases e : bytesBefore k y.1 with
        | false => rfl
        | true =>
          have := before_trans _ _ _ hb e
          rw [before_irrefl] at this; cases this
      have hi : idxR k (y :: r) = idxR k r + 1 := by unfold idxR; rw [List.takeWhile_cons_of_pos (p := fun p : Key × α => bytesBefore p.1 k) hb]; rfl
      have hg : aget k (y :: r) = aget k r := by
        have hb' : (y.1 == k) = false := by simpa using hne
        show (if y.1 == k then some y.2 else aget k r) = aget k r
        rw [hb']; rfl
      have hp : aput k o (y :: r) = y :: aput k o r := by
        have hb' : (y.1 == k) = false := by simpa using hne
        have hd : adel k (y :: r) = y :: adel k r := by unfold adel; rw [List.filter_cons, hb']; rfl
        unfold aput
        rw [hd]
        show (if bytesBefore k y.1 then (k, o) :: y :: adel k r else y :: ains k o (adel k r)) = _
        rw [hnk]; rfl
      have hR : winR less k o (y :: r) = y :: winR less k o r := by
        unfold winR
        rw [hi, List.getElem?_cons_succ]
        cases r[idxR k r]? with
        | none => rfl
        | some z =>
          simp only [List.set_cons_succ, List.take_succ_cons, List.drop_succ_cons]
          split
          · split <;> rfl
          · rfl
      rw [hR, ih]
      unfold winP
      rw [hg]
      cases aget k r with
      | none => simp only [hp]
      | some b =>
        simp only
        split
        · rw [hp]
        · rfl
    · have hb' : bytesBefore y.1 k = false := by simpa using hb
      have hi : idxR k (y :: r) = 0 := by unfold idxR; rw [List.takeWhile_cons_of_neg (by simpa using hb')]; rfl
      have hr : ∀ p ∈ r, p.1 ≠ k := fun p hp e => by
        have := h'.1 p hp
        rw [e, hb'] at this; cases this
      unfold winR
      rw [hi, List.getElem?_cons_zero]
      simp only [List.set_cons_zero, List.take_zero, List.drop_zero, List.nil_append]
      by_cases hk : y.1 = k
      · have hg : aget k (y :: r) = some y.2 := by
          show (if y.1 == k then some y.2 else aget k r) = some y.2
          rw [if_pos (by simpa using hk)]
        have hp : aput k o (y :: r) = (k, o) :: r := by
          have hd : adel k (y :: r) = r := by
            have hb2 : (y.1 == k) = true := by simpa using hk
            unfold adel
            rw [List.filter_cons, hb2]
            exact adel_none hr
          unfold aput
          rw [hd]
          cases r with
          | nil => rfl
          | cons z r =>
            have hz : bytesBefore k z.1 = true := by rw [← hk]; exact h'.1 z (by simp)
            show (if bytesBefore k z.1 then (k, o) :: z :: r else z :: ains k o r) = _
            rw [hz]; rfl
        unfold winP
        rw [hg, if_pos hk]
        simp only [hp]
      · have hg : aget k (y :: r) = none := aget_none.2 fun p hp => by
          rcases List.mem_cons.1 hp with rfl | hp
          · exact hk
          · exact hr p hp
        have hp : aput k o (y :: r) = (k, o) :: y :: r := by
          unfold aput
          rw [adel_none (aget_none.1 hg)]
          show (if bytesBefore k y.1 then (k, o) :: y :: r else y :: ains k o r) = _
          rw [before_total _ _ hk hb']; rfl
        unfold winP
        rw [hg, if_neg hk, hp]
end
end Go.Proofs.YtdnhoicfolkbnaaGreat
