/- Package seq: sequences side by side, with units beside them. -/
import Derived.Test.YtcolbgbmnmkogabSeqW6
import Derived.Test.YtcolbgbmnmkogabSeqX3
import Derived.Test.YtcolbgbmnmkogabRowV
import Derived.Test.YtcolbgbmnmkogabSqU
namespace Go.Proofs.Ytcolbgbmnmkogab
open Go.RowKit
set_option linter.unusedVariables false
set_option linter.unusedSimpArgs false

/-- A sequence at p, made since w0, in the blocks B. -/
structure Sq1 (w0 w : World) (p : Nat) (B : Bk) (S : SS) : Prop where
  mem : SeqM w B S
  at_ : B.b = p
  new : ∀ k, B.has k → w0.heap.size ≤ k
  inv : Inv S
def ApartB (B C : Bk) : Prop := ∀ k, B.has k → ¬ C.has k
theorem ApartB.symm {B C : Bk} (h : ApartB B C) : ApartB C B := fun k hk hb => h k hb hk
theorem Sq1.touch {w0 w w' : World} {p : Nat} {B : Bk} {S : SS} (h : Sq1 w0 w p B S) (t : Touch (fun _ => False) w w') : Sq1 w0 w' p B S := ⟨h.mem.keep0 t, h.at_, h.new, h.inv⟩
/-- Another one's blocks are touched alone. -/
theorem Sq1.other {w0 w w' : World} {p : Nat} {B C : Bk} {S : SS} (h : Sq1 w0 w p B S) (t : Touch C.has w w') (ha : ApartB B C) : Sq1 w0 w' p B S := ⟨h.mem.keep t ha, h.at_, h.new, h.inv⟩
/-- A block of a sequence has a type of its own. -/
theorem SeqM.typ {w : World} {B : Bk} {S : SS} (h : SeqM w B S) {k : Nat} (hk : B.has k) : ∃ c t fr, w.heap[k]? = some (.cells c t fr) ∧ t ≠ 33 := by
  rcases hk with rfl | rfl | rfl | rfl | rfl
  · obtain ⟨c, hc⟩ := h.blk
    exact ⟨c, _, _, hc, by decide⟩
  · obtain ⟨c, hc, _⟩ := h.runs.row
    exact ⟨c, _, _, hc, by decide⟩
  · obtain ⟨c, hc, _⟩ := h.pcs.row
    exact ⟨c, _, _, hc, by decide⟩
  · obtain ⟨L, tr, h1, _⟩ := h.ord
    obtain ⟨c, hc, _⟩ := h1.row
    exact ⟨c, _, _, hc, by decide⟩
  · obtain ⟨L, tr, h1, _⟩ := h.idx
    obtain ⟨c, hc, _⟩ := h1.row
    exact ⟨c, _, _, hc, by decide⟩
theorem SeqM.noBox {w : World} {B : Bk} {S : SS} (h : SeqM w B S) {m : Nat} {u : Un} (hm : w.heap[m]? = some (unO u)) : ¬ B.has m := fun hk => by
  obtain ⟨c, t, fr, e, ht⟩ := h.typ hk
  rw [hm] at e
  simp at e
  exact ht e.2.1.symm
theorem SeqM.noOwn {w0 w : World} {B : Bk} {S : SS} {v : Value} {n : Nat} {xs : List Value} (h : SeqM w B S) (hv : OwnV w0 w v n xs) : ∀ k, v.ownBlock = some k → ¬ B.has k := fun k e hk => by
  obtain ⟨c, t, fr, e2, ht⟩ := h.typ hk
  rcases hv.owns.2 with ⟨e', _⟩ | ⟨g, cap, cur, e', q, hg, _⟩
  · rw [e'] at e; simp [Value.ownBlock] at e
  · rw [e'] at e
    have hgk : g = k := by simpa [Value.ownBlock] using e
    rw [hgk, e2] at hg
    simp at hg
    exact ht hg.2.1
theorem Sq1.ins {w0 w : World} {p : Nat} {B : Bk} {S : SS} (h : Sq1 w0 w p B S) (u : Un) (hu : u.ok) {n : Nat} (hz : Size S n) (hn : n ≤ 1000000) :
    Calls Try.prog 9 #[.pointer (some ⟨p, 0, none⟩), .agg #[.int .u64 u.c, .int .u64 u.k, .int .u64 u.lc, .int .u64 u.lk, .int .u64 u.rc, .int .u64 u.rk]] w fun e w' => e = .returned (.bool (S.may u 1)) ∧ ∃ B', Sq1 w0 w' p B' (S.run u 1) ∧ (∀ x, B'.has x → B.has x ∨ w.heap.size ≤ x) ∧ Touch B.has w w' := by
  have hp := h.at_
  subst hp
  refine (insert_any h.mem h.inv u hu (hz.room hn 1 (by omega))).mono ?_
  rintro e w' ⟨rfl, B', a, b, c, d⟩
  refine ⟨rfl, B', ⟨a, b, fun k hk => ?_, (h.inv.run1 hu hz hn).1⟩, c, d⟩
  rcases c k hk with e | e
  · exact h.new k e
  · obtain ⟨c', hc⟩ := h.mem.blk
    have h1 := lt_of_heap hc
    have h2 := h.new B.b (.inl rfl)
    omega
theorem Sq1.len {w0 w : World} {p : Nat} {B : Bk} {S : SS} (h : Sq1 w0 w p B S) :
    Calls Try.prog 13 #[.pointer (some ⟨p, 0, none⟩)] w fun e w' => e = .returned (.int .i64 (S.units.length : Int)) ∧ Touch (fun _ => False) w w' := by
  have hp := h.at_
  subst hp
  have := len_any h.mem
  rw [← h.inv.units_len] at this
  exact this
theorem Sq1.at' {w0 w : World} {p : Nat} {B : Bk} {S : SS} (h : Sq1 w0 w p B S) (i : Int) (hi : -4611686018427387904 ≤ i ∧ i ≤ 4611686018427387904) :
    Calls Try.prog 12 #[.pointer (some ⟨p, 0, none⟩), .int .i64 i] w fun e w' => e = .returned (.tuple #[.agg #[.int .u64 ((S.at_ i).1).c, .int .u64 ((S.at_ i).1).k, .int .u64 ((S.at_ i).1).lc, .int .u64 ((S.at_ i).1).lk, .int .u64 ((S.at_ i).1).rc, .int .u64 ((S.at_ i).1).rk], .bool (S.at_ i).2]) ∧ Touch (fun _ => False) w w' := by
  have hp := h.at_
  subst hp
  exact at_any2 h.mem h.inv i hi
theorem Sq1.find {w0 w : World} {p : Nat} {B : Bk} {S : SS} (h : Sq1 w0 w p B S) (c k : Int) (hc : 0 ≤ c) (hk : 0 ≤ k) (hk2 : k < 18446744073709551616) :
    Calls Try.prog 14 #[.pointer (some ⟨p, 0, none⟩), .agg #[.int .u64 c, .int .u64 k]] w fun e w' => e = .returned (.int .i64 (S.find c k)) ∧ Touch (fun _ => False) w w' := by
  have hp := h.at_
  subst hp
  exact find_any h.mem h.inv c k hc hk hk2
theorem Sq1.fresh (w0 w : World) (t : Touch (fun _ => False) w0 w) :
    Calls Try.prog 7 #[] w fun e w' => ∃ p B, e = .returned (.pointer (some ⟨p, 0, none⟩)) ∧ Sq1 w0 w' p B .new ∧ (∀ k, B.has k → w.heap.size ≤ k) ∧ Touch (fun _ => False) w w' := by
  refine (new_any w).mono ?_
  rintro e w' ⟨B, rfl, a, b, c⟩
  exact ⟨B.b, B, rfl, ⟨a, rfl, fun k hk => Nat.le_trans t.size (b k hk), Inv.new⟩, b, c⟩
theorem Sq1.copy {w0 w : World} {p : Nat} {B : Bk} {S : SS} (h : Sq1 w0 w p B S) {n : Nat} (hz : Size S n) (hn : n ≤ 1000000) (t : Touch (fun _ => False) w0 w) :
    Calls Try.prog 10 #[.pointer (some ⟨p, 0, none⟩)] w fun e w' => ∃ q C, e = .returned (.pointer (some ⟨q, 0, none⟩)) ∧ Sq1 w0 w' q C S ∧ (∀ k, C.has k → w.heap.size ≤ k) ∧ Touch (fun _ => False) w w' := by
  have hp := h.at_
  subst hp
  have h1 := hz.pcs
  have h2 := hz.runs
  refine (copy_any h.mem (by omega) (by omega)).mono ?_
  rintro e w' ⟨C, rfl, a, b, c⟩
  exact ⟨C.b, C, rfl, ⟨a, rfl, fun k hk => Nat.le_trans t.size (b k hk), h.inv⟩, b, c⟩
/-- Blocks that are new are none of another's. -/
theorem Sq1.apart {w0 w : World} {p : Nat} {B C C' : Bk} {S : SS} (h : Sq1 w0 w p B S) (ha : ApartB B C) (hc : ∀ x, C'.has x → C.has x ∨ w.heap.size ≤ x) : ApartB B C' := fun k hk hk' => by
  rcases hc k hk' with e | e
  · exact ha k hk e
  · have := h.mem.lt hk
    omega
theorem Sq1.touch0 {w0 w w' : World} {p : Nat} {B : Bk} {S : SS} (h : Sq1 w0 w p B S) (t0 : Touch (fun _ => False) w0 w) (t : Touch B.has w w') : Touch (fun _ => False) w0 w' := t0.then t fun k hk e => by
  have := h.new k e
  omega
theorem OwnV.onB {w0 w w' : World} {p : Nat} {B : Bk} {S : SS} {v : Value} {n : Nat} {xs : List Value} (hv : OwnV w0 w v n xs) (h : Sq1 w0 w p B S) (t : Touch B.has w w') : OwnV w0 w' v n xs :=
  ⟨ownV_touch hv.owns t (h.mem.noOwn hv), h.touch0 hv.touch t, hv.fresh⟩
end Go.Proofs.Ytcolbgbmnmkogab
