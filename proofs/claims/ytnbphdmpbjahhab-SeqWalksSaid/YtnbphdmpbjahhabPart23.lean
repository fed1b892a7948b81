/- Package seq: sequences side by side, with units beside them. -/
import Derived.Test.YtnbphdmpbjahhabSeqW6
import Derived.Test.YtnbphdmpbjahhabPart22
import Derived.Test.YtnbphdmpbjahhabRowV
import Derived.Test.YtnbphdmpbjahhabPart21
import Derived.Test.YtnbphdmpbjahhabPart14
namespace Go.Proofs.Ytnbphdmpbjahhab
open Go.RowKit
set_option linter.unusedVariables false
set_option linter.unusedSimpArgs false

/-- A sequence at p, made since w0, in the blocks B. -/
structure Sq1 (w0 w : World) (p : Nat) (B : Bk) (S : SS) : Prop where
  mem : SeqM w B S
  at_ : B.b = p
  new : ∀ k, B.has k → w0.heap.size ≤ k
  inv : Inv S
def ApartB (B C : Bk) : Prop := ∀ k, B.has k → ¬ C.has k
theorem ApartB.symm {B C : Bk} (h : ApartB B C) : ApartB C B := fun k hk hb => h k hb hk
theorem Sq1.touch {w0 w w' : World} {p : Nat} {B : Bk} {S : SS} (h : Sq1 w0 w p B S) (t : Touch (fun _ => False) w w') : Sq1 w0 w' p B S := ⟨h.mem.keep0 t, h.at_, h.new, h.inv⟩
/-- Another one's blocks are touched alone. -/
theorem Sq1.other {w0 w w' : World} {p : Nat} {B C : Bk} {S : SS} (h : Sq1 w0 w p B S) (t : Touch C.has w w') (ha : ApartB B C) : Sq1 w0 w' p B S := ⟨h.mem.keep t ha, h.at_, h.new, h.inv⟩
/-- A block of a sequence has a type of its own. -/
theorem SeqM.typ {w : World} {B : Bk} {S : SS} (h : SeqM w B S) {k : Nat} (hk : B.has k) : ∃ c t fr, w.heap[k]? = some (.cells c t fr) ∧ t ≠ 33 := by
  rcases hk with rfl | rfl | rfl | rfl | rfl
  · obtain ⟨c, hc⟩ := h.blk
    exact ⟨c, _, _, hc, by decide⟩
  · obtain ⟨c, hc, _⟩ := h.runs.row
    exact ⟨c, _, _, hc, by decide⟩
  · obtain ⟨c, hc, _⟩ := h.pcs.row
    exact ⟨c, _, _, hc, by decide⟩
  · obtain ⟨L, tr, h1, _⟩ := h.ord
    obtain ⟨c, hc, _⟩ := h1.row
    exact ⟨c, _, _, hc, by decide⟩
  · obtain ⟨L, tr, h1, _⟩ := h.idx
    obtain ⟨c, hc, _⟩ := h1.row
    exact ⟨c, _, _, hc, by decide⟩
theorem SeqM.noBox {w : World} {B : Bk} {S : SS} (h : SeqM w B S) {m : Nat} {u : Un} (hm : w.heap[m]? = some (unO u)) : ¬ B.has m := fun hk => by
  obtain ⟨c, t, fr, e, ht⟩ := h.typ hk
  rw [hm] at e
  simp at e
  exact ht e.2.1.symm
theorem SeqM.noOwn {w0 w : World} {B : Bk} {S : SS} {v : Value} {n : Nat} {xs : List Value} (h : SeqM w B S) (hv : OwnV w0 w v n xs) : ∀ k, v.ownBlock = some k → ¬ B.has k := fun k e hk => by
  obtain ⟨c, t, fr, e2, ht⟩ := h.typ hk
  rcases hv.owns.2 with ⟨e', _⟩ | ⟨g, cap, cur, e', q, hg, _⟩
  · rw [e'] at e; simp [Value.ownBlock] at e
  · rw [e'] at e
    have hgk : g = k := by simpa [Value.ownBlock] using e
    rw [hgk, e2] at hg
    simp at hg
    exact ht hg.2.1
theorem Sq1.ins {w0 w : World} {p : Nat} {B : Bk} {S : SS} (h : Sq1 w0 w p B S) (u : Un) (hu : u.ok) {n : Nat} (hz : Size S n) (hn : n ≤ 1000000) :
    Calls Try.prog 9 #[.pointer (some ⟨p, 0, none⟩), .agg #[.int .u64 u.c, .int .u64 u.k, .int .u64 u.lc, .int .u64 u.lk, .int .u64 u.rc, .int .u64 u.rk]] w fun e w' => e = .returned (.bool (S.may u 1)) ∧ ∃ B', Sq1 w0 w' p B' (S.run u 1) ∧ (∀ x, B'.has x → B.has x ∨ w.heap.size ≤ x) ∧ Touch B.has w w' := by
  have hp := h.at_
  subst hp
  refine (insert_any h.mem h.inv u hu (hz.room hn 1 (by omega))).mono ?_
  rintro e w' ⟨rfl, B', a, b, c, d⟩
  refine ⟨rfl, B', ⟨a, b, fun k hk => ?_, (h.inv.run1 hu hz hn).1⟩, c, d⟩
  rcases c k hk with e | e
  · exact h.new k e
  · obtain ⟨c', hc⟩ := h.mem.blk
    have h1 := lt_of_heap hc
    have h2 := h.new B.b (.inl rfl)
    omega
theorem Sq1.len {w0 w : World} {p : Nat} {B : Bk} {S : SS} (h : Sq1 w0 w p B S) :
    Calls Try.prog 13 #[.pointer (some ⟨p, 0, none⟩)] w fun e w' => e = .returned (.int .i64 (S.units.length : Int)) ∧ Touch (fun _ => False) w w' := by
  have hp := h.at_
  subst hp
  have := len_any h.mem
  rw [← h.inv.units_len] at this
  exact this
theorem Sq1.at' {w0 w : World} {p : Nat} {B : Bk} {S : SS} (h : Sq1 w0 w p B S) (i : Int) (hi : -4611686018427387904 ≤ i ∧ i ≤ 4611686018427387904) :
    Calls Try.prog 12 #[.pointer (some ⟨p, 0, none⟩), .int .i64 i] w fun e w' => e = .returned (.tuple #[.agg #[.int .u64 ((S.at_ i).1).c, .int .u64 ((S.at_ i).1).k, .int .u64 ((S.at_ i).1).lc, .int .u64 ((S.at_ i).1).lk, .int .u64 ((S.at_ i).1).rc, .int .u64 ((S.at_ i).1).rk], .bool (S.at_ i).2]) ∧ Touch (fun _ => False) w w' := by
  have hp := h.at_
  subst hp
  exact at_any2 h.mem h.inv i hi
theorem Sq1.find {w0 w : World} {p : Nat} {B : Bk} {S : SS} (h : Sq1 w0 w p B S) (c k : Int) (hc : 0 ≤ c) (hk : 0 ≤ k) (hk2 : k < 18446744073709551616) :
    Calls Try.prog 14 #[.pointer (some ⟨p, 0, none⟩), .agg #[.int .u64 c, .int .u64 k]] w fun e w' => e = .returned (.int .i64 (S.find c k)) ∧ Touch (fun _ => False) w w' := by
  have hp := h.at_
  subst hp
  exact find_any h.mem h.inv c k hc hk hk2
theorem Sq1.fresh (w0 w : World) (t : Touch (fun _ => False) w0 w) :
    Calls Try.prog 7 #[] w fun e w' => ∃ p B, e = .returned (.pointer (some ⟨p, 0, none⟩)) ∧ Sq1 w0 w' p B .new ∧ (∀ k, B.has k → w.heap.size ≤ k) ∧ Touch (fun _ => False) w w' := by
  refine (new_any w).mono ?_
  rintro e w' ⟨B, rfl, a, b, c⟩
  exact ⟨B.b, B, rfl, ⟨a, rfl, fun k hk => Nat.le_trans t.size (b k hk), Inv.new⟩, b, c⟩
theorem Sq1.copy {w0 w : World} {p : Nat} {B : Bk} {S : SS} (h : Sq1 w0 w p B S) {n : Nat} (hz : Size S n) (hn : n ≤ 1000000) (t : Touch (fun _ => False) w0 w) :
    Calls Try.prog 10 #[.pointer (some ⟨p, 0, none⟩)] w fun e w' => ∃ q C, e = .returned (.pointer (some ⟨q, 0, none⟩)) ∧ Sq1 w0 w' q C S ∧ (∀ k, C.has k → w.heap.size ≤ k) ∧ Touch (fun _ => False) w w' := by
  have hp := h.at_
  subst hp
  have h1 := hz.pcs
  have h2 := hz.runs
  refine (copy_any h.mem (by omega) (by omega)).mono ?_
  rintro e w' ⟨C, rfl, a, b, c⟩
  exact ⟨C.b, C, rfl, ⟨a, rfl, fun k hk => Nat.le_trans t.size (b k hk), h.inv⟩, b, c⟩
/-- Blocks that are new are none of another's. -/
theorem Sq1.apart {w0 w : World} {p : Nat} {B C C' : Bk} {S : SS} (h : Sq1 w0 w p B S) (ha : ApartB B C) (hc : ∀ x, C'.has x → C.has x ∨ w.heap.size ≤ x) : ApartB B C' := fun k hk hk' => by
  rcases hc k hk' with e | e
  · exact ha k hk e
  · have := h.mem.lt hk
    omega
theorem Sq1.touch0 {w0 w w' : World} {p : Nat} {B : Bk} {S : SS} (h : Sq1 w0 w p B S) (t0 : Touch (fun _ => False) w0 w) (t : Touch B.has w w') : Touch (fun _ => False) w0 w' := t0.then t fun k hk e => by
  have := h.new k e
  omega
theorem OwnV.onB {w0 w w' : World} {p : Nat} {B : Bk} {S : SS} {v : Value} {n : Nat} {xs : List Value} (hv : OwnV w0 w v n xs) (h : Sq1 w0 w p B S) (t : Touch B.has w w') : OwnV w0 w' v n xs :=
  ⟨ownV_touch hv.owns t (h.mem.noOwn hv), h.touch0 hv.touch t, hv.fresh⟩
end Go.Proofs.Ytnbphdmpbjahhab

/- Package seq: a sequence and the units that it is filled with; quirehelp.Place. -/
namespace Go.Proofs.Ytnbphdmpbjahhab
open Go.RowKit
set_option linter.unusedVariables false
set_option linter.unusedSimpArgs false
set_option maxRecDepth 100000

/-- A sequence at p, and units. -/
def OneS (w W : World) (p : Nat) (S : SS) (v : Value) (us : List Un) : Prop := ∃ A, Sq1 w W p A S ∧ NewV w W v us
theorem OneS.touch {w W W' : World} {p : Nat} {S : SS} {v : Value} {us : List Un} (h : OneS w W p S v us) (t : Touch (fun _ => False) W W') : OneS w W' p S v us := by
  obtain ⟨A, a, d⟩ := h
  exact ⟨A, a.touch t, d.on t⟩
theorem OneS.touch0 {w W : World} {p : Nat} {S : SS} {v : Value} {us : List Un} (h : OneS w W p S v us) : Touch (fun _ => False) w W := by
  obtain ⟨A, a, d⟩ := h
  exact d.touch
theorem OneS.ins {w W : World} {p : Nat} {S : SS} {v : Value} {us : List Un} (h : OneS w W p S v us) (u : Un) (hu : u.ok) {n : Nat} (hz : Size S n) (hn : n ≤ 1000000) :
    Calls Try.prog 9 #[.pointer (some ⟨p, 0, none⟩), .agg #[.int .u64 u.c, .int .u64 u.k, .int .u64 u.lc, .int .u64 u.lk, .int .u64 u.rc, .int .u64 u.rk]] W fun e w' => e = .returned (.bool (S.may u 1)) ∧ OneS w w' p (S.run u 1) v us := by
  obtain ⟨A, a, d⟩ := h
  refine (a.ins u hu hz hn).mono ?_
  rintro e w' ⟨rfl, A', h1, h2, t⟩
  exact ⟨rfl, A', h1, d.onB a t⟩
theorem OneS.cells {w W : World} {p : Nat} {S : SS} {g vcap : Nat} {us : List Un} (h : OneS w W p S (.slice (some ⟨g, 0, none⟩) us.length vcap) us) (j : Nat) (hlt : j < us.length) : W.cell? ⟨g, j * 6, none⟩ = some (.int .u64 us[j].c) ∧ W.cell? ⟨g, j * 6 + 1, none⟩ = some (.int .u64 us[j].k) ∧ W.cell? ⟨g, j * 6 + 2, none⟩ = some (.int .u64 us[j].lc) ∧ W.cell? ⟨g, j * 6 + 3, none⟩ = some (.int .u64 us[j].lk) ∧ W.cell? ⟨g, j * 6 + 4, none⟩ = some (.int .u64 us[j].rc) ∧ W.cell? ⟨g, j * 6 + 5, none⟩ = some (.int .u64 us[j].rk) := by
  obtain ⟨_, _, hn⟩ := h
  obtain ⟨b, o, cap, e, _, _, _, hx⟩ := hn.sl.row (fun e => by rw [e] at hlt; exact absurd hlt (Nat.not_lt_zero _))
  simp only [Value.slice.injEq, Option.some.injEq, Addr.mk.injEq] at e
  obtain ⟨⟨rfl, rfl, -⟩, -, -⟩ := e
  have := hx j hlt
  simp only [Nat.zero_add] at this
  exact this
set_option maxHeartbeats 800000 in
theorem placeG_any (k : Int) (m : Nat) (hm : 1 ≤ m ∧ m ≤ 1000000) (w : World) (h0 : -9223372036854775808 ≤ k) (h1 : k ≤ 9223372036854775807) : Calls Try.prog 15 #[.int .i64 k, .int .i64 (m : Int)] w fun e w' => ∃ p : Nat, e = .returned (.int .i64 (p : Int)) ∧ p < m ∧ w' = w := by
  have ha := Int.tmod_lt_of_pos k (b := (m : Int)) (by omega)
  have hb : -(m : Int) < k.tmod (m : Int) := by
    have := Int.lt_tmod_of_pos k (b := (m : Int)) (by omega)
    omega
  generalize ht : k.tmod (m : Int) = t at *
  have e0 : ((m : Int) == 0) = false := by simp; omega
  have e1 : ¬ ((m : Int) = 0) := by omega
  have e2 : ¬ ((m : Int) = -1) := by omega
  by_cases hn : t < 0
  · obtain ⟨p, hp⟩ : ∃ p : Nat, (p : Int) = t + (m : Int) := ⟨(t + (m : Int)).toNat, by omega⟩
    have HP : Hid ((p : Int) = t + (m : Int)) := hp
    have ew : IntKind.i64.wrap (t + (m : Int)) = t + (m : Int) := by rw [IntKind.wrap_i64]; omega
    clear hp
    go_enter Try.func15, Try.ntmps15
    go_wp2_with fail
    go_ret
    exact ⟨p, by rw [HP.out]; rfl, by have := HP.out; omega, rfl⟩
  · obtain ⟨p, hp⟩ : ∃ p : Nat, (p : Int) = t := ⟨t.toNat, by omega⟩
    have HP : Hid ((p : Int) = t) := hp
    clear hp
    go_enter Try.func15, Try.ntmps15
    go_wp2_with fail
    go_ret
    exact ⟨p, by rw [HP.out]; rfl, by have := HP.out; omega, rfl⟩
end Go.Proofs.Ytnbphdmpbjahhab

/- quirelaw9: id; a sequence with boxes beside it. -/
namespace Go.Proofs.Ytnbphdmpbjahhab
open Go.RowKit
set_option linter.unusedVariables false
set_option linter.unusedSimpArgs false
set_option maxRecDepth 100000

set_option maxHeartbeats 2000000 in
theorem id_any (a b : Int) (w : World) : Calls Try.prog 11 #[u64 a, u64 b] w fun e w' => e = .returned (.agg #[u64 a, u64 b]) ∧ Touch (fun _ => False) w w' := by
  go_enter Try.func11, Try.ntmps11
  go_wp2_with fail
  refine bodyPost_ret (v := .agg #[u64 a, u64 b]) (by simp [results, Try.results11, go_sem]) rfl ?_
  exact ⟨rfl, (Touch.refl _ _).alloc _⟩
/-- A sequence at p, made since w0, with boxes X beside it that are none of its own. -/
def Kn (w0 w : World) (p : Nat) (X : List (Nat × Obj)) (S : SS) : Prop :=
  Inv S ∧ Touch (fun _ => False) w0 w ∧ (∀ x ∈ X, w.heap[x.1]? = some x.2) ∧ ∃ B, B.b = p ∧ SeqM w B S ∧ (∀ k, B.has k → w0.heap.size ≤ k) ∧ ∀ x ∈ X, ¬ B.has x.1
theorem Kn.touch {w0 w w' : World} {p : Nat} {X : List (Nat × Obj)} {S : SS} (h : Kn w0 w p X S) (t : Touch (fun _ => False) w w') : Kn w0 w' p X S := by
  obtain ⟨a, b, c, B, d, e, f, g⟩ := h
  exact ⟨a, b.trans t, fun x hx => heap_keep t (c x hx), B, d, e.keep0 t, f, g⟩
theorem Kn.step {w0 w w' : World} {p : Nat} {X : List (Nat × Obj)} {S' : SS} {B : Bk} (h1 : Touch (fun _ => False) w0 w) (h2 : ∀ x ∈ X, w.heap[x.1]? = some x.2) (hb : B.b = p) (h4 : ∀ k, B.has k → w0.heap.size ≤ k) (h5 : ∀ x ∈ X, ¬ B.has x.1) (l : Laid w w' B S') (hI : Inv S') : Kn w0 w' p X S' := by
  obtain ⟨B', a, b, c, d⟩ := l
  refine ⟨hI, h1.then d fun k hk e => ?_, fun x hx => ?_, B', b.trans hb, a, fun k hk => ?_, fun x hx e => ?_⟩
  · have := h4 k e
    omega
  · have := h2 x hx
    exact (d.block _ (lt_of_heap this) (h5 x hx)).trans this
  · rcases c k hk with e | e
    · exact h4 k e
    · exact Nat.le_trans h1.size e
  · rcases c _ e with e | e
    · exact h5 x hx e
    · have := lt_of_heap (h2 x hx)
      omega
/-- A new box beside it. -/
theorem Kn.box {w0 w : World} {p : Nat} {X : List (Nat × Obj)} {S : SS} (h : Kn w0 w p X S) (o : Obj) : Kn w0 (w.alloc o) p ((w.heap.size, o) :: X) S := by
  obtain ⟨a, b, c, B, d, e, f, g⟩ := h
  have t := (Touch.refl (fun _ => False) w).alloc o
  refine ⟨a, b.alloc _, fun x hx => ?_, B, d, e.keep0 t, f, fun x hx hb => ?_⟩
  · rcases List.mem_cons.1 hx with rfl | hx
    · exact heap_alloc_new w o
    · exact heap_keep t (c x hx)
  · rcases List.mem_cons.1 hx with rfl | hx
    · have : w.heap.size < w.heap.size := e.lt hb
      omega
    · exact g x hx hb
/-- A box laid anew. -/
theorem Kn.set {w0 w w' : World} {p k : Nat} {X : List (Nat × Obj)} {S : SS} {o o' : Obj} (h : Kn w0 w p ((k, o) :: X) S) (hk : w0.heap.size ≤ k) (hX : ∀ x ∈ X, x.1 ≠ k) (t : Touch (fun y => y = k) w w') (hn : w'.heap[k]? = some o') : Kn w0 w' p ((k, o') :: X) S := by
  obtain ⟨a, b, c, B, d, e, f, g⟩ := h
  refine ⟨a, b.then t fun y hy ey => by omega, fun x hx => ?_, B, d, e.keep t fun y hy ey => ?_, f, fun x hx => ?_⟩
  · rcases List.mem_cons.1 hx with rfl | hx
    · exact hn
    · have hc := c x (by simp [hx])
      exact (t.block _ (lt_of_heap hc) (hX x hx)).trans hc
  · exact g (k, o) (by simp) (by rw [← ey]; exact hy)
  · rcases List.mem_cons.1 hx with rfl | hx
    · exact g (k, o) (by simp)
    · exact g x (by simp [hx])
abbrev sQ (p : Nat) : Value := .pointer (some ⟨p, 0, none⟩)
theorem Kn.new (w : World) : Calls Try.prog 7 #[] w fun e w' => ∃ p, e = .returned (sQ p) ∧ Kn w w' p [] .new := by
  refine (new_any w).mono ?_
  rintro e w' ⟨B, rfl, a, b, c⟩
  exact ⟨B.b, rfl, Inv.new, c, (fun x hx => (List.not_mem_nil hx).elim), B, rfl, a, b, (fun x hx => (List.not_mem_nil hx).elim)⟩
theorem Kn.run {w0 w : World} {p : Nat} {X : List (Nat × Obj)} {S : SS} (h : Kn w0 w p X S) (u : Un) (hu : u.ok) (n : Int) (m : Nat) (hn : n ≤ m) (hn2 : -1152921504606846976 ≤ n) (hm : 1 ≤ m) (hR : Room S m) :
    Calls Try.prog 17 #[sQ p, .agg #[u64 (u).c, u64 (u).k, u64 (u).lc, u64 (u).lk, u64 (u).rc, u64 (u).rk], iV n] w fun e w' => e = .returned (.bool (S.may u n)) ∧ Kn w0 w' p X (S.run u n) := by
  obtain ⟨a, b, c, B, rfl, e, f, g⟩ := h
  refine (e.run a u hu n m hn hn2 hm hR).mono ?_
  rintro e' w' ⟨rfl, l⟩
  have h1 := hR.tot
  have h2 := hR.pcs
  have h3 := hR.runs
  exact ⟨rfl, Kn.step b c rfl f g l (a.runI hu (fun _ => by omega) (by omega) (by omega)).1⟩
theorem Kn.insert {w0 w : World} {p : Nat} {X : List (Nat × Obj)} {S : SS} (h : Kn w0 w p X S) (u : Un) (hu : u.ok) (hR : Room S 1) :
    Calls Try.prog 9 #[sQ p, .agg #[u64 (u).c, u64 (u).k, u64 (u).lc, u64 (u).lk, u64 (u).rc, u64 (u).rk]] w fun e w' => e = .returned (.bool (S.may u 1)) ∧ Kn w0 w' p X (S.run u 1) := by
  obtain ⟨a, b, c, B, rfl, e, f, g⟩ := h
  refine (insert_any e a u hu hR).mono ?_
  rintro e' w' ⟨rfl, l⟩
  have h1 := hR.tot
  have h2 := hR.pcs
  have h3 := hR.runs
  exact ⟨rfl, Kn.step b c rfl f g l (a.runI hu (fun _ => by omega) (by omega) (by omega)).1⟩
theorem Kn.find {w0 w : World} {p : Nat} {X : List (Nat × Obj)} {S : SS} (h : Kn w0 w p X S) (c k : Int) (hc : 0 ≤ c) (hk : 0 ≤ k ∧ k < 18446744073709551616) :
    Calls Try.prog 14 #[sQ p, .agg #[u64 c, u64 k]] w fun e w' => e = .returned (iV (S.find c k)) ∧ Kn w0 w' p X S := by
  have hK := h
  obtain ⟨a, b, _, B, rfl, e, f, g⟩ := h
  exact (find_any e a c k hc hk.1 hk.2).mono fun e' w' q => ⟨q.1, hK.touch q.2⟩
theorem Kn.len {w0 w : World} {p : Nat} {X : List (Nat × Obj)} {S : SS} (h : Kn w0 w p X S) :
    Calls Try.prog 13 #[sQ p] w fun e w' => e = .returned (iV S.total) ∧ Kn w0 w' p X S := by
  have hK := h
  obtain ⟨a, b, _, B, rfl, e, f, g⟩ := h
  exact (len_any e).mono fun e' w' q => ⟨q.1, hK.touch q.2⟩
theorem Kn.at {w0 w : World} {p : Nat} {X : List (Nat × Obj)} {S : SS} (h : Kn w0 w p X S) (i : Int) (hi : -4611686018427387904 ≤ i ∧ i ≤ 4611686018427387904) :
    Calls Try.prog 12 #[sQ p, iV i] w fun e w' => e = .returned (.tuple #[.agg #[u64 ((S.at_ i).1).c, u64 ((S.at_ i).1).k, u64 ((S.at_ i).1).lc, u64 ((S.at_ i).1).lk, u64 ((S.at_ i).1).rc, u64 ((S.at_ i).1).rk], .bool (S.at_ i).2]) ∧ Kn w0 w' p X S := by
  have hK := h
  obtain ⟨a, b, _, B, rfl, e, f, g⟩ := h
  exact (at_any2 e a i hi).mono fun e' w' q => ⟨q.1, hK.touch q.2⟩
theorem Kn.id {w0 w : World} {p : Nat} {X : List (Nat × Obj)} {S : SS} (h : Kn w0 w p X S) (a b : Int) : Calls Try.prog 11 #[u64 a, u64 b] w fun e w' => e = .returned (.agg #[u64 a, u64 b]) ∧ Kn w0 w' p X S :=
  (id_any a b w).mono fun e' w' q => ⟨q.1, h.touch q.2⟩
end Go.Proofs.Ytnbphdmpbjahhab
