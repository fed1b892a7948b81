/- Package seq: a sequence and the units that it is filled with; quirehelp.Place. -/
import Derived.Test.YtnilikomoapcaaaGreatPart21
import Derived.Test.YtnilikomoapcaaaGreatPart10
import Derived.Test.YtnilikomoapcaaaGreatPart31
import Derived.Test.YtnilikomoapcaaaGreatKnown11
namespace Go.Proofs.YtnilikomoapcaaaGreat
open Go.RowKit
set_option linter.unusedVariables false
set_option linter.unusedSimpArgs false
set_option maxRecDepth 100000

/-- A sequence at p, and units. -/
def OneS (w W : World) (p : Nat) (S : SS) (v : Value) (us : List Un) : Prop := ∃ A, Sq1 w W p A S ∧ NewV w W v us
theorem OneS.touch {w W W' : World} {p : Nat} {S : SS} {v : Value} {us : List Un} (h : OneS w W p S v us) (t : Touch (fun _ => False) W W') : OneS w W' p S v us := by
  obtain ⟨A, a, d⟩ := h
  exact ⟨A, a.touch t, d.on t⟩
theorem OneS.touch0 {w W : World} {p : Nat} {S : SS} {v : Value} {us : List Un} (h : OneS w W p S v us) : Touch (fun _ => False) w W := by
  obtain ⟨A, a, d⟩ := h
  exact d.touch
theorem OneS.ins {w W : World} {p : Nat} {S : SS} {v : Value} {us : List Un} (h : OneS w W p S v us) (u : Un) (hu : u.ok) {n : Nat} (hz : Size S n) (hn : n ≤ 1000000) :
    Calls Tryz.prog 11 #[.pointer (some ⟨p, 0, none⟩), .agg #[.int .u64 u.c, .int .u64 u.k, .int .u64 u.lc, .int .u64 u.lk, .int .u64 u.rc, .int .u64 u.rk]] W fun e w' => e = .returned (.bool (S.may u 1)) ∧ OneS w w' p (S.run u 1) v us := by
  obtain ⟨A, a, d⟩ := h
  refine (a.ins u hu hz hn).mono ?_
  rintro e w' ⟨rfl, A', h1, h2, t⟩
  exact ⟨rfl, A', h1, d.onB a t⟩
theorem OneS.cells {w W : World} {p : Nat} {S : SS} {g vcap : Nat} {us : List Un} (h : OneS w W p S (.slice (some ⟨g, 0, none⟩) us.length vcap) us) (j : Nat) (hlt : j < us.length) : W.cell? ⟨g, j * 6, none⟩ = some (.int .u64 us[j].c) ∧ W.cell? ⟨g, j * 6 + 1, none⟩ = some (.int .u64 us[j].k) ∧ W.cell? ⟨g, j * 6 + 2, none⟩ = some (.int .u64 us[j].lc) ∧ W.cell? ⟨g, j * 6 + 3, none⟩ = some (.int .u64 us[j].lk) ∧ W.cell? ⟨g, j * 6 + 4, none⟩ = some (.int .u64 us[j].rc) ∧ W.cell? ⟨g, j * 6 + 5, none⟩ = some (.int .u64 us[j].rk) := by
  obtain ⟨_, _, hn⟩ := h
  obtain ⟨b, o, cap, e, _, _, _, hx⟩ := hn.sl.row (fun e => by rw [e] at hlt; exact absurd hlt (Nat.not_lt_zero _))
  simp only [Value.slice.injEq, Option.some.injEq, Addr.mk.injEq] at e
  obtain ⟨⟨rfl, rfl, -⟩, -, -⟩ := e
  have := hx j hlt
  simp only [Nat.zero_add] at this
  exact this
set_option maxHeartbeats 800000 in
theorem placeG_any (k : Int) (m : Nat) (hm : 1 ≤ m ∧ m ≤ 1000000) (w : World) (h0 : -9223372036854775808 ≤ k) (h1 : k ≤ 9223372036854775807) : Calls Tryz.prog 6 #[.int .i64 k, .int .i64 (m : Int)] w fun e w' => ∃ p : Nat, e = .returned (.int .i64 (p : Int)) ∧ p < m ∧ w' = w := by
  have ha := Int.tmod_lt_of_pos k (b := (m : Int)) (by omega)
  have hb : -(m : Int) < k.tmod (m : Int) := by
    have := Int.lt_tmod_of_pos k (b := (m : Int)) (by omega)
    omega
  generalize ht : k.tmod (m : Int) = t at *
  have e0 : ((m : Int) == 0) = false := by simp; omega
  have e1 : ¬ ((m : Int) = 0) := by omega
  have e2 : ¬ ((m : Int) = -1) := by omega
  by_cases hn : t < 0
  · obtain ⟨p, hp⟩ : ∃ p : Nat, (p : Int) = t + (m : Int) := ⟨(t + (m : Int)).toNat, by omega⟩
    have HP : Hid ((p : Int) = t + (m : Int)) := hp
    have ew : IntKind.i64.wrap (t + (m : Int)) = t + (m : Int) := by rw [IntKind.wrap_i64]; omega
    clear hp
    go_enter Tryz.func6, Tryz.ntmps6
    go_wp2_with fail
    go_ret
    exact ⟨p, by rw [HP.out]; rfl, by have := HP.out; omega, rfl⟩
  · obtain ⟨p, hp⟩ : ∃ p : Nat, (p : Int) = t := ⟨t.toNat, by omega⟩
    have HP : Hid ((p : Int) = t) := hp
    clear hp
    go_enter Tryz.func6, Tryz.ntmps6
    go_wp2_with fail
    go_ret
    exact ⟨p, by rw [HP.out]; rfl, by have := HP.out; omega, rfl⟩
end Go.Proofs.YtnilikomoapcaaaGreat

/- quirelaw11.MarksGrow: its closure; a sequence beside a mark. -/
namespace Go.Proofs.YtnilikomoapcaaaGreat
open Go.RowKit
set_option linter.unusedVariables false
set_option linter.unusedSimpArgs false
set_option maxRecDepth 100000

set_option maxHeartbeats 1600000 in
theorem growAt_any (i : Nat) (hi : i ≤ 1000) (w : World) : Calls Tryz.prog 8 #[.int .i64 (i : Int)] w fun e w' => e = .returned (.agg #[.int .u64 1, .int .u64 ((i : Int) + 1)]) ∧ Touch (fun _ => False) w w' := by
  have ew : IntKind.u64.wrap ((i : Int) + 1) = (i : Int) + 1 := by rw [IntKind.wrap_u64]; omega
  have ei : (i : Int) + 1 < 9223372036854775808 := by omega
  have hT : Touch (fun _ => False) w (w.alloc (.cells #[.int .u64 1, .int .u64 ((i : Int) + 1)] 28)) := (Touch.refl _ _).alloc _
  go_enter Tryz.func8, Tryz.ntmps8
  go_wp2_with fail
  exact bodyPost_ret (v := .agg #[.int .u64 1, .int .u64 ((i : Int) + 1)]) (by simp [results, Tryz.results8, go_sem]) rfl ⟨rfl, hT⟩
/-- No block of a sequence is one of operations. -/
theorem SeqM.noOp {w : World} {B : Bk} {S : SS} (h : SeqM w B S) {m : Nat} {o : O} (hm : w.heap[m]? = some (opO o)) : ¬ B.has m := fun hk => by
  have key : ∃ c t fr, w.heap[m]? = some (.cells c t fr) ∧ t ≠ 39 := by
    rcases hk with rfl | rfl | rfl | rfl | rfl
    · obtain ⟨c, hc⟩ := h.blk
      exact ⟨c, _, _, hc, by decide⟩
    · obtain ⟨c, hc, _⟩ := h.runs.row
      exact ⟨c, _, _, hc, by decide⟩
    · obtain ⟨c, hc, _⟩ := h.pcs.row
      exact ⟨c, _, _, hc, by decide⟩
    · obtain ⟨L, tr, h1, _⟩ := h.ord
      obtain ⟨c, hc, _⟩ := h1.row
      exact ⟨c, _, _, hc, by decide⟩
    · obtain ⟨L, tr, h1, _⟩ := h.idx
      obtain ⟨c, hc, _⟩ := h1.row
      exact ⟨c, _, _, hc, by decide⟩
  obtain ⟨c, t, fr, e, ht⟩ := key
  rw [hm] at e
  simp at e
  exact ht e.2.1.symm
theorem build_op (o : O) (W : World) : (Instr.buildSlice 41 1 #[(0, o.val)]).run Tryz.prog W = .ok (.slice (some ⟨W.heap.size, 0, none⟩) 1 1) (W.alloc (opO o)) := by kernel_rfl
/-- A sequence at pa, and a mark in block gm. -/
def SqMk (w W : World) (pa gm : Nat) (S : SS) (o : O) : Prop := (∃ A, Sq1 w W pa A S) ∧ W.heap[gm]? = some (opO o) ∧ w.heap.size ≤ gm ∧ Touch (fun _ => False) w W
theorem SqMk.touch {w W W' : World} {pa gm : Nat} {S : SS} {o : O} (h : SqMk w W pa gm S o) (t : Touch (fun _ => False) W W') : SqMk w W' pa gm S o := by
  obtain ⟨⟨A, a⟩, h1, h2, h3⟩ := h
  exact ⟨⟨A, a.touch t⟩, heap_keep t h1, h2, h3.trans t⟩
theorem SqMk.ins {w W : World} {pa gm : Nat} {S : SS} {o : O} (h : SqMk w W pa gm S o) (u : Un) (hu : u.ok) {n : Nat} (hz : Size S n) (hn : n ≤ 1000000) :
    Calls Tryz.prog 11 #[.pointer (some ⟨pa, 0, none⟩), .agg #[.int .u64 u.c, .int .u64 u.k, .int .u64 u.lc, .int .u64 u.lk, .int .u64 u.rc, .int .u64 u.rk]] W fun e w' => e = .returned (.bool (S.may u 1)) ∧ SqMk w w' pa gm (S.run u 1) o := by
  obtain ⟨⟨A, a⟩, h1, h2, h3⟩ := h
  refine (a.ins u hu hz hn).mono ?_
  rintro e w' ⟨rfl, A', a', _, t⟩
  exact ⟨rfl, ⟨A', a'⟩, (t.block _ (lt_of_heap h1) (a.mem.noOp h1)).trans h1, h2, a.touch0 h3 t⟩
theorem SqMk.all {w W : World} {pa gm : Nat} {S : SS} {o : O} (h : SqMk w W pa gm S o) (hn : S.units.length ≤ 1000000) (hf : o.fits) (hky : o.ky.size ≤ maxLen) (hk : o.kind = 3) :
    Calls Tryz.prog 12 #[.pointer (some ⟨pa, 0, none⟩), .slice (some ⟨gm, 0, none⟩) 1 1] W fun e w' => ∃ go M vs, e = .returned (.slice (some ⟨go, 0, none⟩) S.units.length S.units.length) ∧ OutM W w' go S.units.length M vs ∧ ∀ i, i < S.units.length → M i = sh1 (oneS S o) i := by
  obtain ⟨⟨A, a⟩, h1, h2, h3⟩ := h
  exact allOne_any a hn (Nat.le_refl _) (by decide) (lt_of_heap h1) (rangeAt_ofS h1) hf hky hk
end Go.Proofs.YtnilikomoapcaaaGreat
