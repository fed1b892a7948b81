/- quirelaw9.SeqAnyOrder: two sequences and the units that are left. -/
import Derived.Test.YtnbphdmpbjahhaaAoM
import Derived.Test.YtnbphdmpbjahhaaSqC
import Derived.Test.YtnbphdmpbjahhaaPart12
namespace Go.Proofs.Ytnbphdmpbjahhaa
open Go.RowKit
set_option linter.unusedVariables false
set_option linter.unusedSimpArgs false
set_option maxRecDepth 100000

section
variable {w W : World} {pa pb : Nat} {Sa Sb : SS} {v : Value} {us : List Un}
theorem Two.relist (h : Two w W pa pb Sa Sb v us) {W' : World} {v' : Value} {us' : List Un} (t : Touch (fun _ => False) W W') (n : NewV w W' v' us') : Two w W' pa pb Sa Sb v' us' := by
  obtain ⟨A, B, a, b, c, _⟩ := h
  exact ⟨A, B, a.touch t, b.touch t, c, n⟩
theorem Two.cells {g vcap : Nat} (h : Two w W pa pb Sa Sb (.slice (some ⟨g, 0, none⟩) us.length vcap) us) (j : Nat) (hlt : j < us.length) : W.cell? ⟨g, j * 6, none⟩ = some (.int .u64 us[j].c) ∧ W.cell? ⟨g, j * 6 + 1, none⟩ = some (.int .u64 us[j].k) ∧ W.cell? ⟨g, j * 6 + 2, none⟩ = some (.int .u64 us[j].lc) ∧ W.cell? ⟨g, j * 6 + 3, none⟩ = some (.int .u64 us[j].lk) ∧ W.cell? ⟨g, j * 6 + 4, none⟩ = some (.int .u64 us[j].rc) ∧ W.cell? ⟨g, j * 6 + 5, none⟩ = some (.int .u64 us[j].rk) := by
  obtain ⟨_, _, _, _, _, hn⟩ := h
  obtain ⟨b, o, cap, e, _, _, _, hx⟩ := hn.sl.row (fun e => by rw [e] at hlt; exact absurd hlt (Nat.not_lt_zero _))
  simp only [Value.slice.injEq, Option.some.injEq, Addr.mk.injEq] at e
  obtain ⟨⟨rfl, rfl, -⟩, -, -⟩ := e
  have := hx j hlt
  simp only [Nat.zero_add] at this
  exact this
theorem Two.insB (h : Two w W pa pb Sa Sb v us) (u : Un) (hu : u.ok) {n : Nat} (hz : Size Sb n) (hn : n ≤ 1000000) :
    Calls Try.prog 14 #[.pointer (some ⟨pb, 0, none⟩), .agg #[.int .u64 u.c, .int .u64 u.k, .int .u64 u.lc, .int .u64 u.lk, .int .u64 u.rc, .int .u64 u.rk]] W fun e w' => e = .returned (.bool (Sb.may u 1)) ∧ Two w w' pa pb Sa (Sb.run u 1) v us ∧ ∀ (m : Nat) (x : Un), W.heap[m]? = some (unO x) → ¬ v.ownBlock = some m → w'.heap[m]? = some (unO x) := by
  obtain ⟨A, B, a, b, c, d⟩ := h
  refine (b.ins u hu hz hn).mono ?_
  rintro e w' ⟨rfl, B', h1, h2, t⟩
  exact ⟨rfl, ⟨A, B', a.other t c, h1, a.apart c h2, d.onB b t⟩, fun m x hm _ => (t.block _ (lt_of_heap hm) (b.mem.noBox hm)).trans hm⟩
theorem Two.lenA (h : Two w W pa pb Sa Sb v us) : Calls Try.prog 20 #[.pointer (some ⟨pa, 0, none⟩)] W fun e w' => e = .returned (.int .i64 (Sa.units.length : Int)) ∧ Touch (fun _ => False) W w' := by
  obtain ⟨A, B, a, b, c, d⟩ := h
  exact a.len
theorem Two.atA (h : Two w W pa pb Sa Sb v us) (i : Int) (hi : -4611686018427387904 ≤ i ∧ i ≤ 4611686018427387904) : Calls Try.prog 21 #[.pointer (some ⟨pa, 0, none⟩), .int .i64 i] W fun e w' => e = .returned (.tuple #[.agg #[.int .u64 ((Sa.at_ i).1).c, .int .u64 ((Sa.at_ i).1).k, .int .u64 ((Sa.at_ i).1).lc, .int .u64 ((Sa.at_ i).1).lk, .int .u64 ((Sa.at_ i).1).rc, .int .u64 ((Sa.at_ i).1).rk], .bool (Sa.at_ i).2]) ∧ Touch (fun _ => False) W w' := by
  obtain ⟨A, B, a, b, c, d⟩ := h
  exact a.at' i hi
theorem Two.findB (h : Two w W pa pb Sa Sb v us) (c k : Int) (hc : 0 ≤ c) (hk : 0 ≤ k) (hk2 : k < 18446744073709551616) : Calls Try.prog 19 #[.pointer (some ⟨pb, 0, none⟩), .agg #[.int .u64 c, .int .u64 k]] W fun e w' => e = .returned (.int .i64 (Sb.find c k)) ∧ Touch (fun _ => False) W w' := by
  obtain ⟨A, B, a, b, _, d⟩ := h
  exact b.find c k hc hk hk2
end
/-- A list without one of it: two appends. -/
theorem left_cut {w W : World} {lo : Option Addr} {lcap : Nat} {ls : List Un} (h : NewV w W (.slice lo ls.length lcap) ls) (n : Nat) (hn : n < ls.length) (hl : ls.length ≤ 1000) :
    ∃ v1 w1 bo cap2 v2 w2, (∀ X : World, (Instr.slice 45 (.slice lo ls.length lcap) none (some (.int .i64 (n : Int))) none).run Try.prog X = .ok (.slice lo n lcap) X) ∧ (∀ X : World, (Instr.slice 45 (.slice lo ls.length lcap) (some (.int .i64 ((n : Int) + 1))) none none).run Try.prog X = .ok (.slice bo (ls.length - (n + 1)) cap2) X) ∧
      (Builtin.append_ #[45, 45] 45 #[.slice none 0 0, .slice lo n lcap]).run Try.prog W.drew = .ok v1 w1 ∧ (Builtin.append_ #[45, 45] 45 #[v1, .slice bo (ls.length - (n + 1)) cap2]).run Try.prog w1 = .ok v2 w2 ∧ NewV w w2 v2 (ls.take n ++ ls.drop (n + 1)) ∧ Touch (fun _ => False) W w2 := by
  have hs := h.sl
  obtain ⟨ao, cap, e, hno, hc1, hc2, hL⟩ := hs
  obtain ⟨rfl, -, rfl⟩ : lo = ao ∧ True ∧ lcap = cap := by simpa using e
  have hit : (ls.take n).length = n := by rw [List.length_take]; omega
  obtain ⟨_, _, e0, _, _, _, hLt⟩ := h.sl.upto n (by omega)
  obtain ⟨e1, -, e2⟩ : lo = _ ∧ _ ∧ lcap = _ := by simpa only [Value.slice.injEq] using e0
  rw [← e1] at hLt
  obtain ⟨v1, w1, hr1, n1, -⟩ := (NewV.nil W W.drew (Touch.refl _ _).drew).app lo n lcap (ls.take n) hit.symm hno (hLt.touch (Touch.refl _ _).drew) (by simp; omega)
  rw [List.nil_append] at n1
  have hd := (h.sl.touch n1.touch).from (n + 1) (by omega)
  obtain ⟨bo, cap2, e3, hbno, -, -, hLd⟩ := hd
  obtain ⟨v2, w2, hr2, n2, -⟩ := n1.app bo _ cap2 (ls.drop (n + 1)) rfl hbno hLd (by simp; omega)
  have hld : (ls.drop (n + 1)).length = ls.length - (n + 1) := List.length_drop
  rw [hld] at hr2 e3
  have s2 := fun X => sliceV_from lo ls.length lcap (n + 1) (by omega) X
  rw [e3] at s2
  have ec : ((n + 1 : Nat) : Int) = (n : Int) + 1 := by omega
  rw [ec] at s2
  exact ⟨v1, w1, bo, cap2, v2, w2, fun X => sliceV_to lo ls.length lcap n (by omega) X, s2, hr1, hr2, n2.since h.touch, n2.touch⟩
/-- A copy of a list. -/
theorem list_copy {w W : World} {lo : Option Addr} {lcap : Nat} {ls : List Un} (h : NewV w W (.slice lo ls.length lcap) ls) (hl : ls.length ≤ 1000) : ∃ v1 w1, (Builtin.append_ #[45, 45] 45 #[.slice none 0 0, .slice lo ls.length lcap]).run Try.prog W = .ok v1 w1 ∧ NewV w w1 v1 ls ∧ Touch (fun _ => False) W w1 := by
  obtain ⟨ao, cap, e, hno, hc1, hc2, hL⟩ := h.sl
  obtain ⟨rfl, -, rfl⟩ : lo = ao ∧ True ∧ lcap = cap := by simpa using e
  obtain ⟨v1, w1, hr1, n1, -⟩ := (NewV.nil W W (Touch.refl _ _)).app lo ls.length lcap ls rfl hno hL (by simp; omega)
  rw [List.nil_append] at n1
  exact ⟨v1, w1, hr1, n1.since h.touch, n1.touch⟩
/-- Some k brings 0. -/
theorem mod_hits (p m : Nat) (hm : 0 < m) : ∃ k, k < m ∧ (p + k) % m = 0 := by
  refine ⟨(m - p % m) % m, Nat.mod_lt _ hm, ?_⟩
  rw [Nat.add_mod, Nat.mod_mod]
  have hp := Nat.mod_lt p hm
  by_cases h0 : p % m = 0
  · rw [h0, Nat.sub_zero, Nat.mod_self]; simp
  · rw [Nat.mod_eq_of_lt (show m - p % m < m by omega), show p % m + (m - p % m) = m by omega, Nat.mod_self]
end Go.Proofs.Ytnbphdmpbjahhaa
