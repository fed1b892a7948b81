/- Package seq: Run on a sequence side by side with others; what SeqRuns wants of runs (the second half has no Go in it). -/
import Derived.Test.YtdnhoicfolkbnaaGreatPart24
import Derived.Test.YtdnhoicfolkbnaaGreatPart26
namespace Go.Proofs.YtdnhoicfolkbnaaGreat
open Go.RowKit
set_option linter.unusedVariables false
set_option linter.unusedSimpArgs false
set_option maxRecDepth 100000

theorem run_low {S : SS} {u : Un} {n : Int} (hn : n < 1) : S.may u n = false ∧ S.run u n = S := by
  have : S.may u n = false := by
    cases hm : S.may u n with
    | false => rfl
    | true => have := (may_iff.1 hm).2.1; omega
  exact ⟨this, by unfold SS.run; rw [this]; rfl⟩
theorem Inv.runN {S : SS} (h : Inv S) {u : Un} (hu : u.ok) (n : Int) (hn : n ≤ 1000) {k : Nat} (hz : Size S k) (hk : k ≤ 100000) : Inv (S.run u n) ∧ Size (S.run u n) (k + n.toNat) := by
  by_cases h1 : n < 1
  · rw [(run_low h1).2]; exact ⟨h, hz.mono (by omega)⟩
  · have a := hz.tot
    have b := hz.pcs
    have c := hz.runs
    obtain ⟨r1, r2, r3, r4⟩ := h.runI (u := u) (n := n) hu (fun _ => by omega) (by omega) (by omega)
    refine ⟨r1, ?_, by omega, by omega⟩
    rw [r2]
    split <;> omega
theorem Sq1.runN {w0 w : World} {p : Nat} {B : Bk} {S : SS} (h : Sq1 w0 w p B S) (u : Un) (hu : u.ok) (n : Int) (hn : -1000 ≤ n ∧ n ≤ 1000) {k : Nat} (hz : Size S k) (hk : k ≤ 100000) :
    Calls Tryz.prog 31 #[.pointer (some ⟨p, 0, none⟩), .agg #[.int .u64 u.c, .int .u64 u.k, .int .u64 u.lc, .int .u64 u.lk, .int .u64 u.rc, .int .u64 u.rk], .int .i64 n] w fun e w' => e = .returned (.bool (S.may u n)) ∧ ∃ B', Sq1 w0 w' p B' (S.run u n) ∧ (∀ x, B'.has x → B.has x ∨ w.heap.size ≤ x) ∧ Touch B.has w w' := by
  have hp := h.at_
  subst hp
  refine (h.mem.run h.inv u hu n 1000 (by omega) (by omega) (by omega) (hz.room (by omega) 1000 (by omega))).mono ?_
  rintro e w' ⟨rfl, B', a, b, c, d⟩
  refine ⟨rfl, B', ⟨a, b, fun k hk => ?_, (h.inv.runN hu n hn.2 hz hk).1⟩, c, d⟩
  rcases c k hk with e | e
  · exact h.new k e
  · obtain ⟨c', hc⟩ := h.mem.blk
    have h1 := lt_of_heap hc
    have h2 := h.new B.b (.inl rfl)
    omega
/-- Two sequences, and a box of a unit. -/
def TwoB (w W : World) (pa pb m : Nat) (Sa Sb : SS) (u : Un) : Prop := Touch (fun _ => False) w W ∧ w.heap.size ≤ m ∧ W.heap[m]? = some (unO u) ∧ ∃ A B, Sq1 w W pa A Sa ∧ Sq1 w W pb B Sb ∧ ApartB A B
theorem TwoB.touch {w W W' : World} {pa pb m : Nat} {Sa Sb : SS} {u : Un} (h : TwoB w W pa pb m Sa Sb u) (t : Touch (fun _ => False) W W') : TwoB w W' pa pb m Sa Sb u := by
  obtain ⟨t0, hm, hb, A, B, a, b, c⟩ := h
  exact ⟨t0.trans t, hm, heap_keep t hb, A, B, a.touch t, b.touch t, c⟩
theorem TwoB.runA {w W : World} {pa pb m : Nat} {Sa Sb : SS} {v : Un} (h : TwoB w W pa pb m Sa Sb v) (u : Un) (hu : u.ok) (n : Int) (hn : -1000 ≤ n ∧ n ≤ 1000) {k : Nat} (hz : Size Sa k) (hk : k ≤ 100000) :
    Calls Tryz.prog 31 #[.pointer (some ⟨pa, 0, none⟩), .agg #[.int .u64 u.c, .int .u64 u.k, .int .u64 u.lc, .int .u64 u.lk, .int .u64 u.rc, .int .u64 u.rk], .int .i64 n] W fun e w' => e = .returned (.bool (Sa.may u n)) ∧ TwoB w w' pa pb m (Sa.run u n) Sb v := by
  obtain ⟨t0, hm, hb, A, B, a, b, c⟩ := h
  refine (a.runN u hu n hn hz hk).mono ?_
  rintro e w' ⟨rfl, A', h1, h2, t⟩
  exact ⟨rfl, a.touch0 t0 t, hm, (t.block _ (lt_of_heap hb) (a.mem.noBox hb)).trans hb, A', B, h1, b.other t c.symm, (b.apart c.symm h2).symm⟩
theorem TwoB.insB {w W : World} {pa pb m : Nat} {Sa Sb : SS} {v : Un} (h : TwoB w W pa pb m Sa Sb v) (u : Un) (hu : u.ok) {k : Nat} (hz : Size Sb k) (hk : k ≤ 100000) :
    Calls Tryz.prog 32 #[.pointer (some ⟨pb, 0, none⟩), .agg #[.int .u64 u.c, .int .u64 u.k, .int .u64 u.lc, .int .u64 u.lk, .int .u64 u.rc, .int .u64 u.rk]] W fun e w' => e = .returned (.bool (Sb.may u 1)) ∧ TwoB w w' pa pb m Sa (Sb.run u 1) v := by
  obtain ⟨t0, hm, hb, A, B, a, b, c⟩ := h
  refine (b.ins u hu hz (by omega)).mono ?_
  rintro e w' ⟨rfl, B', h1, h2, t⟩
  exact ⟨rfl, b.touch0 t0 t, hm, (t.block _ (lt_of_heap hb) (b.mem.noBox hb)).trans hb, A, B', a.other t c, h1, a.apart c h2⟩
/-- The box laid anew. -/
theorem TwoB.set {w W W' : World} {pa pb m : Nat} {Sa Sb : SS} {u v : Un} (h : TwoB w W pa pb m Sa Sb u) (t : Touch (fun y => y = m) W W') (hv : W'.heap[m]? = some (unO v)) : TwoB w W' pa pb m Sa Sb v := by
  obtain ⟨t0, hm, hb, A, B, a, b, c⟩ := h
  refine ⟨t0.then t fun y hy e => by omega, hm, hv, A, B, ⟨a.mem.keep t fun k hk e => ?_, a.at_, a.new, a.inv⟩, ⟨b.mem.keep t fun k hk e => ?_, b.at_, b.new, b.inv⟩, c⟩
  · rw [e] at hk; exact a.mem.noBox hb hk
  · rw [e] at hk; exact b.mem.noBox hb hk
theorem TwoB.lenA {w W : World} {pa pb m : Nat} {Sa Sb : SS} {u : Un} (h : TwoB w W pa pb m Sa Sb u) : Calls Tryz.prog 35 #[.pointer (some ⟨pa, 0, none⟩)] W fun e w' => e = .returned (.int .i64 (Sa.units.length : Int)) ∧ Touch (fun _ => False) W w' := by
  obtain ⟨t0, hm, hb, A, B, a, b, c⟩ := h
  exact a.len
theorem TwoB.lenB {w W : World} {pa pb m : Nat} {Sa Sb : SS} {u : Un} (h : TwoB w W pa pb m Sa Sb u) : Calls Tryz.prog 35 #[.pointer (some ⟨pb, 0, none⟩)] W fun e w' => e = .returned (.int .i64 (Sb.units.length : Int)) ∧ Touch (fun _ => False) W w' := by
  obtain ⟨t0, hm, hb, A, B, a, b, c⟩ := h
  exact b.len
theorem TwoB.findA {w W : World} {pa pb m : Nat} {Sa Sb : SS} {u : Un} (h : TwoB w W pa pb m Sa Sb u) (c k : Int) (hc : 0 ≤ c) (hk : 0 ≤ k) (hk2 : k < 18446744073709551616) : Calls Tryz.prog 36 #[.pointer (some ⟨pa, 0, none⟩), .agg #[.int .u64 c, .int .u64 k]] W fun e w' => e = .returned (.int .i64 (Sa.find c k)) ∧ Touch (fun _ => False) W w' := by
  obtain ⟨t0, hm, hb, A, B, a, b, _⟩ := h
  exact a.find c k hc hk hk2
theorem TwoB.box {w W : World} {pa pb m : Nat} {Sa Sb : SS} {u : Un} (h : TwoB w W pa pb m Sa Sb u) (v : Un) : TwoB w (W.alloc (unO v)) pa pb W.heap.size Sa Sb v := by
  obtain ⟨t0, hm, hb, A, B, a, b, c⟩ := h
  have t := (Touch.refl (fun _ => False) W).alloc (unO v)
  exact ⟨t0.trans t, t0.size, heap_alloc_new _ _, A, B, a.touch t, b.touch t, c⟩
theorem run_not {S : SS} {u : Un} {n : Int} (hm : S.may u n = false) : S.run u n = S := by unfold SS.run; rw [hm]; rfl
/-- A unit that is there isn't laid again. -/
theorem Inv.may_there {S : SS} (h : Inv S) {u : Un} (hu : ∃ v ∈ S.units, v.c = u.c ∧ v.k = u.k) : S.may u 1 = false := by
  obtain ⟨v, hv, e1, e2⟩ := hu
  cases hm : S.may u 1 with
  | false => rfl
  | true =>
    have h1 := (may_iff.1 hm).2.2.2.1
    have h2 := h.hasAny_true hv
    rw [e1, e2, h1] at h2
    cases h2
/-- Units without origins. -/
theorem Inv.may_free {S : SS} (h : Inv S) {u : Un} {n : Nat} (hn : 1 ≤ n) (hc : numOk u.c = true) (hk : numOk u.k = true) (hkn : (n : Int) - 1 ≤ 9007199254740991 - u.k) (hf : ∀ v ∈ S.units, v.k < u.k) (hl : u.lc = 0 ∧ u.lk = 0) (hr : u.rc = 0 ∧ u.rk = 0) : S.may u n = true := by
  have hc' : 1 ≤ u.c ∧ u.c ≤ 9007199254740991 := by simpa [numOk] using hc
  have hk' : 1 ≤ u.k ∧ u.k ≤ 9007199254740991 := by simpa [numOk] using hk
  refine may_iff.2 ⟨⟨hc, hk⟩, by omega, hkn, h.hasAny_false hc'.1 (by omega) (by omega) fun v hv hh => by have := hf v hv; omega, ?_⟩
  have h0 : S.find 0 0 = -1 := h.find_none (by omega) (by omega) fun v hv => by have := h.units_ok hv; omega
  have ht := h.total_nn
  unfold SS.between SS.rightOf
  rw [if_pos hr, hl.1, hl.2, h0, if_neg]
  rintro (⟨a, b⟩ | a)
  · exact b ⟨rfl, rfl⟩
  · omega
def tpU : Un := ⟨5, 9007199254740990, 0, 0, 0, 0⟩
theorem tpU_ok : tpU.ok := ⟨by decide, ⟨by decide, by decide⟩, by decide, ⟨by decide, by decide⟩, by decide, ⟨by decide, by decide⟩⟩
theorem tpU_three (S : SS) : S.may tpU 3 = false := by
  cases hm : S.may tpU 3 with
  | false => rfl
  | true =>
    have h1 := (may_iff.1 hm).2.2.1
    have h2 : (3 : Int) - 1 ≤ 9007199254740991 - 9007199254740990 := h1
    omega
/-- All that SeqRuns asks of a: behind the run, and behind the two units at the top. -/
structure RunA (S A1 A2 : SS) (u : Un) (p n : Nat) : Prop where
  may1 : S.may u n = true
  run1 : A1 = S.run u n
  inv1 : Inv A1
  size1 : Size A1 60
  again : A1.may u 1 = false
  find1 : ∀ j, j < n → A1.find u.c (u.k + (j : Int)) = ((p + j : Nat) : Int)
  notop : A1.find 5 9007199254740990 = -1
  may2 : A1.may tpU 2 = true
  run2 : A2 = A1.run tpU 2
  inv2 : Inv A2
  size2 : Size A2 62
  has : ∀ v, v ∈ S.units.take p ++ runUns u n ++ S.units.drop p → 0 ≤ A2.find v.c v.k
  len : A2.units.length = S.units.length + n + 2
theorem RunA.mk' {S : SS} (h : Inv S) (hz : Size S 40) {c k : Int} (hc : 1 ≤ c ∧ c ≤ 1000) (hk : 1 ≤ k ∧ k ≤ 100000) (hf : ∀ v ∈ S.units, v.k < k) {p n : Nat} (hp : p ≤ S.units.length) (hn : 1 ≤ n ∧ n ≤ 20) : RunA S (S.run (btU S c k p) n) ((S.run (btU S c k p) n).run tpU 2) (btU S c k p) p n := by
  have hu := btU_ok h c k hc.1 ⟨hk.1, by omega⟩ p
  obtain ⟨l1, l2, l3⟩ := btU_laid h hz (by omega) c k hc (by omega) p n hp (by omega) (fun v hv hh => by have := hf v hv; omega)
  obtain ⟨_, z1⟩ := h.runN hu (n : Int) (by omega) hz (by omega)
  have z1' : Size (S.run (btU S c k p) n) 60 := z1.mono (by omega)
  have htl : (S.units.take p).length = p := by rw [List.length_take]; omega
  have hkb : ∀ v ∈ (S.run (btU S c k p) n).units, v.k < 9007199254740990 := fun v hv => by
    rw [l3] at hv
    have old : v ∈ S.units → v.k < 9007199254740990 := fun hv => by have := hf v hv; omega
    rcases List.mem_append.1 hv with hv | hv
    · rcases List.mem_append.1 hv with hv | hv
      · exact old (List.mem_of_mem_take hv)
      · obtain ⟨q, hq, rfl⟩ := List.mem_map.1 hv
        have hq' := List.mem_range.1 hq
        rw [(runUn_c _ q).2.1]
        show k + (q : Int) < _
        omega
    · exact old (List.mem_of_mem_drop hv)
  have m2 : (S.run (btU S c k p) n).may tpU (2 : Nat) = true := l2.may_free (by omega) (by decide) (by decide) (by decide) hkb ⟨rfl, rfl⟩ ⟨rfl, rfl⟩
  obtain ⟨i2, z2⟩ := l2.runN tpU_ok 2 (by omega) z1' (by omega)
  obtain ⟨q, hq, _, e2⟩ := l2.run_unitsN tpU_ok (n := 2) (by omega) m2 (by have := z1'.pcs; omega)
  have e2' : ((S.run (btU S c k p) n).run tpU 2).units = (S.run (btU S c k p) n).units.take q ++ runUns tpU 2 ++ (S.run (btU S c k p) n).units.drop q := e2
  refine ⟨l1, rfl, l2, z1', ?_, ?_, ?_, m2, rfl, i2, z2.mono (by decide), ?_, ?_⟩
  · refine l2.may_there ⟨btU S c k p, ?_, rfl, rfl⟩
    rw [l3]
    refine List.mem_append_left _ (List.mem_append_right _ ?_)
    exact List.mem_map.2 ⟨0, List.mem_range.2 (by omega), rfl⟩
  · intro j hj
    have := find_run l2 l3 j hj
    rw [htl] at this
    exact this
  · exact l2.find_none (by omega) (by omega) fun v hv hh => by have := hkb v hv; omega
  · intro v hv
    have hv1 : v ∈ (S.run (btU S c k p) n).units := by rw [l3]; exact hv
    have hv2 : v ∈ ((S.run (btU S c k p) n).run tpU 2).units := by
      rw [e2']
      rw [← List.take_append_drop q (S.run (btU S c k p) n).units] at hv1
      rcases List.mem_append.1 hv1 with h | h
      · exact List.mem_append_left _ (List.mem_append_left _ h)
      · exact List.mem_append_right _ h
    obtain ⟨m, hm, rfl⟩ := List.mem_iff_getElem.1 hv2
    rw [i2.find_units m hm]; omega
  · have hl3 : (S.run (btU S c k p) n).units.length = S.units.length + n := by
      rw [l3, List.length_append, List.length_append, htl, runUns_len, List.length_drop]; omega
    rw [e2', List.length_append, List.length_append, runUns_len, List.length_take, List.length_drop]
    omega
/-- What b is behind i of the run's units, one by one. -/
structure RnI (S T : SS) (u : Un) (p i : Nat) : Prop where
  inv : Inv T
  size : Size T (40 + i)
  units : T.units = S.units.take p ++ runUns u i ++ S.units.drop p
theorem RnI.zero {S : SS} {u : Un} {p : Nat} (h : Inv S) (hz : Size S 40) : RnI S S u p 0 := ⟨h, hz, by simp [runUns]⟩
theorem runUn_ok {u : Un} (hu : u.ok) (hk : u.k ≤ 1000000) (hc : 1 ≤ u.c) (j : Nat) (hj : j ≤ 1000) : (runUn u j).ok := by
  have h1 := hu.k.1
  unfold runUn
  split
  · exact hu
  · exact ⟨hu.c, ⟨by show 0 ≤ u.k + (j : Int); omega, by show u.k + (j : Int) < _; omega⟩, hu.c, ⟨by show 0 ≤ u.k + (j : Int) - 1; omega, by show u.k + (j : Int) - 1 < _; omega⟩, hu.rc, hu.rk⟩
theorem RnI.step {S T : SS} {c k : Int} {p i : Nat} (hS : Inv S) (hc : 1 ≤ c ∧ c ≤ 1000) (hk : 1 ≤ k ∧ k ≤ 100000) (hf : ∀ v ∈ S.units, v.k < k) (hp : p ≤ S.units.length) (h : RnI S T (btU S c k p) p i) (hi : i ≤ 100) : (runUn (btU S c k p) i).ok ∧ T.may (runUn (btU S c k p) i) 1 = true ∧ RnI S (T.run (runUn (btU S c k p) i) 1) (btU S c k p) p (i + 1) := by
  have hu := btU_ok hS c k hc.1 ⟨hk.1, by omega⟩ p
  have hok : (runUn (btU S c k p) i).ok := runUn_ok hu (by show k ≤ 1000000; omega) hc.1 i (by omega)
  have htl : (S.units.take p).length = p := by rw [List.length_take]; omega
  have hrl : (runUns (btU S c k p) i).length = i := runUns_len _ _
  have hul : T.units.length = S.units.length + i := by
    rw [h.units, List.length_append, List.length_append, htl, hrl, List.length_drop]; omega
  have hget : ∀ q (hq : q < i), ∃ hq' : p + q < T.units.length, T.units[p + q] = runUn (btU S c k p) q := fun q hq => by
    refine ⟨by omega, ?_⟩
    have : T.units[p + q]? = some (runUn (btU S c k p) q) := by
      rw [h.units, List.append_assoc, List.getElem?_append_right (by omega), List.getElem?_append_left (by omega), htl, show p + q - p = q by omega, List.getElem?_eq_getElem (by omega), runUns_get]
    rw [List.getElem?_eq_getElem (by omega)] at this
    exact Option.some.inj this
  have hright : ∀ (hq : p + i < T.units.length), ∃ hq' : p < S.units.length, T.units[p + i] = S.units[p] := fun hq => by
    refine ⟨by omega, ?_⟩
    have : T.units[p + i]? = some S.units[p] := by
      rw [h.units, List.getElem?_append_right (by rw [List.length_append]; omega), List.length_append, htl, hrl, show p + i - (p + i) = 0 by omega, List.getElem?_drop, Nat.add_zero, List.getElem?_eq_getElem]
    rw [List.getElem?_eq_getElem hq] at this
    exact Option.some.inj this
  have hbet : (T.between (runUn (btU S c k p) i)).2.2 = true ∧ T.placeFor (runUn (btU S c k p) i) = ((p + i : Nat) : Int) := by
    obtain ⟨_, _, e3, e4⟩ := runUn_c (btU S c k p) i
    refine h.inv.between_at (by omega) ?_ ?_ ?_ ?_
    · intro e
      have hi0 : i = 0 := by omega
      subst hi0
      show (S.at_ ((p : Int) - 1)).1.c = 0 ∧ (S.at_ ((p : Int) - 1)).1.k = 0
      rw [hS.at_none _ (by omega)]; exact ⟨rfl, rfl⟩
    · intro q hq e
      by_cases hi0 : i = 0
      · subst hi0
        have hTS : T.units = S.units := by rw [h.units]; simp [runUns]
        show T.units[q].c = (S.at_ ((p : Int) - 1)).1.c ∧ T.units[q].k = (S.at_ ((p : Int) - 1)).1.k
        have hq' : q < S.units.length := by omega
        have e1 : T.units[q] = S.units[q] := by simp only [hTS]
        rw [e1, show (p : Int) - 1 = (q : Int) by omega, hS.at_units q hq']
        exact ⟨rfl, rfl⟩
      · obtain ⟨hq', e1⟩ := hget (i - 1) (by omega)
        have hqe : q = p + (i - 1) := by omega
        subst hqe
        rw [e1, (runUn_c _ _).1, (runUn_c _ _).2.1]
        unfold runUn
        rw [if_neg hi0]
        exact ⟨rfl, by show k + ((i - 1 : Nat) : Int) = k + (i : Int) - 1; omega⟩
    · intro e
      rw [e3, e4]
      show (S.at_ (p : Int)).1.c = 0 ∧ (S.at_ (p : Int)).1.k = 0
      rw [hS.at_none _ (by omega)]; exact ⟨rfl, rfl⟩
    · intro hq
      obtain ⟨hq', e1⟩ := hright hq
      rw [e1, e3, e4]
      show S.units[p].c = (S.at_ (p : Int)).1.c ∧ S.units[p].k = (S.at_ (p : Int)).1.k
      rw [hS.at_units p hq']
      exact ⟨rfl, rfl⟩
  have hnew : ∀ v ∈ T.units, ¬ (v.c = (runUn (btU S c k p) i).c ∧ (runUn (btU S c k p) i).k ≤ v.k ∧ v.k < (runUn (btU S c k p) i).k + 1) := fun v hv => by
    obtain ⟨e1, e2, _, _⟩ := runUn_c (btU S c k p) i
    rw [e1, e2]
    have ek : (btU S c k p).k = k := rfl
    have old : v ∈ S.units → ¬ (v.c = (btU S c k p).c ∧ (btU S c k p).k + (i : Int) ≤ v.k ∧ v.k < (btU S c k p).k + (i : Int) + 1) := fun hv => by
      have := hf v hv
      omega
    rw [h.units] at hv
    rcases List.mem_append.1 hv with hv | hv
    · rcases List.mem_append.1 hv with hv | hv
      · exact old (List.mem_of_mem_take hv)
      · obtain ⟨q, hq, rfl⟩ := List.mem_map.1 hv
        have hq' := List.mem_range.1 hq
        rw [(runUn_c _ q).2.1]
        omega
    · exact old (List.mem_of_mem_drop hv)
  have hmay : T.may (runUn (btU S c k p) i) 1 = true := by
    obtain ⟨e1, e2, _, _⟩ := runUn_c (btU S c k p) i
    have ec : (btU S c k p).c = c := rfl
    have ek : (btU S c k p).k = k := rfl
    refine may_iff.2 ⟨⟨?_, ?_⟩, Int.le_refl _, ?_, ?_, hbet.1⟩
    · rw [e1, ec]; simp [numOk]; omega
    · rw [e2, ek]; simp [numOk]; omega
    · rw [e2, ek]; omega
    · exact h.inv.hasAny_false (by rw [e1, ec]; omega) (by rw [e2, ek]; omega) (Int.le_refl _) hnew
  obtain ⟨r1, r2⟩ := h.inv.run1 hok h.size (by omega)
  obtain ⟨q, hq, eq, eu⟩ := h.inv.run_units hok hmay (h.size.room (by omega) 1 (by omega))
  have hqp : q = p + i := by omega
  subst hqp
  refine ⟨hok, hmay, r1, by rw [Nat.add_assoc] at r2; exact r2, ?_⟩
  have htake : T.units.take (p + i) = S.units.take p ++ runUns (btU S c k p) i := by
    rw [h.units]
    exact List.take_left' (by rw [List.length_append]; omega)
  have hdrop : T.units.drop (p + i) = S.units.drop p := by
    rw [h.units]
    exact List.drop_left' (by rw [List.length_append]; omega)
  rw [eu, htake, hdrop, runUns_succ]
  simp only [List.append_assoc, List.singleton_append]
end Go.Proofs.YtdnhoicfolkbnaaGreat
