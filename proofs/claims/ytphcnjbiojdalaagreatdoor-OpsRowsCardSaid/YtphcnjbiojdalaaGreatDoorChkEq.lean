/- The program's Check and the document's are one. -/
import Derived.Test.YtphcnjbiojdalaaGreatDoorRChkM
namespace Go.Proofs.YtphcnjbiojdalaaGreatDoor
open Go.RowKit
set_option linter.unusedVariables false
set_option linter.unusedSimpArgs false
set_option maxRecDepth 100000

theorem emptyB : (⟨#[]⟩ : ByteArray).toList = [] := by rw [ByteArray.toList_eq]
theorem cmp_zero : refCmp zeroV zeroV = 0 := by kernel_rfl
theorem same12 (o : O) : sameO (rest12 o) zeroO = true ↔ o.st = 0 ∧ o.ky.toList = [] ∧ o.pc = 0 ∧ o.pk = 0 ∧ o.fc = 0 ∧ o.fk = 0 ∧ o.fa = false ∧ o.tc = 0 ∧ o.tk = 0 ∧ o.ta = false := by
  have hz : refCmp (rest12 o).v zeroO.v = 0 := cmp_zero
  unfold sameO
  rw [hz]
  simp only [Bool.and_eq_true, beq_iff_eq, decide_eq_true_eq]
  simp only [rest12, zeroO, emptyB]
  constructor <;> intro h <;> simp_all
theorem same2 (o : O) : sameO (rest2 o) zeroO = true ↔ o.st = 0 ∧ o.tx.toList = [] ∧ o.ky.toList = [] ∧ o.pc = 0 ∧ o.pk = 0 ∧ o.fc = 0 ∧ o.fk = 0 ∧ o.fa = false ∧ o.tc = 0 ∧ o.tk = 0 ∧ o.ta = false := by
  have hz : refCmp (rest2 o).v zeroO.v = 0 := cmp_zero
  unfold sameO
  rw [hz]
  simp only [Bool.and_eq_true, beq_iff_eq, decide_eq_true_eq]
  simp only [rest2, zeroO, emptyB]
  constructor <;> intro h <;> simp_all
theorem same34 (o : O) : sameO (rest34 o) zeroO = true ↔ o.lc = 0 ∧ o.lk = 0 ∧ o.rc = 0 ∧ o.rk = 0 ∧ o.tx.toList = [] := by
  have hz : refCmp (rest34 o).v zeroO.v = 0 := cmp_zero
  unfold sameO
  rw [hz]
  simp only [Bool.and_eq_true, beq_iff_eq, decide_eq_true_eq]
  simp only [rest34, zeroO, emptyB]
  constructor <;> intro h <;> simp_all
theorem same4 (o : O) : sameO (rest4 o) zeroO = true ↔ o.lc = 0 ∧ o.lk = 0 ∧ o.rc = 0 ∧ o.rk = 0 ∧ o.tx.toList = [] ∧ o.fc = 0 ∧ o.fk = 0 ∧ o.fa = false ∧ o.tc = 0 ∧ o.tk = 0 ∧ o.ta = false := by
  have hz : refCmp (rest4 o).v zeroO.v = 0 := cmp_zero
  unfold sameO
  rw [hz]
  simp only [Bool.and_eq_true, beq_iff_eq, decide_eq_true_eq]
  simp only [rest4, zeroO, emptyB]
  constructor <;> intro h <;> simp_all
theorem num_iff (x : Int) : numOk x = true ↔ 1 ≤ x ∧ x ≤ 9007199254740991 := by unfold numOk; simp
theorem named_iff (x y : Int) : namedB x y = true ↔ (x = 0 ∧ y = 0) ∨ ((1 ≤ x ∧ x ≤ 9007199254740991) ∧ (1 ≤ y ∧ y ≤ 9007199254740991)) := by unfold namedB; simp [num_iff]
theorem own_iff (o : O) (x y : Int) : ownB o x y = true ↔ x = o.c ∧ o.k ≤ y ∧ IntKind.u64.wrap (y - o.k) < (lenO o : Int) := by unfold ownB; simp
/-- What its ids ask, if its own end is right. -/
theorem name_iff (o : O) (x y : Int) (hy : 0 ≤ y ∧ y < 18446744073709551616) (hc : 1 ≤ o.c ∧ o.c ≤ 9007199254740991) (hk : 1 ≤ o.k ∧ o.k ≤ 9007199254740991) (hl : 1 ≤ lenO o) (hE : endO o = o.k + (lenO o : Int)) (hM : o.k + (lenO o : Int) ≤ 9007199254740992) :
    nameOk (rgOf o) (x, y) = true ↔ namedB x y = true ∧ ownB o x y = false := by
  have hok : Rg.ok (rgOf o) = true := by
    unfold Rg.ok rgOf
    rw [hE]
    simp only [Bool.and_eq_true, decide_eq_true_eq, num_iff]
    omega
  have hh : hasB [rgOf o] x y = true ↔ ownB o x y = true := by
    unfold hasB
    rw [List.filter_cons_of_pos hok, List.filter_nil, own_iff]
    simp only [List.any_cons, List.any_nil, Bool.or_false]
    unfold Rg.has rgOf
    rw [hE]
    simp only [Bool.and_eq_true, decide_eq_true_eq, beq_iff_eq]
    constructor
    · rintro ⟨h1, h2, h3⟩
      refine ⟨by omega, h2, ?_⟩
      rw [wrap_u64_small _ (by omega) (by omega)]; omega
    · rintro ⟨h1, h2, h3⟩
      rw [wrap_u64_small _ (by omega) (by omega)] at h3
      exact ⟨by omega, h2, by omega⟩
  have hz : (x = 0 ∧ y = 0) → ownB o x y = false := by
    rintro ⟨h1, h2⟩
    rw [Bool.eq_false_iff]
    intro h
    rw [own_iff] at h
    omega
  have e : nameOk (rgOf o) (x, y) = true ↔ (x = 0 ∧ y = 0) ∨ (((1 ≤ x ∧ x ≤ 9007199254740991) ∧ (1 ≤ y ∧ y ≤ 9007199254740991)) ∧ ¬ hasB [rgOf o] x y = true) := by
    unfold nameOk
    simp [num_iff]
  rw [e, hh, named_iff]
  constructor
  · rintro (h | ⟨h1, h2⟩)
    · exact ⟨.inl h, hz h⟩
    · exact ⟨.inr h1, by simpa using h2⟩
  · rintro ⟨h1 | h1, h2⟩
    · exact .inl h1
    · exact .inr ⟨h1, by simpa using h2⟩
theorem free_iff (o : O) : freeB o = true ↔ ownB o o.lc o.lk = false ∧ ownB o o.rc o.rk = false ∧ ownB o o.fc o.fk = false ∧ ownB o o.tc o.tk = false ∧ ownB o o.pc o.pk = false := by unfold freeB; simp
theorem ids_iff (o : O) (hf : o.fits) (hc : 1 ≤ o.c ∧ o.c ≤ 9007199254740991) (hk : 1 ≤ o.k ∧ o.k ≤ 9007199254740991) (hl : 1 ≤ lenO o) (hE : endO o = o.k + (lenO o : Int)) (hM : o.k + (lenO o : Int) ≤ 9007199254740992) :
    idsB o = true ↔ (namedB o.lc o.lk = true ∧ namedB o.rc o.rk = true ∧ namedB o.fc o.fk = true ∧ namedB o.tc o.tk = true ∧ namedB o.pc o.pk = true) ∧ freeB o = true := by
  have n1 := name_iff o o.lc o.lk hf.lk hc hk hl hE hM
  have n2 := name_iff o o.rc o.rk hf.rk hc hk hl hE hM
  have n3 := name_iff o o.fc o.fk hf.fk hc hk hl hE hM
  have n4 := name_iff o o.tc o.tk hf.tk hc hk hl hE hM
  have n5 := name_iff o o.pc o.pk hf.pk hc hk hl hE hM
  have e : idsB o = true ↔ nameOk (rgOf o) (o.lc, o.lk) = true ∧ nameOk (rgOf o) (o.rc, o.rk) = true ∧ nameOk (rgOf o) (o.fc, o.fk) = true ∧ nameOk (rgOf o) (o.tc, o.tk) = true ∧ nameOk (rgOf o) (o.pc, o.pk) = true := by
    unfold idsB namesL
    have h1 : numOk o.c = true := (num_iff _).2 hc
    have h2 : numOk o.k = true := (num_iff _).2 hk
    have h3 : decide (endO o ≤ 9007199254740992) = true := decide_eq_true (by omega)
    rw [h1, h2, h3]
    simp
  rw [e, n1, n2, n3, n4, n5, free_iff]
  constructor
  · rintro ⟨⟨a1, b1⟩, ⟨a2, b2⟩, ⟨a3, b3⟩, ⟨a4, b4⟩, ⟨a5, b5⟩⟩
    exact ⟨⟨a1, a2, a3, a4, a5⟩, b1, b2, b3, b4, b5⟩
  · rintro ⟨⟨a1, a2, a3, a4, a5⟩, b1, b2, b3, b4, b5⟩
    exact ⟨⟨a1, b1⟩, ⟨a2, b2⟩, ⟨a3, b3⟩, ⟨a4, b4⟩, ⟨a5, b5⟩⟩
theorem zero_named : namedB 0 0 = true := rfl
theorem plain_iff (v : V) : plainOk v = true ↔ refCheck v = 0 ∧ ¬ v.k = 5 := by unfold plainOk; simp
theorem key_ge (n : Int) : stampOk n = true ↔ 1 ≤ n ∧ n ≤ 9007199254740991 := by unfold stampOk; simp
/-- No value at all. -/
theorem none_iff (v : V) : (refCmp v zeroV = 0 ∧ refCheck v = 0 ∧ ¬ v.k = 5) ↔ (v.k = 0 ∧ refCheck v = 0) := by
  constructor
  · rintro ⟨h1, h2, _⟩
    refine ⟨?_, h2⟩
    unfold refCmp refInts at h1
    by_cases e : v.k = 0
    · exact e
    · exfalso
      have hz : zeroV.k = 0 := rfl
      rw [hz] at h1
      by_cases e2 : v.k < 0
      · simp [e2] at h1
      · have e3 : 0 < v.k := by omega
        simp [e2, e3] at h1
  · rintro ⟨h1, h2⟩
    refine ⟨?_, h2, by omega⟩
    unfold refCheck at h2
    have h3 : vOk v = true := by
      by_cases e : vOk v = true
      · exact e
      · rw [if_neg e] at h2; cases h2
    unfold vOk at h3
    rw [if_pos (.inl h1)] at h3
    simp only [Bool.and_eq_true, beq_iff_eq, List.isEmpty_iff] at h3
    obtain ⟨⟨a1, a2⟩, a3⟩ := h3
    obtain ⟨k, n, f, s⟩ := v
    simp only at h1 a1 a2 a3
    have hs : s = ⟨#[]⟩ := by
      rw [ByteArray.toList_eq] at a3
      apply ByteArray.ext
      apply Array.ext'
      exact a3
    have hff : f = 0 := by omega
    subst h1 a1 hff hs
    exact cmp_zero
theorem end_small (o : O) (hk : 1 ≤ o.k ∧ o.k ≤ 9007199254740991) (hl : (lenO o : Int) ≤ 9007199254740992) : endO o = o.k + (lenO o : Int) := wrap_u64_small _ (by omega) (by omega)
theorem chk_eq (o : O) (hf : o.fits) (hs : o.tx.size ≤ 17592186044416) : checkB o = rchk o := by
  by_cases hn : (numOk o.c && numOk o.k) = true
  rotate_left
  · have h1 : (numOk o.c && numOk o.k) = false := by simpa using hn
    unfold checkB idsB rchk
    rw [h1]
    simp
  have hc : 1 ≤ o.c ∧ o.c ≤ 9007199254740991 := by rw [Bool.and_eq_true, num_iff] at hn; exact hn.1
  have hk : 1 ≤ o.k ∧ o.k ≤ 9007199254740991 := by rw [Bool.and_eq_true, num_iff, num_iff] at hn; exact hn.2
  have hrl : (rsOf o.tx.data.toList).length ≤ o.tx.size := by have := rsOf_len o.tx.data.toList; simpa using this
  have hR : rchk o = (kindB o && freeB o) := by unfold rchk; rw [hn, Bool.true_and]
  rw [hR, Bool.eq_iff_iff]
  unfold checkB
  rw [Bool.and_eq_true, Bool.and_eq_true]
  by_cases k1 : o.kind = 1
  · have hl := lenO_text k1
    have hle := lenO_le o
    have hE := end_small o hk (by omega)
    have ef : formB o = true ↔ (1 ≤ lenO o ∧ lenO o ≤ 4096) ∧ (o.v.k = 0 ∧ refCheck o.v = 0) ∧ (o.st = 0 ∧ o.ky.toList = [] ∧ o.pc = 0 ∧ o.pk = 0 ∧ o.fc = 0 ∧ o.fk = 0 ∧ o.fa = false ∧ o.tc = 0 ∧ o.tk = 0 ∧ o.ta = false) := by
      unfold formB textOk
      rw [if_pos k1, ← same12, ← none_iff, hl]
      simp only [Bool.and_eq_true, beq_iff_eq, decide_eq_true_eq, plain_iff]
      constructor
      · rintro ⟨⟨⟨h1, h2⟩, h3, h4⟩, h5⟩
        exact ⟨h1, ⟨h2, h3, h4⟩, h5⟩
      · rintro ⟨h1, ⟨h2, h3, h4⟩, h5⟩
        exact ⟨⟨⟨h1, h2⟩, h3, h4⟩, h5⟩
    have hw : IntKind.u64.wrap (IntKind.u64.wrap (o.k + ((rsOf o.tx.data.toList).length : Int)) - 1) = o.k + (lenO o : Int) - 1 := by
      rw [← hl]
      show IntKind.u64.wrap (endO o - 1) = _
      rw [hE]
      exact wrap_u64_small _ (by omega) (by omega)
    have some_of : 1 ≤ lenO o → (runesOf o.tx.data.toList).isSome = true := fun h => by
      cases e : runesOf o.tx.data.toList with
      | some r => rfl
      | none => rw [hl, rsOf_none e] at h; simp at h
    have ek : kindB o = true ↔ (namedB o.lc o.lk = true ∧ namedB o.rc o.rk = true) ∧ (1 ≤ lenO o ∧ lenO o ≤ 4096 ∧ o.k + (lenO o : Int) - 1 ≤ 9007199254740991) ∧ (o.v.k = 0 ∧ refCheck o.v = 0) ∧ (o.st = 0 ∧ o.ky.toList = [] ∧ o.pc = 0 ∧ o.pk = 0 ∧ o.fc = 0 ∧ o.fk = 0 ∧ o.fa = false ∧ o.tc = 0 ∧ o.tk = 0 ∧ o.ta = false) := by
      unfold kindB
      rw [if_pos k1, hw, ← hl]
      simp only [Bool.and_eq_true, beq_iff_eq, decide_eq_true_eq, Bool.not_eq_true']
      constructor
      · rintro ⟨⟨⟨⟨⟨⟨⟨⟨⟨a1, a2⟩, a3⟩, a4⟩, a5⟩, a6⟩, a7⟩, a8⟩, a9⟩, a10⟩
        exact ⟨a1, ⟨by omega, by omega, a5⟩, a7, a6, a8, a9.1, a9.2, a10.1.1, a10.1.2.1, a10.1.2.2, a10.2.1, a10.2.2.1, a10.2.2.2⟩
      · rintro ⟨a1, ⟨a3, a4, a5⟩, a7, a6, a8, p1, p2, f1, f2, f3, t1, t2, t3⟩
        exact ⟨⟨⟨⟨⟨⟨⟨⟨⟨a1, some_of a3⟩, by omega⟩, by omega⟩, a5⟩, a6⟩, a7⟩, a8⟩, p1, p2⟩, ⟨f1, f2, f3⟩, t1, t2, t3⟩
    rw [ef, ek]
    constructor
    · rintro ⟨⟨⟨h1, h2⟩, h3, h4⟩, h5⟩
      by_cases hM : o.k + (lenO o : Int) ≤ 9007199254740992
      · have := (ids_iff o hf hc hk h1 hE hM).1 h5
        exact ⟨⟨⟨this.1.1, this.1.2.1⟩, ⟨h1, h2, by omega⟩, h3, h4⟩, this.2⟩
      · exfalso
        unfold idsB at h5
        have : decide (endO o ≤ 9007199254740992) = false := decide_eq_false (by omega)
        rw [this] at h5
        simp at h5
    · rintro ⟨⟨⟨n1, n2⟩, ⟨h1, h2, h3⟩, h4, h5⟩, h6⟩
      obtain ⟨s1, s2, p1, p2, f1, f2, f3, t1, t2, t3⟩ := h5
      refine ⟨⟨⟨h1, h2⟩, h4, s1, s2, p1, p2, f1, f2, f3, t1, t2, t3⟩, (ids_iff o hf hc hk h1 hE (by omega)).2 ⟨⟨n1, n2, ?_, ?_, ?_⟩, h6⟩⟩
      · rw [f1, f2]; rfl
      · rw [t1, t2]; rfl
      · rw [p1, p2]; rfl
  have hl := lenO_other k1
  have hE := end_small o hk (by omega)
  rw [ids_iff o hf hc hk (by omega) hE (by omega)]
  by_cases k2 : o.kind = 2
  · have ef : formB o = true ↔ (refCheck o.v = 0 ∧ ¬ o.v.k = 5) ∧ (o.st = 0 ∧ o.tx.toList = [] ∧ o.ky.toList = [] ∧ o.pc = 0 ∧ o.pk = 0 ∧ o.fc = 0 ∧ o.fk = 0 ∧ o.fa = false ∧ o.tc = 0 ∧ o.tk = 0 ∧ o.ta = false) := by
      unfold formB
      rw [if_neg k1, if_pos k2, ← same2, Bool.and_eq_true, plain_iff]
    have ek : kindB o = true ↔ (namedB o.lc o.lk = true ∧ namedB o.rc o.rk = true) ∧ (refCheck o.v = 0 ∧ ¬ o.vk = 5) ∧ (o.st = 0 ∧ o.tx.toList = [] ∧ o.ky.toList = [] ∧ o.pc = 0 ∧ o.pk = 0 ∧ o.fc = 0 ∧ o.fk = 0 ∧ o.fa = false ∧ o.tc = 0 ∧ o.tk = 0 ∧ o.ta = false) := by
      unfold kindB
      rw [if_neg k1, if_pos k2]
      simp only [Bool.and_eq_true, beq_iff_eq, decide_eq_true_eq, Bool.not_eq_true']
      constructor
      · rintro ⟨⟨⟨⟨⟨⟨⟨a1, a2⟩, a3⟩, a4⟩, a5⟩, a6⟩, a7⟩, a8⟩
        exact ⟨a1, ⟨a2, a3⟩, a4, a5, a6, a7.1, a7.2, a8.1.1, a8.1.2.1, a8.1.2.2, a8.2.1, a8.2.2.1, a8.2.2.2⟩
      · rintro ⟨a1, ⟨a2, a3⟩, a4, a5, a6, p1, p2, f1, f2, f3, t1, t2, t3⟩
        exact ⟨⟨⟨⟨⟨⟨⟨a1, a2⟩, a3⟩, a4⟩, a5⟩, a6⟩, p1, p2⟩, ⟨f1, f2, f3⟩, t1, t2, t3⟩
    rw [ef, ek]
    constructor
    · rintro ⟨⟨h1, h2⟩, h3, h4⟩
      exact ⟨⟨⟨h3.1, h3.2.1⟩, h1, h2⟩, h4⟩
    · rintro ⟨⟨⟨n1, n2⟩, h1, h2⟩, h4⟩
      obtain ⟨s1, s2, s3, p1, p2, f1, f2, f3, t1, t2, t3⟩ := h2
      refine ⟨⟨h1, s1, s2, s3, p1, p2, f1, f2, f3, t1, t2, t3⟩, ⟨n1, n2, ?_, ?_, ?_⟩, h4⟩
      · rw [f1, f2]; rfl
      · rw [t1, t2]; rfl
      · rw [p1, p2]; rfl
  by_cases k3 : o.kind = 3
  · have ef : formB o = true ↔ ((refCheck o.v = 0 ∧ ¬ o.v.k = 5) ∧ (o.pc = 0 ∧ o.pk = 0) ∧ keyOk o.ky = true ∧ (1 ≤ o.st ∧ o.st ≤ 9007199254740991)) ∧ (o.lc = 0 ∧ o.lk = 0 ∧ o.rc = 0 ∧ o.rk = 0 ∧ o.tx.toList = []) := by
      unfold formB
      rw [if_neg k1, if_neg k2, if_pos k3, ← same34]
      simp only [Bool.and_eq_true, beq_iff_eq, plain_iff, key_ge]
      constructor
      · rintro ⟨⟨⟨⟨⟨a1, a2⟩, a3⟩, a4⟩, a5⟩, a6⟩
        exact ⟨⟨a1, a2, a3, a5⟩, a6⟩
      · rintro ⟨⟨a1, a2, a3, a5⟩, a6⟩
        exact ⟨⟨⟨⟨⟨a1, a2⟩, a3⟩, a1.1⟩, a5⟩, a6⟩
    have ek : kindB o = true ↔ (o.lc = 0 ∧ o.lk = 0 ∧ o.rc = 0 ∧ o.rk = 0) ∧ (namedB o.fc o.fk = true ∧ namedB o.tc o.tk = true) ∧ keyOk o.ky = true ∧ (refCheck o.v = 0 ∧ ¬ o.vk = 5) ∧ (1 ≤ o.st ∧ o.st ≤ 9007199254740991) ∧ o.tx.toList = [] ∧ (o.pc = 0 ∧ o.pk = 0) := by
      unfold kindB
      rw [if_neg k1, if_neg k2, if_pos k3]
      simp only [Bool.and_eq_true, beq_iff_eq, decide_eq_true_eq, Bool.not_eq_true']
      constructor
      · rintro ⟨⟨⟨⟨⟨⟨⟨⟨a1, a2⟩, a3⟩, a4⟩, a5⟩, a6⟩, a7⟩, a8⟩, a9⟩
        exact ⟨⟨a1.1.1, a1.1.2, a1.2.1, a1.2.2⟩, ⟨a2, a3⟩, a4, ⟨a5, a6⟩, a7, a8, a9⟩
      · rintro ⟨⟨l1, l2, r1, r2⟩, ⟨a2, a3⟩, a4, ⟨a5, a6⟩, a7, a8, a9⟩
        exact ⟨⟨⟨⟨⟨⟨⟨⟨⟨⟨l1, l2⟩, r1, r2⟩, a2⟩, a3⟩, a4⟩, a5⟩, a6⟩, a7⟩, a8⟩, a9⟩
    rw [ef, ek]
    constructor
    · rintro ⟨⟨⟨a1, a2, a3, a4⟩, l1, l2, r1, r2, tx⟩, ⟨n1, n2, n3, n4, n5⟩, h4⟩
      exact ⟨⟨⟨l1, l2, r1, r2⟩, ⟨n3, n4⟩, a3, a1, a4, tx, a2⟩, h4⟩
    · rintro ⟨⟨⟨l1, l2, r1, r2⟩, ⟨n3, n4⟩, a3, a1, a4, tx, a2⟩, h4⟩
      refine ⟨⟨⟨a1, a2, a3, a4⟩, l1, l2, r1, r2, tx⟩, ⟨?_, ?_, n3, n4, ?_⟩, h4⟩
      · rw [l1, l2]; rfl
      · rw [r1, r2]; rfl
      · rw [a2.1, a2.2]; rfl
  by_cases k4 : o.kind = 4
  · have ef : formB o = true ↔ (keyOk o.ky = true ∧ refCheck o.v = 0 ∧ (1 ≤ o.st ∧ o.st ≤ 9007199254740991)) ∧ (o.lc = 0 ∧ o.lk = 0 ∧ o.rc = 0 ∧ o.rk = 0 ∧ o.tx.toList = [] ∧ o.fc = 0 ∧ o.fk = 0 ∧ o.fa = false ∧ o.tc = 0 ∧ o.tk = 0 ∧ o.ta = false) := by
      unfold formB
      rw [if_neg k1, if_neg k2, if_neg k3, if_pos k4, ← same4]
      simp only [Bool.and_eq_true, beq_iff_eq, key_ge]
      constructor
      · rintro ⟨⟨⟨a3, a4⟩, a5⟩, a6⟩
        exact ⟨⟨a3, a4, a5⟩, a6⟩
      · rintro ⟨⟨a3, a4, a5⟩, a6⟩
        exact ⟨⟨⟨a3, a4⟩, a5⟩, a6⟩
    have ek : kindB o = true ↔ (o.lc = 0 ∧ o.lk = 0 ∧ o.rc = 0 ∧ o.rk = 0) ∧ (o.fc = 0 ∧ o.fk = 0 ∧ o.fa = false ∧ o.tc = 0 ∧ o.tk = 0 ∧ o.ta = false) ∧ namedB o.pc o.pk = true ∧ keyOk o.ky = true ∧ refCheck o.v = 0 ∧ (1 ≤ o.st ∧ o.st ≤ 9007199254740991) ∧ o.tx.toList = [] := by
      unfold kindB
      rw [if_neg k1, if_neg k2, if_neg k3, if_pos k4]
      simp only [Bool.and_eq_true, beq_iff_eq, decide_eq_true_eq, Bool.not_eq_true']
      constructor
      · rintro ⟨⟨⟨⟨⟨⟨a1, a2⟩, a3⟩, a4⟩, a5⟩, a6⟩, a7⟩
        exact ⟨⟨a1.1.1, a1.1.2, a1.2.1, a1.2.2⟩, ⟨a2.1.1, a2.1.2.1, a2.1.2.2, a2.2.1, a2.2.2.1, a2.2.2.2⟩, a3, a4, a5, a6, a7⟩
      · rintro ⟨⟨l1, l2, r1, r2⟩, ⟨f1, f2, f3, t1, t2, t3⟩, a3, a4, a5, a6, a7⟩
        exact ⟨⟨⟨⟨⟨⟨⟨⟨l1, l2⟩, r1, r2⟩, ⟨f1, f2, f3⟩, t1, t2, t3⟩, a3⟩, a4⟩, a5⟩, a6⟩, a7⟩
    rw [ef, ek]
    constructor
    · rintro ⟨⟨⟨a3, a4, a5⟩, l1, l2, r1, r2, tx, f⟩, ⟨n1, n2, n3, n4, n5⟩, h4⟩
      exact ⟨⟨⟨l1, l2, r1, r2⟩, f, n5, a3, a4, a5, tx⟩, h4⟩
    · rintro ⟨⟨⟨l1, l2, r1, r2⟩, ⟨f1, f2, f3, t1, t2, t3⟩, n5, a3, a4, a5, tx⟩, h4⟩
      refine ⟨⟨⟨a3, a4, a5⟩, l1, l2, r1, r2, tx, f1, f2, f3, t1, t2, t3⟩, ⟨?_, ?_, ?_, ?_, n5⟩, h4⟩
      · rw [l1, l2]; rfl
      · rw [r1, r2]; rfl
      · rw [f1, f2]; rfl
      · rw [t1, t2]; rfl
  · have ef : formB o = false := by unfold formB; rw [if_neg k1, if_neg k2, if_neg k3, if_neg k4]
    have ek : kindB o = false := by unfold kindB; rw [if_neg k1, if_neg k2, if_neg k3, if_neg k4]
    rw [ef, ek]
    simp
end Go.Proofs.YtphcnjbiojdalaaGreatDoor
