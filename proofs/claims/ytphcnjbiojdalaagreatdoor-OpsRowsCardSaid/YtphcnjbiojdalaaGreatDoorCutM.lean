/- A text's pieces: what they are, that they are taken, that they go on. -/
import Derived.Test.YtphcnjbiojdalaaGreatDoorChkEq
import Derived.Test.YtphcnjbiojdalaaGreatDoorPart19
import Derived.Test.YtphcnjbiojdalaaGreatDoorOpL
import Derived.Test.YtphcnjbiojdalaaGreatDoorOrdLaws
namespace Go.Proofs.YtphcnjbiojdalaaGreatDoor
open Go.RowKit
set_option linter.unusedVariables false
set_option linter.unusedSimpArgs false
set_option maxRecDepth 100000

theorem text_iff (o : O) (hf : o.fits) (hs : o.tx.size ≤ 17592186044416) (k1 : o.kind = 1) : checkB o = true ↔
    ((1 ≤ o.c ∧ o.c ≤ 9007199254740991) ∧ (1 ≤ o.k ∧ o.k ≤ 9007199254740991)) ∧ (1 ≤ lenO o ∧ lenO o ≤ 4096 ∧ o.k + (lenO o : Int) ≤ 9007199254740992) ∧ (o.v.k = 0 ∧ refCheck o.v = 0) ∧ (o.st = 0 ∧ o.ky.toList = [] ∧ o.pc = 0 ∧ o.pk = 0 ∧ o.fc = 0 ∧ o.fk = 0 ∧ o.fa = false ∧ o.tc = 0 ∧ o.tk = 0 ∧ o.ta = false) ∧ (namedB o.lc o.lk = true ∧ namedB o.rc o.rk = true) ∧ (ownB o o.lc o.lk = false ∧ ownB o o.rc o.rk = false) := by
  have hl := lenO_text k1
  have hle := lenO_le o
  have ef : formB o = true ↔ (1 ≤ lenO o ∧ lenO o ≤ 4096) ∧ (o.v.k = 0 ∧ refCheck o.v = 0) ∧ (o.st = 0 ∧ o.ky.toList = [] ∧ o.pc = 0 ∧ o.pk = 0 ∧ o.fc = 0 ∧ o.fk = 0 ∧ o.fa = false ∧ o.tc = 0 ∧ o.tk = 0 ∧ o.ta = false) := by
    unfold formB textOk
    rw [if_pos k1, ← same12, ← none_iff, hl]
    simp only [Bool.and_eq_true, beq_iff_eq, decide_eq_true_eq, plain_iff]
    constructor
    · rintro ⟨⟨⟨h1, h2⟩, h3, h4⟩, h5⟩
      exact ⟨h1, ⟨h2, h3, h4⟩, h5⟩
    · rintro ⟨h1, ⟨h2, h3, h4⟩, h5⟩
      exact ⟨⟨⟨h1, h2⟩, h3, h4⟩, h5⟩
  unfold checkB
  rw [Bool.and_eq_true, ef]
  constructor
  · rintro ⟨⟨⟨h1, h2⟩, h3, h4⟩, h5⟩
    have hn : (numOk o.c = true ∧ numOk o.k = true) ∧ endO o ≤ 9007199254740992 := by
      have := h5
      unfold idsB at this
      simp only [Bool.and_eq_true, decide_eq_true_eq] at this
      exact this.1
    have hc := (num_iff _).1 hn.1.1
    have hk := (num_iff _).1 hn.1.2
    have hE := end_small o hk (by omega)
    have hM : o.k + (lenO o : Int) ≤ 9007199254740992 := by have := hn.2; omega
    have := (ids_iff o hf hc hk h1 hE hM).1 h5
    have fr := (free_iff o).1 this.2
    exact ⟨⟨hc, hk⟩, ⟨h1, h2, hM⟩, h3, h4, ⟨this.1.1, this.1.2.1⟩, fr.1, fr.2.1⟩
  · rintro ⟨⟨hc, hk⟩, ⟨h1, h2, hM⟩, h3, h4, ⟨n1, n2⟩, w1, w2⟩
    refine ⟨⟨⟨h1, h2⟩, h3, h4⟩, ?_⟩
    have hE := end_small o hk (by omega)
    obtain ⟨s1, s2, p1, p2, f1, f2, f3, t1, t2, t3⟩ := h4
    have hz : ownB o 0 0 = false := by
      rw [Bool.eq_false_iff]
      intro h
      rw [own_iff] at h
      omega
    refine (ids_iff o hf hc hk h1 hE hM).2 ⟨⟨n1, n2, ?_, ?_, ?_⟩, (free_iff o).2 ⟨w1, w2, ?_, ?_, ?_⟩⟩
    · rw [f1, f2]; rfl
    · rw [t1, t2]; rfl
    · rw [p1, p2]; rfl
    · rw [f1, f2]; exact hz
    · rw [t1, t2]; exact hz
    · rw [p1, p2]; exact hz
theorem none_bits {v : V} (h : v.k = 0 ∧ refCheck v = 0) : v.f = 0 := by
  obtain ⟨h1, h2⟩ := h
  unfold refCheck at h2
  have h3 : vOk v = true := by
    by_cases e : vOk v = true
    · exact e
    · rw [if_neg e] at h2; cases h2
  unfold vOk at h3
  rw [if_pos (.inl h1)] at h3
  simp only [Bool.and_eq_true, beq_iff_eq, List.isEmpty_iff] at h3
  obtain ⟨⟨a1, a2⟩, a3⟩ := h3
  omega
theorem some_of_len {o : O} (k1 : o.kind = 1) (h : 1 ≤ lenO o) : (runesOf o.tx.data.toList).isSome = true := by
  cases e : runesOf o.tx.data.toList with
  | some r => rfl
  | none => rw [lenO_text k1, rsOf_none e] at h; simp at h
/-- A text that Check takes. -/
theorem textO_of {o : O} (hf : o.fits) (hs : o.tx.size ≤ 17592186044416) (k1 : o.kind = 1) (hc : checkB o = true) : TextO o := by
  obtain ⟨⟨c1, c2⟩, ⟨n1, n2, n3⟩, hv, _⟩ := (text_iff o hf hs k1).1 hc
  refine ⟨k1, ?_, some_of_len k1 n1, n1, n2, by omega, n3⟩
  have : o.vf = 0 := none_bits hv
  rw [this]
  rfl
theorem rsO_withT (o : O) {R : List Nat} (h : ∀ r ∈ R, okRune r) : rsO (o.withT R) = R := rsOf_some (runesOf_enc R h)
/-- The piece from rune i to rune j. -/
def pieceO (o : O) (i j : Nat) : O := (if i = 0 then o else o.onward i).withT (((rsO o).take j).drop i)
theorem piece_k (o : O) (i j : Nat) : (pieceO o i j).k = o.k + (i : Int) := by
  unfold pieceO
  split
  · rename_i h; subst h; show o.k = _; omega
  · rfl
theorem piece_rest (o : O) (i j : Nat) : (pieceO o i j).c = o.c ∧ (pieceO o i j).kind = o.kind ∧ (pieceO o i j).v = o.v ∧ (pieceO o i j).st = o.st ∧ (pieceO o i j).ky = o.ky ∧ (pieceO o i j).rc = o.rc ∧ (pieceO o i j).rk = o.rk ∧ (pieceO o i j).pc = o.pc ∧ (pieceO o i j).pk = o.pk ∧ (pieceO o i j).fc = o.fc ∧ (pieceO o i j).fk = o.fk ∧ (pieceO o i j).fa = o.fa ∧ (pieceO o i j).tc = o.tc ∧ (pieceO o i j).tk = o.tk ∧ (pieceO o i j).ta = o.ta ∧ (pieceO o i j).vk = o.vk ∧ (pieceO o i j).vn = o.vn ∧ (pieceO o i j).vf = o.vf := by
  unfold pieceO
  split <;> exact ⟨rfl, rfl, rfl, rfl, rfl, rfl, rfl, rfl, rfl, rfl, rfl, rfl, rfl, rfl, rfl, rfl, rfl, rfl⟩
theorem piece_rs (o : O) (i j : Nat) : rsO (pieceO o i j) = ((rsO o).take j).drop i :=
  rsO_withT _ (fun r hr => rsOf_ok _ r (List.mem_of_mem_take (List.mem_of_mem_drop hr)))
theorem piece_len {o : O} (k1 : o.kind = 1) (i j : Nat) (h2 : j ≤ lenO o) : lenO (pieceO o i j) = j - i := by
  rw [lenO_text ((piece_rest o i j).2.1.trans k1)]
  have := piece_rs o i j
  unfold rsO at this
  rw [this, List.length_drop, List.length_take]
  have := lenO_text k1
  omega
theorem piece_size {o : O} (k1 : o.kind = 1) (i j : Nat) (h1 : i < j) (h2 : j ≤ lenO o) (h3 : lenO o ≤ 4096) : (pieceO o i j).tx.size ≤ 1000000 := by
  have hl := lenO_text k1
  have e : (((rsO o).take j).drop i).length = j - i := by
    unfold rsO
    rw [List.length_drop, List.length_take]
    omega
  have := (enc_bytes (((rsO o).take j).drop i) (by omega) (by omega)).2
  unfold pieceO
  split <;> exact this
theorem piece_fits {o : O} (hf : o.fits) (i j : Nat) (h1 : 1 ≤ o.k) (h2 : o.k + (i : Int) ≤ 9007199254740992) : (pieceO o i j).fits := by
  unfold pieceO
  split
  · exact ⟨hf.c0, hf.k0, hf.kind, hf.st, hf.lc, hf.lk, hf.rc, hf.rk, hf.pc, hf.pk, hf.fc, hf.fk, hf.tc, hf.tk, hf.vk, hf.vn, hf.vf⟩
  · refine ⟨hf.c0, ?_, hf.kind, hf.st, hf.c0, ?_, hf.rc, hf.rk, hf.pc, hf.pk, hf.fc, hf.fk, hf.tc, hf.tk, hf.vk, hf.vn, hf.vf⟩
    · show 0 ≤ o.k + (i : Int) ∧ o.k + (i : Int) < _; omega
    · show 0 ≤ o.k + (i : Int) - 1 ∧ o.k + (i : Int) - 1 < _; omega
theorem own_less {o p : O} (x y : Int) (hy : 0 ≤ y ∧ y < 18446744073709551616) (hk : 1 ≤ o.k) (hc : p.c = o.c) (h1 : o.k ≤ p.k) (h2 : p.k + (lenO p : Int) ≤ o.k + (lenO o : Int)) (h : ownB o x y = false) : ownB p x y = false := by
  rw [Bool.eq_false_iff] at h ⊢
  intro hp
  apply h
  rw [own_iff] at hp ⊢
  obtain ⟨a1, a2, a3⟩ := hp
  rw [wrap_u64_small _ (by omega) (by omega)] at a3
  refine ⟨a1.trans hc, by omega, ?_⟩
  rw [wrap_u64_small _ (by omega) (by omega)]
  omega
/-- Pieces are taken. -/
theorem piece_check {o : O} (hf : o.fits) (hs : o.tx.size ≤ 17592186044416) (k1 : o.kind = 1) (hc : checkB o = true) (i j : Nat) (h1 : i < j) (h2 : j ≤ lenO o) : checkB (pieceO o i j) = true := by
  obtain ⟨⟨c1, c2⟩, ⟨n1, n2, n3⟩, hv, hr, ⟨m1, m2⟩, w1, w2⟩ := (text_iff o hf hs k1).1 hc
  have hl := piece_len k1 i j h2
  have hk := piece_k o i j
  obtain ⟨e1, e2, e3, e4, e5, e6, e7, e8, e9, e10, e11, e12, e13, e14, e15, e16, e17, e18⟩ := piece_rest o i j
  have hpf := piece_fits hf i j c2.1 (by omega)
  have hps := piece_size k1 i j h1 h2 n2
  refine (text_iff _ hpf (by omega) (e2.trans k1)).2 ⟨⟨by rw [e1]; exact c1, by omega⟩, ⟨by omega, by omega, by omega⟩, by rw [e3]; exact hv, ?_, ?_, ?_⟩
  · rw [e4, e5, e8, e9, e10, e11, e12, e13, e14, e15]; exact hr
  · refine ⟨?_, by rw [e6, e7]; exact m2⟩
    unfold pieceO
    split
    · exact m1
    · show namedB o.c (o.k + (i : Int) - 1) = true
      rw [named_iff]
      exact .inr ⟨c1, by omega⟩
  · refine ⟨?_, ?_⟩
    · by_cases hi : i = 0
      · have el : (pieceO o i j).lc = o.lc ∧ (pieceO o i j).lk = o.lk := by unfold pieceO; rw [if_pos hi]; exact ⟨rfl, rfl⟩
        rw [el.1, el.2]
        exact own_less _ _ hf.lk c2.1 e1 (by omega) (by omega) w1
      · have el : (pieceO o i j).lk = o.k + (i : Int) - 1 := by unfold pieceO; rw [if_neg hi]; rfl
        rw [el, Bool.eq_false_iff]
        intro h
        rw [own_iff] at h
        omega
    · rw [e6, e7]
      exact own_less _ _ hf.rk c2.1 e1 (by omega) (by omega) w2
theorem piece_text {o : O} (hf : o.fits) (hs : o.tx.size ≤ 17592186044416) (k1 : o.kind = 1) (hc : checkB o = true) (i j : Nat) (h1 : i < j) (h2 : j ≤ lenO o) : TextO (pieceO o i j) := by
  obtain ⟨⟨c1, c2⟩, ⟨n1, n2, n3⟩, _⟩ := (text_iff o hf hs k1).1 hc
  have hps := piece_size k1 i j h1 h2 n2
  exact textO_of (piece_fits hf i j c2.1 (by omega)) (by omega) ((piece_rest o i j).2.1.trans k1) (piece_check hf hs k1 hc i j h1 h2)
/-- ops.Cut's answer is the piece. -/
theorem TextO.cut {o : O} (h : TextO o) (i j : Nat) (h1 : i < j) (h2 : j ≤ lenO o) : cutRes o (i : Int) (j : Int) = pieceO o i j ∧ cutOk o (i : Int) (j : Int) = true := by
  have hk : cutOk o (i : Int) (j : Int) = true := by unfold cutOk; simp; omega
  have k2 := h.k2
  have c0 := h.c0
  refine ⟨?_, hk⟩
  unfold cutRes pieceO
  rw [if_pos hk, if_pos h.kind, h.clean]
  by_cases hi : i = 0
  · rw [if_neg (by omega), if_pos hi]
    unfold O.cutT O.withT cutOf cutR rsO
    simp
  · have w1 : IntKind.u64.wrap (i : Int) = (i : Int) := wrap_u64_small _ (by omega) (by omega)
    have w2 : IntKind.u64.wrap (o.k + (i : Int)) = o.k + (i : Int) := wrap_u64_small _ (by omega) (by omega)
    have w3 : IntKind.u64.wrap (o.k + (i : Int) - 1) = o.k + (i : Int) - 1 := wrap_u64_small _ (by omega) (by omega)
    rw [if_pos (by omega), if_neg hi]
    unfold O.cutT O.withT O.moved O.onward cutOf cutR rsO
    simp only [w1, w2, w3, Int.toNat_natCast]
/-- Two pieces are one row. -/
theorem piece_two {o : O} (hf : o.fits) (hs : o.tx.size ≤ 17592186044416) (k1 : o.kind = 1) (hc : checkB o = true) (e : Nat) (h1 : 1 ≤ e) (h2 : e < lenO o) : Chain (pieceO o 0 e) (lenO (pieceO o 0 e)) [pieceO o e (lenO o)] ∧ [pieceO o 0 e, pieceO o e (lenO o)].flatMap rsO = rsO o ∧ (pieceO o 0 e).withT (rsO o) = o := by
  have hT := textO_of hf hs k1 hc
  have hx := piece_len k1 0 e (by omega)
  refine ⟨⟨?_, piece_text hf hs k1 hc e (lenO o) h2 (Nat.le_refl _), trivial⟩, ?_, ?_⟩
  · rw [hx, piece_rs]
    unfold pieceO
    rw [if_pos rfl, if_neg (by omega)]
    rfl
  · simp only [List.flatMap_cons, List.flatMap_nil, List.append_nil, piece_rs, List.drop_zero]
    rw [hT.len, List.take_length, List.take_append_drop]
  · exact hT.enc
theorem piece_goes {o : O} (hf : o.fits) (hs : o.tx.size ≤ 17592186044416) (k1 : o.kind = 1) (hc : checkB o = true) (e : Nat) (h1 : 1 ≤ e) (h2 : e < lenO o) : goesB (pieceO o 0 e) (pieceO o e (lenO o)) = true :=
  row_goes (piece_text hf hs k1 hc 0 e (by omega) (by omega)) (piece_two hf hs k1 hc e h1 h2).1 0 (by simp)
theorem order_bits (f : Nat) : refOrder (refBits f) = refOrder f := by
  unfold refBits
  split
  · rename_i h
    have h2 : isNaN nanBits = true := by kernel_rfl
    unfold refOrder
    rw [if_pos h, if_pos h2]
  · rfl
theorem cmp_same (v : V) : refCmp v v = 0 := by
  have h1 : ∀ x : Int, refInts x x = 0 := fun x => by unfold refInts; simp
  have h2 : refText v.s v.s = 0 := by
    unfold refText
    have h := lexI_spec v.s.toList v.s.toList
    have e : (v.s.toList == v.s.toList) = true := beq_self_eq_true _
    rw [e] at h
    have h0 : lexI v.s.toList v.s.toList = 0 := of_decide_eq_true h.2.1.symm
    have hl : Op.bytesLess v.s.toList v.s.toList = false := by rw [h.1, h0]; rfl
    rw [hl, e]
    rfl
  unfold refCmp
  simp only [h1, ne_eq, not_true_eq_false, if_false, h2]
theorem same_same (o : O) : sameO o o = true := by
  unfold sameO
  rw [cmp_same]
  simp
theorem same_clean (o : O) : sameO o.clean o = true := by
  have h := same_same o
  unfold sameO at h ⊢
  have e : refCmp o.clean.v o.v = refCmp o.v o.v := by
    unfold refCmp
    show (if refInts o.v.k o.v.k ≠ 0 then _ else if refInts o.v.n o.v.n ≠ 0 then _ else if refInts (refOrder (refBits o.vf)) (refOrder o.v.f) ≠ 0 then refInts (refOrder (refBits o.vf)) (refOrder o.v.f) else _) = _
    rw [order_bits]
    rfl
  rw [e]
  exact h
/-- Both Cuts answer alike. -/
theorem cut_same (o : O) (f t : Int) : sameO (cutRes o f t) (cutRef o f t) = true := by
  by_cases hk : cutOk o f t = true
  rotate_left
  · unfold cutRes cutRef
    rw [if_neg hk, if_neg hk]
    exact same_same _
  have hb : 0 ≤ f ∧ f < t ∧ t ≤ (lenO o : Int) := by unfold cutOk at hk; simpa using hk
  unfold cutRes cutRef
  rw [if_pos hk, if_pos hk]
  by_cases k1 : o.kind = 1
  · rw [if_pos k1, if_pos k1]
    split
    · exact same_clean ((o.moved f).cutT0 o f t)
    · exact same_clean (o.cutT f t)
  · have hl := lenO_other k1
    rw [if_neg k1, if_neg k1, if_neg (by omega)]
    exact same_clean o
theorem bits_lt {f : Nat} (h : f < 18446744073709551616) : refBits f < 18446744073709551616 := by
  have h2 : nanBits < 18446744073709551616 := by decide
  unfold refBits
  split <;> assumption
theorem cutRes_vf (o : O) (f t : Int) (h : o.vf < 18446744073709551616) : (cutRes o f t).vf < 18446744073709551616 := by
  have hb := bits_lt h
  unfold cutRes
  split
  · split <;> split <;> exact hb
  · decide
theorem cutRef_vf (o : O) (f t : Int) (h : o.vf < 18446744073709551616) : (cutRef o f t).vf < 18446744073709551616 := by
  unfold cutRef
  split
  · split
    · split <;> exact h
    · exact h
  · decide
end Go.Proofs.YtphcnjbiojdalaaGreatDoor
