/- Unlike values have unlike texts and bytes. It speaks of no program. -/
import Derived.Test.YtaihofkmcpcjeaaDoorTextLaws2
import Derived.Test.YtaihofkmcpcjeaaDoorVWrite
namespace Go.Proofs.YtaihofkmcpcjeaaDoor
open Go.RowKit
set_option linter.unusedVariables false
set_option linter.unusedSimpArgs false
set_option maxRecDepth 10000

theorem refBits_lt' (f : Nat) (h : f < 18446744073709551616) : refBits f < 18446744073709551616 := by
  unfold refBits; split
  · decide
  · exact h

/-- The first sign of each kind's text. -/
theorem itoa_head (n : Int) : ∃ c l, Go.Lib.itoa n = c :: l ∧ (c.toNat = 45 ∨ (48 ≤ c.toNat ∧ c.toNat < 58)) := by
  unfold Go.Lib.itoa
  split
  · exact ⟨_, _, rfl, .inl rfl⟩
  · obtain ⟨_, h2, h3⟩ := decDigits_val n.toNat
    cases h : Go.Lib.decDigits n.toNat with
    | nil => exact absurd h h2
    | cons c l => exact ⟨c, l, rfl, .inr (h3 c (by rw [h]; simp))⟩

theorem text_kind {a b : V} (ha : a.taken) (hb : b.taken) (h : textL a = textL b) : a.k = b.k := by
  obtain ⟨ca, la, ea, ra⟩ := itoa_head a.n
  obtain ⟨cb, lb, eb, rb⟩ := itoa_head b.n
  have c45 : (45 : UInt8).toNat = 45 := rfl
  have n110 : (110 : UInt8).toNat = 110 := rfl
  have n116 : (116 : UInt8).toNat = 116 := rfl
  have n102 : (102 : UInt8).toNat = 102 := rfl
  have n34 : (34 : UInt8).toNat = 34 := rfl
  have n109 : (109 : UInt8).toNat = 109 := rfl
  have hx : ∀ f, (hexGo f 16).length = 16 := fun f => hexGo_length f 16
  have key : ∀ v : V, v.taken → ∃ c l, textL v = c :: l ∧ ((v.k = 0 ∧ c.toNat = 110) ∨ (v.k = 1 ∧ (c.toNat = 116 ∨ (c.toNat = 102 ∧ l.length = 4))) ∨ (v.k = 2 ∧ (c.toNat = 45 ∨ (48 ≤ c.toNat ∧ c.toNat < 58))) ∨ (v.k = 3 ∧ c.toNat = 102 ∧ l.length = 16) ∨ (v.k = 4 ∧ c.toNat = 34) ∨ (v.k = 5 ∧ c.toNat = 109)) := by
    intro v hv
    unfold textL
    rcases hv.kind with e | e | e | e | e | e <;> rw [e]
    · exact ⟨_, _, rfl, .inl ⟨rfl, rfl⟩⟩
    · simp only [show ¬ ((1 : Int) = 0) by decide, if_false, if_true]
      split
      · exact ⟨_, _, rfl, .inr (.inl ⟨trivial, .inl rfl⟩)⟩
      · exact ⟨_, _, rfl, .inr (.inl ⟨trivial, .inr ⟨rfl, rfl⟩⟩)⟩
    · simp only [show ¬ ((2 : Int) = 0) by decide, show ¬ ((2 : Int) = 1) by decide, if_false, if_true]
      obtain ⟨c, l, e, r⟩ := itoa_head v.n
      exact ⟨c, l, e, .inr (.inr (.inl ⟨trivial, r⟩))⟩
    · simp only [show ¬ ((3 : Int) = 0) by decide, show ¬ ((3 : Int) = 1) by decide, show ¬ ((3 : Int) = 2) by decide, if_false, if_true]
      exact ⟨_, _, rfl, .inr (.inr (.inr (.inl ⟨trivial, rfl, hx _⟩)))⟩
    · simp only [show ¬ ((4 : Int) = 0) by decide, show ¬ ((4 : Int) = 1) by decide, show ¬ ((4 : Int) = 2) by decide, show ¬ ((4 : Int) = 3) by decide, if_false, if_true]
      exact ⟨_, _, rfl, .inr (.inr (.inr (.inr (.inl ⟨trivial, rfl⟩))))⟩
    · simp only [show ¬ ((5 : Int) = 0) by decide, show ¬ ((5 : Int) = 1) by decide, show ¬ ((5 : Int) = 2) by decide, show ¬ ((5 : Int) = 3) by decide, show ¬ ((5 : Int) = 4) by decide, if_false]
      exact ⟨_, _, rfl, .inr (.inr (.inr (.inr (.inr ⟨trivial, rfl⟩))))⟩
  obtain ⟨c, l, e1, r1⟩ := key a ha
  obtain ⟨d, m, e2, r2⟩ := key b hb
  rw [e1, e2] at h
  injection h with h1 h2
  subst h1 h2
  omega

theorem text_inj {a b : V} (ha : a.taken) (hb : b.taken) : textL a = textL b ↔ refCmp a b = 0 := by
  rw [cmp_zero]
  constructor
  · intro h
    have hk := text_kind ha hb h
    have ga := ha.fit.f1
    have gb := hb.fit.f1
    refine ⟨hk, ?_⟩
    unfold textL at h
    rw [← hk] at h
    rcases ha.kind with e | e | e | e | e | e
    · have n1 := ha.n (by omega) (by omega); have n2 := hb.n (by omega) (by omega)
      have f1 := ha.f (by omega); have f2 := hb.f (by omega); have s1 := ha.s (by omega); have s2 := hb.s (by omega)
      rw [n1, n2, f1, f2, s1, s2]; exact ⟨rfl, rfl, rfl⟩
    · have f1 := ha.f (by omega); have f2 := hb.f (by omega); have s1 := ha.s (by omega); have s2 := hb.s (by omega)
      rw [f1, f2, s1, s2]
      refine ⟨?_, rfl, rfl⟩
      rw [e] at h
      simp only [show ¬ ((1 : Int) = 0) by decide, if_false, if_true] at h
      have b1 := ha.bool e; have b2 := hb.bool (by omega)
      by_cases x : a.n = 1 <;> by_cases y : b.n = 1
      · omega
      · rw [if_pos x, if_neg y] at h; cases h
      · rw [if_neg x, if_pos y] at h; cases h
      · omega
    · have f1 := ha.f (by omega); have f2 := hb.f (by omega); have s1 := ha.s (by omega); have s2 := hb.s (by omega)
      rw [f1, f2, s1, s2]
      rw [e] at h
      simp only [show ¬ ((2 : Int) = 0) by decide, show ¬ ((2 : Int) = 1) by decide, if_false, if_true] at h
      exact ⟨itoa_inj h, rfl, rfl⟩
    · have n1 := ha.n (by omega) (by omega); have n2 := hb.n (by omega) (by omega)
      have s1 := ha.s (by omega); have s2 := hb.s (by omega)
      rw [n1, n2, s1, s2]
      rw [e] at h
      simp only [show ¬ ((3 : Int) = 0) by decide, show ¬ ((3 : Int) = 1) by decide, show ¬ ((3 : Int) = 2) by decide, if_false, if_true] at h
      injection h with _ h
      exact ⟨rfl, (order_bits ga gb).2 (hexGo_inj (refBits_lt' _ ga) (refBits_lt' _ gb) h), rfl⟩
    · have n1 := ha.n (by omega) (by omega); have n2 := hb.n (by omega) (by omega)
      have f1 := ha.f (by omega); have f2 := hb.f (by omega)
      rw [n1, n2, f1, f2]
      rw [e] at h
      simp only [show ¬ ((4 : Int) = 0) by decide, show ¬ ((4 : Int) = 1) by decide, show ¬ ((4 : Int) = 2) by decide, show ¬ ((4 : Int) = 3) by decide, if_false, if_true] at h
      injection h with _ h
      have := quoteGo_inj (List.append_cancel_right h)
      exact ⟨rfl, rfl, ByteArray.ext (Array.ext' this)⟩
    · have n1 := ha.n (by omega) (by omega); have n2 := hb.n (by omega) (by omega)
      have f1 := ha.f (by omega); have f2 := hb.f (by omega); have s1 := ha.s (by omega); have s2 := hb.s (by omega)
      rw [n1, n2, f1, f2, s1, s2]; exact ⟨rfl, rfl, rfl⟩
  · rintro ⟨h1, h2, h3, h4⟩
    have h5 := (order_bits ha.fit.f1 hb.fit.f1).1 h3
    unfold textL
    rw [h1, h2, h4, h5]

theorem write_inj {a b : V} (ha : a.taken) (hb : b.taken) (sa : a.s.size ≤ 6000) (sb : b.s.size ≤ 6000) : writeOf a = writeOf b ↔ refCmp a b = 0 := by
  rw [cmp_zero]
  constructor
  · intro h
    unfold writeOf at h
    injection h with h0 h
    have ga := ha.fit.f1
    have gb := hb.fit.f1
    have hk : a.k = b.k := by
      have := congrArg UInt8.toNat h0
      rw [UInt8.toNat_ofNat', UInt8.toNat_ofNat'] at this
      have := ha.kind; have := hb.kind
      omega
    refine ⟨hk, ?_⟩
    rw [← hk] at h
    rcases ha.kind with e | e | e | e | e | e
    · have n1 := ha.n (by omega) (by omega); have n2 := hb.n (by omega) (by omega)
      have f1 := ha.f (by omega); have f2 := hb.f (by omega); have s1 := ha.s (by omega); have s2 := hb.s (by omega)
      rw [n1, n2, f1, f2, s1, s2]; exact ⟨rfl, rfl, rfl⟩
    · have f1 := ha.f (by omega); have f2 := hb.f (by omega); have s1 := ha.s (by omega); have s2 := hb.s (by omega)
      rw [f1, f2, s1, s2]
      refine ⟨?_, rfl, rfl⟩
      rw [if_pos e, if_pos e] at h
      injection h with h _
      have := congrArg UInt8.toNat h
      rw [UInt8.toNat_ofNat', UInt8.toNat_ofNat'] at this
      have b1 := ha.bool e; have b2 := hb.bool (by omega)
      omega
    · have f1 := ha.f (by omega); have f2 := hb.f (by omega); have s1 := ha.s (by omega); have s2 := hb.s (by omega)
      rw [f1, f2, s1, s2]
      rw [e] at h
      simp only [show ¬ ((2 : Int) = 1) by decide, if_false, if_true] at h
      have r : ∀ v : V, v.fits → unzz v.n < 18446744073709551616 := fun v hv => by have := hv.n0; have := hv.n1; unfold unzz; split <;> omega
      have := putU_free (x := []) (y := []) (r a ha.fit) (r b hb.fit) (by rw [List.append_nil, List.append_nil]; exact h)
      exact ⟨unzz_inj this.1, rfl, rfl⟩
    · have n1 := ha.n (by omega) (by omega); have n2 := hb.n (by omega) (by omega)
      have s1 := ha.s (by omega); have s2 := hb.s (by omega)
      rw [n1, n2, s1, s2]
      rw [e] at h
      simp only [show ¬ ((3 : Int) = 1) by decide, show ¬ ((3 : Int) = 2) by decide, if_false, if_true] at h
      exact ⟨rfl, (order_bits ga gb).2 (putF_inj (refBits_lt' _ ga) (refBits_lt' _ gb) h), rfl⟩
    · have n1 := ha.n (by omega) (by omega); have n2 := hb.n (by omega) (by omega)
      have f1 := ha.f (by omega); have f2 := hb.f (by omega)
      rw [n1, n2, f1, f2]
      rw [e] at h
      simp only [show ¬ ((4 : Int) = 1) by decide, show ¬ ((4 : Int) = 2) by decide, show ¬ ((4 : Int) = 3) by decide, if_false, if_true] at h
      unfold putT at h
      have := putU_free (by omega) (by omega) h
      exact ⟨rfl, rfl, ByteArray.ext (Array.ext' this.2)⟩
    · have n1 := ha.n (by omega) (by omega); have n2 := hb.n (by omega) (by omega)
      have f1 := ha.f (by omega); have f2 := hb.f (by omega); have s1 := ha.s (by omega); have s2 := hb.s (by omega)
      rw [n1, n2, f1, f2, s1, s2]; exact ⟨rfl, rfl, rfl⟩
  · rintro ⟨h1, h2, h3, h4⟩
    have h5 := (order_bits ha.fit.f1 hb.fit.f1).1 h3
    unfold writeOf
    rw [h1, h2, h4, h5]
end Go.Proofs.YtaihofkmcpcjeaaDoor
