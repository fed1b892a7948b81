/- A value's text and bytes, as lists: unlike values, unlike ones. It speaks of no program. -/
import Derived.Test.YtaihofkmcpcjeaaDoorTextLaws
import Derived.Test.YtaihofkmcpcjeaaDoorPart2
import Derived.Test.YtaihofkmcpcjeaaDoorDec
import Derived.Test.YtaihofkmcpcjeaaDoorPart9
namespace Go.Proofs.YtaihofkmcpcjeaaDoor
open Go.RowKit
set_option linter.unusedVariables false
set_option linter.unusedSimpArgs false
set_option maxRecDepth 10000

/-- The document's number, digit by digit, is the library's. -/
theorem decGo_eq (f : Nat) (N : Nat) (out : ByteArray) (h : N < 10 ^ f) (hf : 0 < f) : decGo f N out = ⟨(Go.Lib.decDigits N).toArray⟩ ++ out := by
  induction f generalizing N out with
  | zero => omega
  | succ f ih =>
    unfold decGo
    rw [Go.Lib.decDigits]
    by_cases hz : N / 10 = 0
    · have h10 : N < 10 := by omega
      rw [if_pos hz, dif_pos h10, Nat.mod_eq_of_lt h10]
    · have h10 : ¬ N < 10 := by omega
      have hf' : 0 < f := by
        cases f with
        | zero => simp at h; omega
        | succ f => omega
      rw [if_neg hz, dif_neg h10, ih (N / 10) _ (by rw [Nat.pow_succ] at h; omega) hf', ← ByteArray.append_assoc]
      congr 1
theorem refDec_itoa (n : Int) (h0 : -9223372036854775808 ≤ n) (h1 : n < 9223372036854775808) : refDec n = ⟨(Go.Lib.itoa n).toArray⟩ := by
  have hb : n.natAbs < 10 ^ 20 := by
    have : (10 : Nat) ^ 20 = 100000000000000000000 := by decide
    omega
  unfold refDec Go.Lib.itoa
  rw [decGo_eq 20 _ _ hb (by decide)]
  by_cases h : n < 0
  · rw [if_pos h, if_pos h]
    apply ByteArray.ext; simp
  · rw [if_neg h, if_neg h, show n.natAbs = n.toNat from by omega]
    apply ByteArray.ext; simp

theorem hexDigits_inj {a b : Nat} (ha : a < 16) (hb : b < 16) (h : hexDigits.getD a 0 = hexDigits.getD b 0) : a = b := by
  have : ∀ a b : Fin 16, hexDigits.getD a.1 0 = hexDigits.getD b.1 0 → a = b := by decide +kernel
  have := this ⟨a, ha⟩ ⟨b, hb⟩ h
  exact congrArg Fin.val this
theorem hexGo_inj {n m : Nat} (hn : n < 18446744073709551616) (hm : m < 18446744073709551616) (h : hexGo n 16 = hexGo m 16) : n = m := by
  have key : ∀ j, j < 16 → n / 16 ^ j % 16 = m / 16 ^ j % 16 := by
    intro j hj
    have e := congrArg (fun l => l[15 - j]?) h
    simp only [hexGo, List.getElem?_map, List.getElem?_range (show 15 - j < 16 by omega), Option.map_some, Option.some.injEq] at e
    rw [show 15 - (15 - j) = j from by omega] at e
    exact hexDigits_inj (Nat.mod_lt _ (by decide)) (Nat.mod_lt _ (by decide)) e
  have := mod_pows (b := 16) 16 key
  rw [show (16 : Nat) ^ 16 = 18446744073709551616 from by decide, Nat.mod_eq_of_lt hn, Nat.mod_eq_of_lt hm] at this
  exact this

/-- A value's text, as bytes. -/
def textL (v : V) : List UInt8 :=
  if v.k = 0 then [110, 117, 108, 108] else if v.k = 1 then (if v.n = 1 then [116, 114, 117, 101] else [102, 97, 108, 115, 101]) else if v.k = 2 then Go.Lib.itoa v.n
  else if v.k = 3 then 102 :: hexGo (refBits v.f) 16 else if v.k = 4 then 34 :: quoteGo v.s.data.toList ++ [34] else [109, 97, 112]
/-- Taken, field by field. -/
structure V.taken (v : V) : Prop where
  fit : v.fits
  kind : v.k = 0 ∨ v.k = 1 ∨ v.k = 2 ∨ v.k = 3 ∨ v.k = 4 ∨ v.k = 5
  n : v.k ≠ 1 → v.k ≠ 2 → v.n = 0
  bool : v.k = 1 → v.n = 0 ∨ v.n = 1
  f : v.k ≠ 3 → v.f = 0
  s : v.k ≠ 4 → v.s = ⟨#[]⟩

theorem order_bits {a b : Nat} (ha : a < 18446744073709551616) (hb : b < 18446744073709551616) : refOrder a = refOrder b ↔ refBits a = refBits b := by
  have lim : ∀ f, f < 18446744073709551616 → isNaN f = false → (f < 9223372036854775808 → f ≤ 9218868437227405312) := by
    intro f hf hn hs
    have : ¬ fI < rung f := of_decide_eq_false hn
    have hr : rung f = f := Nat.mod_eq_of_lt hs
    rw [hr] at this
    exact Nat.le_of_not_lt this
  have la := lim a ha
  have lb := lim b hb
  unfold refOrder refBits
  have hI : nanBits = 9221120237041090560 := rfl
  have ka : isNaN a = false → a ≠ nanBits := fun h e => by rw [e] at h; exact absurd h (by decide)
  have kb : isNaN b = false → b ≠ nanBits := fun h e => by rw [e] at h; exact absurd h (by decide)
  cases na : isNaN a <;> cases nb : isNaN b <;> simp only [na, nb, if_true, Bool.false_eq_true, if_false, true_implies, Bool.true_eq_false, false_implies] at *
  · split <;> split <;> omega
  · have hne : a ≠ nanBits := ka
    constructor
    · intro h; split at h <;> omega
    · intro h; exact absurd h hne
  · have hne : b ≠ nanBits := kb
    constructor
    · intro h; split at h <;> omega
    · intro h; exact absurd h.symm hne
theorem cmp_zero (a b : V) : refCmp a b = 0 ↔ a.k = b.k ∧ a.n = b.n ∧ refOrder a.f = refOrder b.f ∧ a.s = b.s := by
  rw [refCmp_cases]
  have hl : lexI a.s.toList b.s.toList = 0 ↔ a.s = b.s := by
    have h := (lexI_spec a.s.toList b.s.toList).2.1
    constructor
    · intro e
      rw [decide_eq_true e] at h
      have := beq_iff_eq.1 h
      rw [ByteArray.toList_eq, ByteArray.toList_eq] at this
      exact ByteArray.ext (Array.ext' this)
    · intro e
      rw [e] at h ⊢
      have h2 : (b.s.toList == b.s.toList) = true := by simp
      rw [h2] at h
      exact of_decide_eq_true h.symm
  generalize lexI a.s.toList b.s.toList = l at *
  constructor
  · intro h
    repeat' (split at h)
    all_goals first | omega | exact ⟨by omega, by omega, by omega, hl.1 h⟩
  · rintro ⟨h1, h2, h3, h4⟩
    rw [if_neg (by omega), if_neg (by omega), if_neg (by omega), if_neg (by omega), if_neg (by omega), if_neg (by omega)]
    exact hl.2 h4
end Go.Proofs.YtaihofkmcpcjeaaDoor
