/- The contracts of the document's Join and Meet. -/
import Derived.Test.YtdblfabbmpdoiaaRfHas
import Derived.Test.YtdblfabbmpdoiaaIdAlg
import Derived.Deep.RegionLaw
namespace Go.Proofs.Ytdblfabbmpdoiaa
open Go.RowKit Go.Maps
set_option linter.unusedVariables false
set_option linter.unusedSimpArgs false
set_option maxRecDepth 100000

theorem SlR.lies' {w : World} {ao : Option Addr} {n cap : Nat} {l : List Rg} (h : SlR w (.slice ao n cap) l) : (ao = none → cap = 0) ∧ LiesR w ao l := by
  obtain ⟨ao', cap', e, h1, h2, h3, h4⟩ := h
  simp only [Value.slice.injEq] at e
  obtain ⟨rfl, rfl, rfl⟩ := e
  exact ⟨h1, h4⟩
/-- What two ranges have in common. -/
def cap2 (x y : Rg) : List Rg := if x.c = y.c then [⟨x.c, max x.f y.f, min x.t y.t⟩] else []
def caps (x : Rg) (b : List Rg) : List Rg := b.flatMap (cap2 x)
def capsAll (a b : List Rg) : List Rg := a.flatMap fun x => caps x b
theorem cap2_len (x y : Rg) : (cap2 x y).length ≤ 1 := by unfold cap2; split <;> simp
theorem caps_len (x : Rg) (b : List Rg) : (caps x b).length ≤ b.length := by
  induction b with
  | nil => simp [caps]
  | cons y b ih => have := cap2_len x y; unfold caps at *; rw [List.flatMap_cons, List.length_append, List.length_cons]; omega
theorem capsAll_len (a b : List Rg) : (capsAll a b).length ≤ a.length * b.length := by
  induction a with
  | nil => simp [capsAll]
  | cons x a ih => have := caps_len x b; unfold capsAll at *; rw [List.flatMap_cons, List.length_append, List.length_cons, Nat.add_mul]; omega
theorem caps_step (x : Rg) (b : List Rg) {j : Nat} (h : j < b.length) : caps x (b.take (j + 1)) = caps x (b.take j) ++ cap2 x b[j] := by
  unfold caps
  rw [List.take_succ_eq_append_getElem h, List.flatMap_append]; simp
theorem capsAll_step (a b : List Rg) {i : Nat} (h : i < a.length) : capsAll (a.take (i + 1)) b = capsAll (a.take i) b ++ caps a[i] b := by
  unfold capsAll
  rw [List.take_succ_eq_append_getElem h, List.flatMap_append]; simp
theorem cap2_has (x y : Rg) (hx : x.ok = true) (hy : y.ok = true) (c k : Int) : ((cap2 x y).any fun r => r.ok && r.has c k) = (x.has c k && y.has c k) := by
  have h1 := Rg.ok_iff.1 hx
  have h2 := Rg.ok_iff.1 hy
  unfold cap2
  by_cases hc : x.c = y.c
  · rw [if_pos hc]
    simp only [List.any_cons, List.any_nil, Bool.or_false]
    rw [Bool.eq_iff_iff]
    simp only [Bool.and_eq_true, Rg.has_iff, Rg.ok_iff]
    omega
  · rw [if_neg hc]
    simp only [List.any_nil]
    symm
    rw [Bool.and_eq_false_iff]
    by_cases g : x.has c k = true
    · right
      have := Rg.has_iff.1 g
      cases e : y.has c k
      · rfl
      · have := Rg.has_iff.1 e; omega
    · left; simpa using g
theorem capsAll_has (a b : List Rg) (ha : ∀ r ∈ a, r.ok = true) (hb : ∀ r ∈ b, r.ok = true) (c k : Int) : hasB (capsAll a b) c k = (hasB a c k && hasB b c k) := by
  rw [hasB_any, hasB_any, hasB_any]
  unfold capsAll caps
  rw [List.any_flatMap]
  induction a with
  | nil => rfl
  | cons x a ih =>
    have hx := ha x List.mem_cons_self
    rw [List.any_cons, List.any_cons, ih fun r hr => ha r (List.mem_cons_of_mem _ hr), hx, Bool.true_and]
    have e : (b.flatMap (cap2 x)).any (fun r => r.ok && r.has c k) = (x.has c k && b.any fun r => r.ok && r.has c k) := by
      clear ih ha
      rw [List.any_flatMap]
      induction b with
      | nil => simp
      | cons y b ih =>
        have hy := hb y List.mem_cons_self
        rw [List.any_cons, List.any_cons, ih fun r hr => hb r (List.mem_cons_of_mem _ hr), cap2_has x y hx hy, hy, Bool.true_and]
        cases x.has c k <;> simp
    rw [e]
    cases x.has c k <;> cases (b.any fun r => r.ok && r.has c k) <;> simp
theorem turn_has (l : List Rg) (c k : Int) : turnOf (tns l) c k = if hasB l c k then 1 else 0 := by
  rw [hasB_turn]
  rcases turnOf_tns l c k with e | e <;> simp [e]
/-- The ids of two sets that are in both. -/
theorem capsAll_turn {a b oa ob : List Rg} (ha : Form (tns oa) (turnOf (tns a))) (hb : Form (tns ob) (turnOf (tns b))) (c k : Int) : turnOf (tns (capsAll oa ob)) c k = min (turnOf (tns a) c k) (turnOf (tns b) c k) := by
  rw [turn_has, capsAll_has oa ob ha.oks hb.oks, ← ha.2, ← hb.2, ← ha.1.turnOf, ← hb.1.turnOf, turn_has oa, turn_has ob]
  cases hasB oa c k <;> cases hasB ob c k <;> simp <;> decide
end Go.Proofs.Ytdblfabbmpdoiaa
