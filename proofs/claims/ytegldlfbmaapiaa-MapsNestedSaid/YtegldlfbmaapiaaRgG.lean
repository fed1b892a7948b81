/- A region that reads first and writes behind all its reads: what is read is asked of the world as long as none of the late operations has come up. It speaks of no program. -/
import Derived.Test.YtegldlfbmaapiaaPart1
import Derived.Deep.RegionHeld3
namespace Go.Proofs.Ytegldlfbmaapiaa
open Go.RowKit
set_option linter.unusedVariables false

section
variable {P : Program} {md : Region.Mode} {ops : Array Oper} {Q : Exit → Act → World → Prop} {S : World → Prop} {late : Nat → Bool}
/-- None of the late ones has come up. -/
def noneL (late : Nat → Bool) (listed : Array Bool) : Bool := (List.range listed.size).all fun j => !late j || !listed.getD j true
theorem noneL_spec {listed : Array Bool} : noneL late listed = true ↔ ∀ j, j < listed.size → late j = true → listed.getD j true = false := by
  unfold noneL
  rw [List.all_eq_true]
  constructor
  · intro h j hj hl
    have := h j (List.mem_range.2 hj)
    rw [hl] at this
    simpa using this
  · intro h j hj
    cases hl : late j with
    | false => rfl
    | true => simp [h j (List.mem_range.1 hj) hl]
theorem noneL_set {listed : Array Bool} {i : Nat} (hi : late i = false) : noneL late (listed.setIfInBounds i true) = noneL late listed := by
  have key : ∀ j, late j = true → (listed.setIfInBounds i true).getD j true = listed.getD j true := fun j hj => by
    have hne : i ≠ j := fun e => by subst e; rw [hi] at hj; cases hj
    exact getD_set_ne true hne
  rw [Bool.eq_iff_iff, noneL_spec, noneL_spec]
  simp only [Array.size_setIfInBounds]
  exact ⟨fun h j hj hl => by rw [← key j hl]; exact h j hj hl, fun h j hj hl => by rw [key j hl]; exact h j hj hl⟩
/-- Every order; as long as none of the late ones has come up the world meets S. -/
def wpAnyG (P : Program) (md : Region.Mode) (ops : Array Oper) (Q : Exit → Act → World → Prop) (S : World → Prop) (late : Nat → Bool) : Nat → Array Bool → Act → World → Prop
  | 0, listed, a, w => Region.ready md ops listed = [] ∧ Q .normal a w
  | fuel + 1, listed, a, w =>
    (Region.ready md ops listed = [] → Q .normal a w) ∧
    ∀ i ∈ Region.ready md ops listed, wpOp P ops Q i (fun a' w' => (noneL late (listed.setIfInBounds i true) = true → S w') ∧ wpAnyG P md ops Q S late fuel (listed.setIfInBounds i true) a' w') a w
theorem wpAny_of_G : ∀ (fuel : Nat) (listed : Array Bool) (a : Act) (w : World), wpAnyG P md ops Q S late fuel listed a w → wpAny P md ops Q fuel listed a w
  | 0, _, _, _, h => h
  | fuel + 1, _, _, _, h => ⟨h.1, fun i hi => wpOp_mono (fun a' w' h' => wpAny_of_G fuel _ a' w' h'.2) (h.2 i hi)⟩
/-- Every late operation waits for number i. -/
def allLate (md : Region.Mode) (ops : Array Oper) (late : Nat → Bool) (i : Nat) : Bool :=
  (List.range ops.size).all fun j => !late j || match ops[j]? with
    | some o => o.after.any fun e => Region.binds md e && e.on == i
    | none => true
theorem allLate_spec {i : Nat} (h : allLate md ops late i = true) {j : Nat} {oj : Oper} (hj : ops[j]? = some oj) (hno : ∀ e ∈ oj.after, Region.binds md e = true → e.on ≠ i) : late j = false := by
  have h1 := List.all_eq_true.1 h j (List.mem_range.2 (Array.getElem?_eq_some_iff.1 hj).1)
  rw [hj] at h1
  cases hl : late j with
  | false => rfl
  | true =>
    rw [hl] at h1
    simp only [Bool.not_true, Bool.false_or] at h1
    obtain ⟨e, he, hb⟩ := Array.any_eq_true'.1 h1
    simp only [Bool.and_eq_true, beq_iff_eq] at hb
    exact absurd hb.2 (hno e he hb.1)
theorem ready_not {i : Nat} {listed : Array Bool} {oj : Oper} (hr : i ∈ Region.ready md ops listed) (hall : ∀ e ∈ oj.after, Region.binds md e = true → listed.getD e.on false = true) : ∀ e ∈ oj.after, Region.binds md e = true → e.on ≠ i := fun e he hb heq => by
  have q1 := hall e he hb
  have q0 := (mem_ready.1 hr).1
  rw [heq] at q1
  rcases Nat.lt_or_ge i listed.size with h' | h'
  · simp [h'] at q0 q1
    rw [q0] at q1
    cases q1
  · simp [Array.getElem?_eq_none h'] at q1
theorem free_set {i j : Nat} {listed : Array Bool} {oi : Oper} (hun : listed.getD j true = false)
    (hfree : ∀ j oj, ops[j]? = some oj → j ≠ i → listed.getD j true = false → (∀ e ∈ oj.after, Region.binds md e = true → e.on ≠ i) → oi.apart ops oj = true) :
    ∀ k ok, ops[k]? = some ok → k ≠ i → (listed.setIfInBounds j true).getD k true = false → (∀ e ∈ ok.after, Region.binds md e = true → e.on ≠ i) → oi.apart ops ok = true := fun k ok hk hki hku hno => by
  refine hfree k ok hk hki ?_ hno
  by_cases hjk : j = k
  · subst hjk; exact hun
  · rw [getD_set_ne true hjk] at hku; exact hku
theorem wpAnyG_first {i : Nat} {oi : Oper} {v : Value} (hi : ops[i]? = some oi) (hil : late i = false) (hla : allLate md ops late i = true) (hsel : ∀ (j : Nat) (o : Oper) cs b, ops[j]? = some o → o.op ≠ .select cs b)
    (hQ : ∀ c a w, Q (.panic c) (a.put oi.dst v) w → Q (.panic c) a w) :
    ∀ (fuel : Nat) (listed : Array Bool) (a : Act) (w : World), noneL late listed = true → (∀ j oj, ops[j]? = some oj → j ≠ i → listed.getD j true = false → (∀ e ∈ oj.after, Region.binds md e = true → e.on ≠ i) → oi.apart ops oj = true) →
      i ∈ Region.ready md ops listed → YieldsIf P ops S oi v a → S w → 
      wpAnyG P md ops Q S late fuel (listed.setIfInBounds i true) (a.put oi.dst v) w → wpAnyG P md ops Q S late (fuel + 1) listed a w := by
  intro fuel
  induction fuel with
  | zero =>
    intro listed a w hN _ hr hy hS H
    refine ⟨fun h => absurd (h ▸ hr) (by simp), fun j hj => ?_⟩
    by_cases hji : j = i
    · subst hji
      exact hy.wpOp hi hS ⟨fun _ => hS, H⟩
    · have h1 := ready_mono hj hji
      rw [H.1] at h1
      cases h1
  | succ fuel ih =>
    intro listed a w hN hfree hr hy hS H
    refine ⟨fun h => absurd (h ▸ hr) (by simp), fun j hj => ?_⟩
    by_cases hji : j = i
    · subst hji
      exact hy.wpOp hi hS ⟨fun _ => hS, H⟩
    obtain ⟨hun, oj, hoj, hall⟩ := mem_ready.1 hj
    have hnot := ready_not (oj := oj) hr hall
    have h2 := wpOp_putIf hoj (hfree j oj hoj hji hun hnot) (fun cs b => hsel i oi cs b hi) (fun cs b => hsel j oj cs b hoj) hQ hy (H.2 j (ready_mono hj hji))
    have hc : ((listed.setIfInBounds i true).setIfInBounds j true) = (listed.setIfInBounds j true).setIfInBounds i true := Array.setIfInBounds_comm _ _ (Ne.symm hji)
    have hl : late j = false := allLate_spec hla hoj hnot
    have hN2 : noneL late ((listed.setIfInBounds i true).setIfInBounds j true) = true := by rw [noneL_set hl, noneL_set hil]; exact hN
    refine wpOp_mono (fun a' w' h3 => ⟨fun _ => h3.2.1 hN2, ih (listed.setIfInBounds j true) a' w' (by rw [noneL_set hl]; exact hN) (free_set hun hfree) (ready_mono hr (Ne.symm hji)) h3.1 (h3.2.1 hN2) ?_⟩) h2
    rw [← hc]
    exact h3.2.2
theorem wpAnyG_free {i : Nat} {oi : Oper} {v : Value} (hi : ops[i]? = some oi) (hil : late i = false) (hsel : ∀ (j : Nat) (o : Oper) cs b, ops[j]? = some o → o.op ≠ .select cs b)
    (hQ : ∀ c a w, Q (.panic c) (a.put oi.dst v) w → Q (.panic c) a w) :
    ∀ (fuel : Nat) (listed : Array Bool) (a : Act) (w : World), (∀ j oj, ops[j]? = some oj → j ≠ i → listed.getD j true = false → (∀ e ∈ oj.after, Region.binds md e = true → e.on ≠ i) → oi.apart ops oj = true) →
      i ∈ Region.ready md ops listed → YieldsIf P ops (fun _ => True) oi v a → (noneL late listed = true → S w) → 
      wpAnyG P md ops Q S late fuel (listed.setIfInBounds i true) (a.put oi.dst v) w → wpAnyG P md ops Q S late (fuel + 1) listed a w := by
  intro fuel
  induction fuel with
  | zero =>
    intro listed a w _ hr hy hS H
    refine ⟨fun h => absurd (h ▸ hr) (by simp), fun j hj => ?_⟩
    by_cases hji : j = i
    · subst hji
      exact hy.wpOp hi trivial ⟨fun h => hS (by rwa [noneL_set hil] at h), H⟩
    · have h1 := ready_mono hj hji
      rw [H.1] at h1
      cases h1
  | succ fuel ih =>
    intro listed a w hfree hr hy hS H
    refine ⟨fun h => absurd (h ▸ hr) (by simp), fun j hj => ?_⟩
    by_cases hji : j = i
    · subst hji
      exact hy.wpOp hi trivial ⟨fun h => hS (by rwa [noneL_set hil] at h), H⟩
    obtain ⟨hun, oj, hoj, hall⟩ := mem_ready.1 hj
    have hnot := ready_not (oj := oj) hr hall
    have h2 := wpOp_putIf hoj (hfree j oj hoj hji hun hnot) (fun cs b => hsel i oi cs b hi) (fun cs b => hsel j oj cs b hoj) hQ hy (H.2 j (ready_mono hj hji))
    have hc : ((listed.setIfInBounds i true).setIfInBounds j true) = (listed.setIfInBounds j true).setIfInBounds i true := Array.setIfInBounds_comm _ _ (Ne.symm hji)
    have hN2 : noneL late (listed.setIfInBounds j true) = true → noneL late ((listed.setIfInBounds i true).setIfInBounds j true) = true := fun h => by rw [hc, noneL_set hil]; exact h
    refine wpOp_mono (fun a' w' h3 => ⟨fun h => h3.2.1 (hN2 h), ih (listed.setIfInBounds j true) a' w' (free_set hun hfree) (ready_mono hr (Ne.symm hji)) h3.1 (fun h => h3.2.1 (hN2 h)) ?_⟩) h2
    rw [← hc]
    exact h3.2.2
/-- An operation that reads is taken first. -/
theorem wpAnyG_take {i : Nat} {oi : Oper} {v : Value} {fuel : Nat} {listed : Array Bool} {a : Act} {w : World} (hi : ops[i]? = some oi) (hil : late i = false) (hla : allLate md ops late i = true) (hN : noneL late listed = true)
    (hs : Region.noSelect ops = true) (hf : Region.free md ops listed i = true) (hr : (Region.ready md ops listed).contains i = true)
    (hQ : ∀ c a w, Q (.panic c) (a.put oi.dst v) w → Q (.panic c) a w) (hy : YieldsIf P ops S oi v a) (hS : S w)
    (h : wpAnyG P md ops Q S late fuel (listed.setIfInBounds i true) (a.put oi.dst v) w) : wpAnyG P md ops Q S late (fuel + 1) listed a w :=
  wpAnyG_first hi hil hla (Region.noSelect_spec hs) hQ fuel listed a w hN (Region.free_spec hi hf) (by simpa using hr) hy hS h
/-- An operation that yields whatever the world is taken first. -/
theorem wpAnyG_pure {i : Nat} {oi : Oper} {v : Value} {fuel : Nat} {listed : Array Bool} {a : Act} {w : World} (hi : ops[i]? = some oi) (hil : late i = false)
    (hs : Region.noSelect ops = true) (hf : Region.free md ops listed i = true) (hr : (Region.ready md ops listed).contains i = true)
    (hQ : ∀ c a w, Q (.panic c) (a.put oi.dst v) w → Q (.panic c) a w) (hy : YieldsIf P ops (fun _ => True) oi v a) (hS : S w)
    (h : wpAnyG P md ops Q S late fuel (listed.setIfInBounds i true) (a.put oi.dst v) w) : wpAnyG P md ops Q S late (fuel + 1) listed a w :=
  wpAnyG_free hi hil (Region.noSelect_spec hs) hQ fuel listed a w (Region.free_spec hi hf) (by simpa using hr) hy (fun _ => hS) h
/-- The one that may come up. -/
theorem wpAnyG_one {i : Nat} {o : Oper} {fuel : Nat} {listed : Array Bool} {a : Act} {w : World} (ho : ops[i]? = some o) (hr : Region.ready md ops listed = [i]) (hw : Region.wanted o (yielded ops a.tmps) = true) (hl : noneL late (listed.setIfInBounds i true) = false)
    (h : o.wp P a w (fun a' w' => wpAnyG P md ops Q S late fuel (listed.setIfInBounds i true) a' w') Q) : wpAnyG P md ops Q S late (fuel + 1) listed a w := by
  refine ⟨fun h0 => absurd (hr ▸ h0) (by simp), fun j hj => ?_⟩
  rw [hr] at hj
  simp only [List.mem_singleton] at hj
  subst hj
  refine wpOp_step ho fun K hK => ?_
  rw [if_pos hw]
  exact Oper.wp_mono (fun a w h => hK a w ⟨fun h2 => (by rw [hl] at h2; cases h2), h⟩) h
theorem wpAnyG_call {i : Nat} {o : Oper} {fuel : Nat} {listed : Array Bool} {a : Act} {w : World} (ho : ops[i]? = some o) (hr : Region.ready md ops listed = [i]) (hw : Region.wanted o (yielded ops a.tmps) = true) (hl : noneL late (listed.setIfInBounds i true) = false)
    (h : ∀ K : Act → World → Prop, Shut (∀ a' w', wpAnyG P md ops Q S late fuel (listed.setIfInBounds i true) a' w' → K a' w') → o.wp P a w K Q) : wpAnyG P md ops Q S late (fuel + 1) listed a w :=
  wpAnyG_one ho hr hw hl (h _ fun _ _ h => h)
theorem wpAnyG_done {fuel : Nat} {listed : Array Bool} {a : Act} {w : World} (hr : Region.ready md ops listed = []) (h : Q .normal a w) : wpAnyG P md ops Q S late fuel listed a w := by
  cases fuel with
  | zero => exact ⟨hr, h⟩
  | succ n => exact ⟨fun _ => h, by rw [hr]; simp⟩
/-- THE LAW. -/
theorem region_G {id : Nat} {a : Act} {w : World} (hm : P.follows .mixedOrders = true)
    (h : wpAnyG P .any ops (NoPanic Q) S late ops.size (Array.replicate ops.size false) a w.drew) : (Code.region id ops true).wp P Q a w :=
  wp_region_noPanic (wp_region_any hm (wpAny_of_G _ _ _ _ h))
end
end Go.Proofs.Ytegldlfbmaapiaa
