/- The order of values is an order. It speaks of no program. -/
import Derived.Test.YtegldlfbmaapiaaPart6
import Derived.Test.YtegldlfbmaapiaaKnown12b
import Derived.Test.YtegldlfbmaapiaaPart17
import Derived.Lib.SmallJoins
import Derived.ProofKit
import Derived.OpenShut
namespace Go.Proofs.Ytegldlfbmaapiaa
open Go.RowKit
set_option linter.unusedVariables false

/-- Bytes as one of three: -1, 0, 1. -/
def lexI : List UInt8 → List UInt8 → Int
  | [], [] => 0
  | [], _ :: _ => -1
  | _ :: _, [] => 1
  | a :: x, b :: y => if a.toNat < b.toNat then -1 else if b.toNat < a.toNat then 1 else lexI x y
theorem lexI_spec (a b : List UInt8) : Op.bytesLess a b = decide (lexI a b = -1) ∧ (a == b) = decide (lexI a b = 0) ∧ (lexI a b = -1 ∨ lexI a b = 0 ∨ lexI a b = 1) := by
  induction a generalizing b with
  | nil => cases b <;> simp [Op.bytesLess, lexI]
  | cons x r ih =>
    cases b with
    | nil => simp [Op.bytesLess, lexI]
    | cons y s =>
      obtain ⟨h1, h2, h3⟩ := ih s
      simp only [Op.bytesLess]
      have hlt : (x < y) ↔ x.toNat < y.toNat := UInt8.lt_iff_toNat_lt
      have heq : (x = y) ↔ x.toNat = y.toNat := UInt8.toNat_inj.symm
      by_cases c1 : x.toNat < y.toNat
      · have e : lexI (x :: r) (y :: s) = -1 := by simp only [lexI]; rw [if_pos c1]
        have e1 : (decide (x < y)) = true := decide_eq_true (hlt.2 c1)
        have e2 : (x :: r == y :: s) = false := by
          rw [beq_eq_false_iff_ne]; intro e; cases e; omega
        rw [e, e1, e2]; simp
      · have e1 : (decide (x < y)) = false := decide_eq_false (fun h => c1 (hlt.1 h))
        by_cases c2 : y.toNat < x.toNat
        · have e : lexI (x :: r) (y :: s) = 1 := by simp only [lexI]; rw [if_neg c1, if_pos c2]
          have e2 : (x == y) = false := by rw [beq_eq_false_iff_ne]; intro e; rw [heq] at e; omega
          have e3 : (x :: r == y :: s) = false := by rw [beq_eq_false_iff_ne]; intro e; cases e; omega
          rw [e, e1, e2, e3]; simp
        · have e : lexI (x :: r) (y :: s) = lexI r s := by simp only [lexI]; rw [if_neg c1, if_neg c2]
          have e2 : x = y := heq.2 (by omega)
          subst e2
          have e3 : (x :: r == x :: s) = (r == s) := by simp
          rw [e, e1, e3, h1, h2]; simp [h3]
theorem refText_lex (a b : ByteArray) : refText a b = lexI a.toList b.toList := by
  obtain ⟨h1, h2, h3⟩ := lexI_spec a.toList b.toList
  unfold refText
  rw [h1, h2]
  rcases h3 with h | h | h <;> rw [h] <;> decide
theorem lexI_anti (a b : List UInt8) : lexI a b = -lexI b a := by
  induction a generalizing b with
  | nil => cases b <;> simp [lexI]
  | cons x r ih =>
    cases b with
    | nil => simp [lexI]
    | cons y s =>
      simp only [lexI]
      by_cases c1 : x.toNat < y.toNat
      · rw [if_pos c1, if_neg (by omega), if_pos c1]
      · rw [if_neg c1]
        by_cases c2 : y.toNat < x.toNat
        · rw [if_pos c2, if_pos c2]; rfl
        · rw [if_neg c2, if_neg c2, if_neg c1, ih]
theorem lexI_range (a b : List UInt8) : lexI a b = -1 ∨ lexI a b = 0 ∨ lexI a b = 1 := (lexI_spec a b).2.2
theorem lexI_trans (a b c : List UInt8) (h1 : lexI a b ≤ 0) (h2 : lexI b c ≤ 0) : lexI a c ≤ 0 ∧ (lexI a b = -1 ∨ lexI b c = -1 → lexI a c = -1) := by
  induction a generalizing b c with
  | nil =>
    cases c with
    | nil =>
      cases b with
      | nil => simp [lexI]
      | cons y s => simp [lexI] at h2
    | cons z t => simp [lexI]
  | cons x r ih =>
    cases b with
    | nil => simp [lexI] at h1
    | cons y s =>
      cases c with
      | nil => simp [lexI] at h2
      | cons z t =>
        simp only [lexI] at *
        by_cases c1 : x.toNat < y.toNat
        · by_cases c3 : y.toNat < z.toNat
          · rw [if_pos (show x.toNat < z.toNat by omega)]; simp
          · rw [if_neg c3] at h2
            by_cases c4 : z.toNat < y.toNat
            · rw [if_pos c4] at h2; omega
            · rw [if_pos (show x.toNat < z.toNat by omega)]; simp
        · rw [if_neg c1] at h1
          by_cases c2 : y.toNat < x.toNat
          · rw [if_pos c2] at h1; omega
          · rw [if_neg c2] at h1
            by_cases c3 : y.toNat < z.toNat
            · rw [if_pos (show x.toNat < z.toNat by omega)]; simp
            · rw [if_neg c3] at h2
              by_cases c4 : z.toNat < y.toNat
              · rw [if_pos c4] at h2; omega
              · rw [if_neg c4] at h2
                rw [if_neg c1, if_neg c2, if_neg c3, if_neg c4, if_neg (show ¬ x.toNat < z.toNat by omega), if_neg (show ¬ z.toNat < x.toNat by omega)]
                exact ih s t h1 h2

/-- Four questions, the first that parts. -/
theorem refCmp_cases (a b : V) : refCmp a b = if a.k < b.k then -1 else if b.k < a.k then 1 else if a.n < b.n then -1 else if b.n < a.n then 1 else if refOrder a.f < refOrder b.f then -1 else if refOrder b.f < refOrder a.f then 1 else lexI a.s.toList b.s.toList := by
  unfold refCmp refInts
  rw [refText_lex]
  by_cases c1 : a.k < b.k
  · simp [c1]
  by_cases c2 : b.k < a.k
  · simp [c1, c2]
  by_cases c3 : a.n < b.n
  · simp [c1, c2, c3]
  by_cases c4 : b.n < a.n
  · simp [c1, c2, c3, c4]
  by_cases c5 : refOrder a.f < refOrder b.f
  · simp [c1, c2, c3, c4, c5]
  by_cases c6 : refOrder b.f < refOrder a.f
  · simp [c1, c2, c3, c4, c5, c6]
  simp [c1, c2, c3, c4, c5, c6]
theorem refCmp_range (a b : V) : refCmp a b = -1 ∨ refCmp a b = 0 ∨ refCmp a b = 1 := by
  rw [refCmp_cases]
  have := lexI_range a.s.toList b.s.toList
  generalize lexI a.s.toList b.s.toList = l at *
  repeat' split
  all_goals omega
theorem refCmp_anti (a b : V) : refCmp a b = -refCmp b a := by
  rw [refCmp_cases, refCmp_cases b a, lexI_anti]
  generalize lexI b.s.toList a.s.toList = l
  repeat' split
  all_goals omega
theorem refCmp_self (a : V) : refCmp a a = 0 := by
  have := refCmp_anti a a; omega
theorem refCmp_trans (a b c : V) (h1 : refCmp a b ≤ 0) (h2 : refCmp b c ≤ 0) : refCmp a c ≤ 0 := by
  rw [refCmp_cases] at *
  have ht := lexI_trans a.s.toList b.s.toList c.s.toList
  generalize lexI a.s.toList b.s.toList = l1 at *
  generalize lexI b.s.toList c.s.toList = l2 at *
  generalize lexI a.s.toList c.s.toList = l3 at *
  generalize refOrder a.f = fa at *
  generalize refOrder b.f = fb at *
  generalize refOrder c.f = fc at *
  generalize a.k = ka at *
  generalize b.k = kb at *
  generalize c.k = kc at *
  generalize a.n = na at *
  generalize b.n = nb at *
  generalize c.n = nc at *
  by_cases x1 : ka < kc
  · rw [if_pos x1]; omega
  rw [if_neg x1]
  by_cases p1 : ka < kb
  · by_cases q1 : kb < kc
    · omega
    · rw [if_neg q1] at h2
      rw [if_pos (by omega)] at h2; omega
  rw [if_neg p1] at h1
  by_cases p2 : kb < ka
  · rw [if_pos p2] at h1; omega
  rw [if_neg p2] at h1
  obtain rfl : ka = kb := by omega
  rw [if_neg x1] at h2
  by_cases q2 : kc < ka
  · rw [if_pos q2] at h2; omega
  rw [if_neg q2] at h2 ⊢
  by_cases x3 : na < nc
  · rw [if_pos x3]; omega
  rw [if_neg x3]
  by_cases p3 : na < nb
  · by_cases q3 : nb < nc
    · omega
    · rw [if_neg q3] at h2
      rw [if_pos (by omega)] at h2; omega
  rw [if_neg p3] at h1
  by_cases p4 : nb < na
  · rw [if_pos p4] at h1; omega
  rw [if_neg p4] at h1
  obtain rfl : na = nb := by omega
  rw [if_neg x3] at h2
  by_cases q4 : nc < na
  · rw [if_pos q4] at h2; omega
  rw [if_neg q4] at h2 ⊢
  by_cases x5 : fa < fc
  · rw [if_pos x5]; omega
  rw [if_neg x5]
  by_cases p5 : fa < fb
  · by_cases q5 : fb < fc
    · omega
    · rw [if_neg q5] at h2
      rw [if_pos (by omega)] at h2; omega
  rw [if_neg p5] at h1
  by_cases p6 : fb < fa
  · rw [if_pos p6] at h1; omega
  rw [if_neg p6] at h1
  obtain rfl : fa = fb := by omega
  rw [if_neg x5] at h2
  by_cases q6 : fc < fa
  · rw [if_pos q6] at h2; omega
  rw [if_neg q6] at h2 ⊢
  exact (ht h1 h2).1
end Go.Proofs.Ytegldlfbmaapiaa

/- Package maps: helps for the laws. -/
namespace Go.Proofs.Ytegldlfbmaapiaa
open Go.RowKit Go.Maps
set_option linter.unusedVariables false
set_option linter.unusedSimpArgs false
set_option maxRecDepth 100000

theorem refOrder_bitsM (f : Nat) : refOrder (refBits f) = refOrder f := by
  unfold refBits
  by_cases h : isNaN f = true
  · rw [if_pos h]
    unfold refOrder
    rw [if_pos h, if_pos (by decide)]
  · rw [if_neg h]
theorem refCmp_cleanM (v : V) : refCmp ⟨v.k, v.n, refBits v.f, v.s⟩ v = 0 := by
  have h := refCmp_self v
  rw [refCmp_cases] at h ⊢
  simp only at h ⊢
  rw [refOrder_bitsM]
  exact h
theorem sameO_clean (o : O) : sameO (cleanO o) o = true := by
  have h : refCmp (cleanO o).v o.v = 0 := refCmp_cleanM o.v
  unfold sameO
  rw [h]
  simp [cleanO]
section
variable {w0 w : World} {K : Nat → Prop} {g : Nat} {s : MS} {L : List O}
theorem Lv.weaken {K' : Nat → Prop} (h : Lv w0 K w g s L) (hk : ∀ k, K' k → K k) : Lv w0 K' w g s L := by
  obtain ⟨F, h⟩ := h
  exact ⟨F, h.at_, fun k hf => ⟨(h.own k hf).1, fun e => (h.own k hf).2 (hk k e)⟩, fun k e => h.old k (hk k e), h.touch, h.has, h.ord, h.chain, h.apart, h.cnt, h.len⟩
/-- A store into a block that is kept, and was made since. -/
theorem Lv.stored {w' : World} {X : Nat} (h : Lv w0 K w g s L) (t : Touch (fun k => k = X) w w') (hX : K X) (h0 : w0.heap.size ≤ X) : Lv w0 K w' g s L := by
  obtain ⟨F, h⟩ := h
  exact ⟨F, h.at_.touch t fun k hf e => (h.own k hf).2 (e ▸ hX), h.own, fun k hk => Nat.lt_of_lt_of_le (h.old k hk) t.size, h.touch.then t fun k hk e => by omega, h.has, h.ord, h.chain, h.apart, h.cnt, h.len⟩
end
end Go.Proofs.Ytegldlfbmaapiaa

/- Arguments that are values (api.Value): from their reading to what they hold. -/
namespace Go.Proofs.Ytegldlfbmaapiaa
open Go.ChangeShapes Go.WideShapes Go.ChangeAt Go.RowKit Go.Joins
set_option linter.unusedVariables false

theorem trod_f64 {H : Type} {enc : TypeId × Value → H} {P : Program} {w : World} {base : Nat} {spare : Nat → Bool} {held : Bool} {fuel : Nat} {t : TypeId} {cs : List Value} {x : DataW H × List MemPlace} (ht : P.underlying t = some (.float .f64)) (h : DataW.trod enc P w base spare held fuel t cs = some x) :
    ∃ b : Nat, cs = [.float .f64 b] ∧ b < 18446744073709551616 := by
  cases fuel with
  | zero => simp [DataW.trod] at h
  | succ n =>
    unfold DataW.trod at h
    rw [ht] at h
    match cs, h with
    | [.float k b], h =>
      simp only at h
      split at h
      · rename_i hc
        obtain ⟨e, hw⟩ := hc
        subst e
        exact ⟨b, rfl, of_decide_eq_true hw⟩
      · cases h

/-- A value that fits. -/
structure V.fits (v : V) : Prop where
  k0 : -9223372036854775808 ≤ v.k
  k1 : v.k < 9223372036854775808
  n0 : -9223372036854775808 ≤ v.n
  n1 : v.n < 9223372036854775808
  f1 : v.f < 18446744073709551616
  s1 : v.s.size ≤ 9223372036854775807

set_option maxRecDepth 100000 in
theorem cellsVal : Try.prog.cellsOf 37 = 4 := by kernel_rfl

set_option maxRecDepth 100000 in
theorem isVal_of {H : Type} {enc : TypeId × Value → H} {w : World} {base b0 : Nat} {spare : Nat → Bool} {held : Bool} {v : Value} {d : DataW H} {p : List MemPlace}
    (hv : Value.okWide Try.prog w .any b0 37 v) (h : DataW.Trod enc Try.prog w base spare held 37 v d p) : ∃ x : V, v = x.val ∧ x.fits := by
  obtain ⟨v0, v1, v2, v3, y0, y1, y2, y3, m, rfl, rfl, rfl, h0, h1, h2, h3⟩ := open_agg4 Try.underlying37 (by kernel_rfl) cellsVal hv h
  obtain ⟨k, e0, _, w0⟩ := DataW.trod_int Try.underlying3 h0
  obtain ⟨n, e1, _, w1⟩ := DataW.trod_int Try.underlying2 h1
  obtain ⟨f, e2, w2⟩ := trod_f64 Try.underlying35 h2
  obtain ⟨s, e3, _, w3⟩ := DataW.trod_string Try.underlying9 h3
  simp at e0 e1 e2 e3
  subst e0 e1 e2 e3
  simp [Lit.wf, IntKind.min, IntKind.max, IntKind.signed, IntKind.bits] at w0 w1
  exact ⟨⟨k, n, f, s⟩, rfl, ⟨by simp only; omega, by simp only; omega, by simp only; omega, by simp only; omega, w2, by simp only [maxLen] at w3; simp only; omega⟩⟩
end Go.Proofs.Ytegldlfbmaapiaa
