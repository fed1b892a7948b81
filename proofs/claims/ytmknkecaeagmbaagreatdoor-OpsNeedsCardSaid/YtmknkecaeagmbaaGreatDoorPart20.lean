/- Arguments that are values (api.Value): from their reading to what they hold. -/
import Derived.Test.YtmknkecaeagmbaaGreatDoorPart3
import Derived.Lib.SmallJoins
import Derived.ProofKit
import Derived.OpenShut
import Derived.Test.YtmknkecaeagmbaaGreatDoorPart10
import Derived.ChangeArms
import Derived.ChangeSame
import Derived.Test.YtmknkecaeagmbaaGreatDoorPart11
namespace Go.Proofs.YtmknkecaeagmbaaGreatDoor
open Go.ChangeShapes Go.WideShapes Go.ChangeAt Go.RowKit Go.Joins
set_option linter.unusedVariables false

theorem trod_f64 {H : Type} {enc : TypeId × Value → H} {P : Program} {w : World} {base : Nat} {spare : Nat → Bool} {held : Bool} {fuel : Nat} {t : TypeId} {cs : List Value} {x : DataW H × List MemPlace} (ht : P.underlying t = some (.float .f64)) (h : DataW.trod enc P w base spare held fuel t cs = some x) :
    ∃ b : Nat, cs = [.float .f64 b] ∧ b < 18446744073709551616 := by
  cases fuel with
  | zero => simp [DataW.trod] at h
  | succ n =>
    unfold DataW.trod at h
    rw [ht] at h
    match cs, h with
    | [.float k b], h =>
      simp only at h
      split at h
      · rename_i hc
        obtain ⟨e, hw⟩ := hc
        subst e
        exact ⟨b, rfl, of_decide_eq_true hw⟩
      · cases h

/-- A value that fits. -/
structure V.fits (v : V) : Prop where
  k0 : -9223372036854775808 ≤ v.k
  k1 : v.k < 9223372036854775808
  n0 : -9223372036854775808 ≤ v.n
  n1 : v.n < 9223372036854775808
  f1 : v.f < 18446744073709551616
  s1 : v.s.size ≤ 9223372036854775807

set_option maxRecDepth 100000 in
theorem cellsVal : Tryz.prog.cellsOf 27 = 4 := by kernel_rfl

set_option maxRecDepth 100000 in
theorem isVal_of {H : Type} {enc : TypeId × Value → H} {w : World} {base b0 : Nat} {spare : Nat → Bool} {held : Bool} {v : Value} {d : DataW H} {p : List MemPlace}
    (hv : Value.okWide Tryz.prog w .any b0 27 v) (h : DataW.Trod enc Tryz.prog w base spare held 27 v d p) : ∃ x : V, v = x.val ∧ x.fits := by
  obtain ⟨v0, v1, v2, v3, y0, y1, y2, y3, m, rfl, rfl, rfl, h0, h1, h2, h3⟩ := open_agg4 Tryz.underlying27 (by kernel_rfl) cellsVal hv h
  obtain ⟨k, e0, _, w0⟩ := DataW.trod_int Tryz.underlying3 h0
  obtain ⟨n, e1, _, w1⟩ := DataW.trod_int Tryz.underlying2 h1
  obtain ⟨f, e2, w2⟩ := trod_f64 Tryz.underlying25 h2
  obtain ⟨s, e3, _, w3⟩ := DataW.trod_string Tryz.underlying9 h3
  simp at e0 e1 e2 e3
  subst e0 e1 e2 e3
  simp [Lit.wf, IntKind.min, IntKind.max, IntKind.signed, IntKind.bits] at w0 w1
  exact ⟨⟨k, n, f, s⟩, rfl, ⟨by simp only; omega, by simp only; omega, by simp only; omega, by simp only; omega, w2, by simp only [maxLen] at w3; simp only; omega⟩⟩
end Go.Proofs.YtmknkecaeagmbaaGreatDoor

/- Arguments that are operations (api.Op): from their reading to what they hold. -/
namespace Go.Proofs.YtmknkecaeagmbaaGreatDoor
open Go.ChangeShapes Go.WideShapes Go.ChangeAt Go.RowKit Go.Joins
set_option linter.unusedVariables false
set_option linter.unusedSimpArgs false
set_option maxRecDepth 100000

theorem cellsU : Tryz.prog.cellsOf 22 = 1 := by kernel_rfl
theorem cellsI : Tryz.prog.cellsOf 3 = 1 := by kernel_rfl
theorem cellsI6 : Tryz.prog.cellsOf 2 = 1 := by kernel_rfl
theorem cellsF : Tryz.prog.cellsOf 25 = 1 := by kernel_rfl
theorem cellsB : Tryz.prog.cellsOf 4 = 1 := by kernel_rfl
theorem cellsS : Tryz.prog.cellsOf 9 = 1 := by kernel_rfl
theorem cellsId : Tryz.prog.cellsOf 24 = 2 := by kernel_rfl
theorem cellsAn : Tryz.prog.cellsOf 29 = 3 := by kernel_rfl
theorem cellsOp : Tryz.prog.cellsOf 31 = 22 := by kernel_rfl
section
variable {H : Type} {enc : TypeId × Value → H} {w : World} {base : Nat} {spare : Nat → Bool} {held : Bool}
theorem u64_of {n : Nat} {a : Value} {y : DataW H × List MemPlace} (h : DataW.trod enc Tryz.prog w base spare held n 22 [a] = some y) : ∃ c : Int, a = .int .u64 c ∧ 0 ≤ c ∧ c < 18446744073709551616 := by
  obtain ⟨k, e0, _, w0⟩ := DataW.trod_int Tryz.underlying22 h
  simp at e0
  simp [Lit.wf, IntKind.min, IntKind.max, IntKind.signed, IntKind.bits] at w0
  exact ⟨k, e0, by omega, by omega⟩
theorem i64_of {n : Nat} {a : Value} {y : DataW H × List MemPlace} (h : DataW.trod enc Tryz.prog w base spare held n 3 [a] = some y) : ∃ c : Int, a = .int .i64 c ∧ -9223372036854775808 ≤ c ∧ c < 9223372036854775808 := by
  obtain ⟨k, e0, _, w0⟩ := DataW.trod_int Tryz.underlying3 h
  simp at e0
  simp [Lit.wf, IntKind.min, IntKind.max, IntKind.signed, IntKind.bits] at w0
  exact ⟨k, e0, by omega, by omega⟩
theorem i64_of' {n : Nat} {a : Value} {y : DataW H × List MemPlace} (h : DataW.trod enc Tryz.prog w base spare held n 2 [a] = some y) : ∃ c : Int, a = .int .i64 c ∧ -9223372036854775808 ≤ c ∧ c < 9223372036854775808 := by
  obtain ⟨k, e0, _, w0⟩ := DataW.trod_int Tryz.underlying2 h
  simp at e0
  simp [Lit.wf, IntKind.min, IntKind.max, IntKind.signed, IntKind.bits] at w0
  exact ⟨k, e0, by omega, by omega⟩
theorem str_of {n : Nat} {a : Value} {y : DataW H × List MemPlace} (h : DataW.trod enc Tryz.prog w base spare held n 9 [a] = some y) : ∃ s : ByteArray, a = .string s ∧ s.size ≤ 9223372036854775807 := by
  obtain ⟨s, e3, _, w3⟩ := DataW.trod_string Tryz.underlying9 h
  simp at e3
  exact ⟨s, e3, by unfold maxLen at w3; omega⟩
theorem bool_of {n : Nat} {a : Value} {y : DataW H × List MemPlace} (h : DataW.trod enc Tryz.prog w base spare held n 4 [a] = some y) : ∃ b : Bool, a = .bool b := by
  obtain ⟨b, e, _⟩ := DataW.trod_bool Tryz.underlying4 h
  simp at e
  exact ⟨b, e⟩
theorem f64_of {n : Nat} {a : Value} {y : DataW H × List MemPlace} (h : DataW.trod enc Tryz.prog w base spare held n 25 [a] = some y) : ∃ f : Nat, a = .float .f64 f ∧ f < 18446744073709551616 := by
  obtain ⟨f, e, h2⟩ := trod_f64 Tryz.underlying25 h
  simp at e
  exact ⟨f, e, h2⟩
theorem id_of {n : Nat} {a b : Value} {y : DataW H × List MemPlace} (h : DataW.trod enc Tryz.prog w base spare held n 24 [a, b] = some y) : ∃ c k : Int, a = .int .u64 c ∧ b = .int .u64 k ∧ (0 ≤ c ∧ c < 18446744073709551616) ∧ (0 ≤ k ∧ k < 18446744073709551616) := by
  obtain ⟨y0, y1, m, _, _, h0, h1⟩ := trod_struct2 Tryz.underlying24 h
  obtain ⟨c, e0, w0⟩ := u64_of (a := a) (by simpa [cellsU] using h0)
  obtain ⟨k, e1, w1⟩ := u64_of (a := b) (by simpa [cellsU] using h1)
  exact ⟨c, k, e0, e1, w0, w1⟩
theorem an_of {n : Nat} {a b d : Value} {y : DataW H × List MemPlace} (h : DataW.trod enc Tryz.prog w base spare held n 29 [a, b, d] = some y) : ∃ (c k : Int) (f : Bool), a = .int .u64 c ∧ b = .int .u64 k ∧ d = .bool f ∧ (0 ≤ c ∧ c < 18446744073709551616) ∧ (0 ≤ k ∧ k < 18446744073709551616) := by
  obtain ⟨y0, y1, m, _, _, h0, h1⟩ := trod_struct2 Tryz.underlying29 h
  obtain ⟨c, k, e0, e1, w0, w1⟩ := id_of (a := a) (b := b) (by simpa [cellsId] using h0)
  obtain ⟨f, e2⟩ := bool_of (a := d) (by simpa [cellsB] using h1)
  exact ⟨c, k, f, e0, e1, e2, w0, w1⟩
theorem val_of {n : Nat} {a b d e : Value} {y : DataW H × List MemPlace} (h : DataW.trod enc Tryz.prog w base spare held n 27 [a, b, d, e] = some y) : ∃ (k m : Int) (f : Nat) (s : ByteArray), a = .int .i64 k ∧ b = .int .i64 m ∧ d = .float .f64 f ∧ e = .string s ∧ (-9223372036854775808 ≤ k ∧ k < 9223372036854775808) ∧ (-9223372036854775808 ≤ m ∧ m < 9223372036854775808) ∧ f < 18446744073709551616 ∧ s.size ≤ 9223372036854775807 := by
  obtain ⟨y0, y1, y2, y3, m, _, _, h0, h1, h2, h3⟩ := trod_struct4 Tryz.underlying27 h
  obtain ⟨k, e0, w0⟩ := i64_of (a := a) (by simpa [cellsI] using h0)
  obtain ⟨m, e1, w1⟩ := i64_of' (a := b) (by simpa [cellsI6] using h1)
  obtain ⟨f, e2, w2⟩ := f64_of (a := d) (by simpa [cellsF] using h2)
  obtain ⟨s, e3, w3⟩ := str_of (a := e) (by simpa [cellsS] using h3)
  exact ⟨k, m, f, s, e0, e1, e2, e3, w0, w1, w2, w3⟩
end
theorem list22 (l : List Value) (h : l.length = 22) : ∃ c0 c1 c2 c3 c4 c5 c6 c7 c8 c9 c10 c11 c12 c13 c14 c15 c16 c17 c18 c19 c20 c21, l = [c0, c1, c2, c3, c4, c5, c6, c7, c8, c9, c10, c11, c12, c13, c14, c15, c16, c17, c18, c19, c20, c21] := by
  have e : l = (List.range 22).map (fun i => l.getD i undef) := by
    apply List.ext_getElem
    · simp [h]
    · intro i h1 h2
      simp [h1]
  exact ⟨l.getD 0 undef, l.getD 1 undef, l.getD 2 undef, l.getD 3 undef, l.getD 4 undef, l.getD 5 undef, l.getD 6 undef, l.getD 7 undef, l.getD 8 undef, l.getD 9 undef, l.getD 10 undef, l.getD 11 undef, l.getD 12 undef, l.getD 13 undef, l.getD 14 undef, l.getD 15 undef, l.getD 16 undef, l.getD 17 undef, l.getD 18 undef, l.getD 19 undef, l.getD 20 undef, l.getD 21 undef, e⟩
theorem isOp_of {H : Type} {enc : TypeId × Value → H} {w : World} {base b0 : Nat} {spare : Nat → Bool} {held : Bool} {v : Value} {d : DataW H} {p : List MemPlace}
    (hv : Value.okWide Tryz.prog w .any b0 31 v) (h : DataW.Trod enc Tryz.prog w base spare held 31 v d p) : ∃ x : O, v = x.val ∧ x.fits := by
  obtain ⟨cs, rfl, hsz⟩ := okWide_struct Tryz.underlying31 hv
  obtain ⟨c0, c1, c2, c3, c4, c5, c6, c7, c8, c9, c10, c11, c12, c13, c14, c15, c16, c17, c18, c19, c20, c21, hl⟩ := list22 cs.toList (by rw [Array.length_toList, hsz, cellsOp])
  obtain rfl : cs = #[c0, c1, c2, c3, c4, c5, c6, c7, c8, c9, c10, c11, c12, c13, c14, c15, c16, c17, c18, c19, c20, c21] := by apply Array.ext'; exact hl
  clear hl hsz hv
  obtain ⟨fuel, hf⟩ := h
  obtain ⟨xs, n, _, _, _, hlen, hx⟩ := DataW.trod_struct Tryz.underlying31 hf
  have hl : xs.length = 11 := hlen
  clear hlen hf
  have g0 : ∃ y, DataW.trod enc Tryz.prog w base spare held n 24 [c0, c1] = some y := ⟨xs[0], by
    have := hx 0 _ rfl
    rw [List.getElem?_eq_getElem (by omega)] at this
    simpa [cellsId, Value.cells] using this⟩
  have g1 : ∃ y, DataW.trod enc Tryz.prog w base spare held n 3 [c2] = some y := ⟨xs[1], by
    have := hx 1 _ rfl
    rw [List.getElem?_eq_getElem (by omega)] at this
    simpa [cellsI, Value.cells] using this⟩
  have g2 : ∃ y, DataW.trod enc Tryz.prog w base spare held n 22 [c3] = some y := ⟨xs[2], by
    have := hx 2 _ rfl
    rw [List.getElem?_eq_getElem (by omega)] at this
    simpa [cellsU, Value.cells] using this⟩
  have g3 : ∃ y, DataW.trod enc Tryz.prog w base spare held n 24 [c4, c5] = some y := ⟨xs[3], by
    have := hx 3 _ rfl
    rw [List.getElem?_eq_getElem (by omega)] at this
    simpa [cellsId, Value.cells] using this⟩
  have g4 : ∃ y, DataW.trod enc Tryz.prog w base spare held n 24 [c6, c7] = some y := ⟨xs[4], by
    have := hx 4 _ rfl
    rw [List.getElem?_eq_getElem (by omega)] at this
    simpa [cellsId, Value.cells] using this⟩
  have g5 : ∃ y, DataW.trod enc Tryz.prog w base spare held n 9 [c8] = some y := ⟨xs[5], by
    have := hx 5 _ rfl
    rw [List.getElem?_eq_getElem (by omega)] at this
    simpa [cellsS, Value.cells] using this⟩
  have g6 : ∃ y, DataW.trod enc Tryz.prog w base spare held n 27 [c9, c10, c11, c12] = some y := ⟨xs[6], by
    have := hx 6 _ rfl
    rw [List.getElem?_eq_getElem (by omega)] at this
    simpa [cellsVal, Value.cells] using this⟩
  have g7 : ∃ y, DataW.trod enc Tryz.prog w base spare held n 9 [c13] = some y := ⟨xs[7], by
    have := hx 7 _ rfl
    rw [List.getElem?_eq_getElem (by omega)] at this
    simpa [cellsS, Value.cells] using this⟩
  have g8 : ∃ y, DataW.trod enc Tryz.prog w base spare held n 24 [c14, c15] = some y := ⟨xs[8], by
    have := hx 8 _ rfl
    rw [List.getElem?_eq_getElem (by omega)] at this
    simpa [cellsId, Value.cells] using this⟩
  have g9 : ∃ y, DataW.trod enc Tryz.prog w base spare held n 29 [c16, c17, c18] = some y := ⟨xs[9], by
    have := hx 9 _ rfl
    rw [List.getElem?_eq_getElem (by omega)] at this
    simpa [cellsAn, Value.cells] using this⟩
  have g10 : ∃ y, DataW.trod enc Tryz.prog w base spare held n 29 [c19, c20, c21] = some y := ⟨xs[10], by
    have := hx 10 _ rfl
    rw [List.getElem?_eq_getElem (by omega)] at this
    simpa [cellsAn, Value.cells] using this⟩
  obtain ⟨y0, g0⟩ := g0
  obtain ⟨c, k, rfl, rfl, w0a, w0b⟩ := id_of g0
  obtain ⟨y1, g1⟩ := g1
  obtain ⟨kind, rfl, w1⟩ := i64_of g1
  obtain ⟨y2, g2⟩ := g2
  obtain ⟨st, rfl, w2⟩ := u64_of g2
  obtain ⟨y3, g3⟩ := g3
  obtain ⟨lc, lk, rfl, rfl, w3a, w3b⟩ := id_of g3
  obtain ⟨y4, g4⟩ := g4
  obtain ⟨rc, rk, rfl, rfl, w4a, w4b⟩ := id_of g4
  obtain ⟨y5, g5⟩ := g5
  obtain ⟨tx, rfl, w5⟩ := str_of g5
  obtain ⟨y6, g6⟩ := g6
  obtain ⟨vk, vn, vf, vs, rfl, rfl, rfl, rfl, wk, wn, wf, ws⟩ := val_of g6
  obtain ⟨y7, g7⟩ := g7
  obtain ⟨ky, rfl, w7⟩ := str_of g7
  obtain ⟨y8, g8⟩ := g8
  obtain ⟨pc, pk, rfl, rfl, w8a, w8b⟩ := id_of g8
  obtain ⟨y9, g9⟩ := g9
  obtain ⟨fc, fk, fa, rfl, rfl, rfl, w9a, w9b⟩ := an_of g9
  obtain ⟨y10, g10⟩ := g10
  obtain ⟨tc, tk, ta, rfl, rfl, rfl, w10a, w10b⟩ := an_of g10
  exact ⟨⟨c, k, kind, st, lc, lk, rc, rk, tx, vk, vn, vf, vs, ky, pc, pk, fc, fk, fa, tc, tk, ta⟩, rfl, ⟨w0a, w0b, w1, w2, w3a, w3b, w4a, w4b, w8a, w8b, w9a, w9b, w10a, w10b, wk, wn, wf⟩⟩
end Go.Proofs.YtmknkecaeagmbaaGreatDoor

/- quirelaw8.light. -/
namespace Go.Proofs.YtmknkecaeagmbaaGreatDoor
open Go.RowKit
set_option linter.unusedVariables false
set_option linter.unusedSimpArgs false
set_option maxRecDepth 100000

def lightB (o : O) : Bool := decide (o.tx.size ≤ 20000) && (decide (o.ky.size ≤ 200) && decide (o.vs.size ≤ 6000))
theorem light_iff (o : O) : lightB o = true ↔ o.tx.size ≤ 20000 ∧ o.ky.size ≤ 200 ∧ o.vs.size ≤ 6000 := by unfold lightB; simp
set_option maxHeartbeats 2000000 in
theorem light_any (o : O) (w : World) : Calls Tryz.prog 10 #[o.val] w fun e w' => e = .returned (.bool (lightB o)) ∧ Touch (fun _ => False) w w' := by
  unfold lightB
  obtain ⟨n1, h1⟩ : ∃ n1, Hid (n1 = o.tx.size) := ⟨_, rfl⟩
  obtain ⟨n2, h2⟩ : ∃ n2, Hid (n2 = o.ky.size) := ⟨_, rfl⟩
  obtain ⟨n3, h3⟩ : ∃ n3, Hid (n3 = o.vs.size) := ⟨_, rfl⟩
  go_enter Tryz.func10, Tryz.ntmps10
  go_upto_region 1 with fail
  obtain ⟨W0, hW0⟩ : ∃ W0, Hid (W0 = w.alloc (opO o)) := ⟨_, Eq.refl _⟩
  have HT0 : Hid (Touch (fun _ => False) w W0) := by rw [hW0.out]; exact (Touch.refl _ _).alloc _
  have hA : OpAt w.heap.size o W0 := by rw [hW0.out]; exact heap_alloc_new _ _
  rw [← hW0.out]
  clear hW0
  have q8 := hA.q8
  have q12 := hA.q12
  have q13 := hA.q13
  clear hA
  by_cases c1 : o.tx.size ≤ 20000
  · by_cases c2 : o.ky.size ≤ 200
    · by_cases c3 : o.vs.size ≤ 6000
      · have d1 : (o.tx.size : Int) ≤ 20000 := by omega
        have d2 : (o.ky.size : Int) ≤ 200 := by omega
        have d3 : (o.vs.size : Int) ≤ 6000 := by omega
        go_wp2_with fail
        go_ret
        exact ⟨by simp [c1, c2, c3], HT0.out⟩
      · have d1 : (o.tx.size : Int) ≤ 20000 := by omega
        have d2 : (o.ky.size : Int) ≤ 200 := by omega
        have d3 : ¬ (o.vs.size : Int) ≤ 6000 := by omega
        go_wp2_with fail
        go_ret
        exact ⟨by simp [c1, c2, c3], HT0.out⟩
    · have d1 : (o.tx.size : Int) ≤ 20000 := by omega
      have d2 : ¬ (o.ky.size : Int) ≤ 200 := by omega
      go_wp2_with fail
      go_ret
      exact ⟨by simp [c1, c2], HT0.out⟩
  · have d1 : ¬ (o.tx.size : Int) ≤ 20000 := by omega
    go_wp2_with fail
    go_ret
    exact ⟨by simp [c1], HT0.out⟩
end Go.Proofs.YtmknkecaeagmbaaGreatDoor

/- The order of values is an order. It speaks of no program. -/
namespace Go.Proofs.YtmknkecaeagmbaaGreatDoor
open Go.RowKit
set_option linter.unusedVariables false

/-- Bytes as one of three: -1, 0, 1. -/
def lexI : List UInt8 → List UInt8 → Int
  | [], [] => 0
  | [], _ :: _ => -1
  | _ :: _, [] => 1
  | a :: x, b :: y => if a.toNat < b.toNat then -1 else if b.toNat < a.toNat then 1 else lexI x y
theorem lexI_spec (a b : List UInt8) : Op.bytesLess a b = decide (lexI a b = -1) ∧ (a == b) = decide (lexI a b = 0) ∧ (lexI a b = -1 ∨ lexI a b = 0 ∨ lexI a b = 1) := by
  induction a generalizing b with
  | nil => cases b <;> simp [Op.bytesLess, lexI]
  | cons x r ih =>
    cases b with
    | nil => simp [Op.bytesLess, lexI]
    | cons y s =>
      obtain ⟨h1, h2, h3⟩ := ih s
      simp only [Op.bytesLess]
      have hlt : (x < y) ↔ x.toNat < y.toNat := UInt8.lt_iff_toNat_lt
      have heq : (x = y) ↔ x.toNat = y.toNat := UInt8.toNat_inj.symm
      by_cases c1 : x.toNat < y.toNat
      · have e : lexI (x :: r) (y :: s) = -1 := by simp only [lexI]; rw [if_pos c1]
        have e1 : (decide (x < y)) = true := decide_eq_true (hlt.2 c1)
        have e2 : (x :: r == y :: s) = false := by
          rw [beq_eq_false_iff_ne]; intro e; cases e; omega
        rw [e, e1, e2]; simp
      · have e1 : (decide (x < y)) = false := decide_eq_false (fun h => c1 (hlt.1 h))
        by_cases c2 : y.toNat < x.toNat
        · have e : lexI (x :: r) (y :: s) = 1 := by simp only [lexI]; rw [if_neg c1, if_pos c2]
          have e2 : (x == y) = false := by rw [beq_eq_false_iff_ne]; intro e; rw [heq] at e; omega
          have e3 : (x :: r == y :: s) = false := by rw [beq_eq_false_iff_ne]; intro e; cases e; omega
          rw [e, e1, e2, e3]; simp
        · have e : lexI (x :: r) (y :: s) = lexI r s := by simp only [lexI]; rw [if_neg c1, if_neg c2]
          have e2 : x = y := heq.2 (by omega)
          subst e2
          have e3 : (x :: r == x :: s) = (r == s) := by simp
          rw [e, e1, e3, h1, h2]; simp [h3]
theorem refText_lex (a b : ByteArray) : refText a b = lexI a.toList b.toList := by
  obtain ⟨h1, h2, h3⟩ := lexI_spec a.toList b.toList
  unfold refText
  rw [h1, h2]
  rcases h3 with h | h | h <;> rw [h] <;> decide
theorem lexI_anti (a b : List UInt8) : lexI a b = -lexI b a := by
  induction a generalizing b with
  | nil => cases b <;> simp [lexI]
  | cons x r ih =>
    cases b with
    | nil => simp [lexI]
    | cons y s =>
      simp only [lexI]
      by_cases c1 : x.toNat < y.toNat
      · rw [if_pos c1, if_neg (by omega), if_pos c1]
      · rw [if_neg c1]
        by_cases c2 : y.toNat < x.toNat
        · rw [if_pos c2, if_pos c2]; rfl
        · rw [if_neg c2, if_neg c2, if_neg c1, ih]
theorem lexI_range (a b : List UInt8) : lexI a b = -1 ∨ lexI a b = 0 ∨ lexI a b = 1 := (lexI_spec a b).2.2
theorem lexI_trans (a b c : List UInt8) (h1 : lexI a b ≤ 0) (h2 : lexI b c ≤ 0) : lexI a c ≤ 0 ∧ (lexI a b = -1 ∨ lexI b c = -1 → lexI a c = -1) := by
  induction a generalizing b c with
  | nil =>
    cases c with
    | nil =>
      cases b with
      | nil => simp [lexI]
      | cons y s => simp [lexI] at h2
    | cons z t => simp [lexI]
  | cons x r ih =>
    cases b with
    | nil => simp [lexI] at h1
    | cons y s =>
      cases c with
      | nil => simp [lexI] at h2
      | cons z t =>
        simp only [lexI] at *
        by_cases c1 : x.toNat < y.toNat
        · by_cases c3 : y.toNat < z.toNat
          · rw [if_pos (show x.toNat < z.toNat by omega)]; simp
          · rw [if_neg c3] at h2
            by_cases c4 : z.toNat < y.toNat
            · rw [if_pos c4] at h2; omega
            · rw [if_pos (show x.toNat < z.toNat by omega)]; simp
        · rw [if_neg c1] at h1
          by_cases c2 : y.toNat < x.toNat
          · rw [if_pos c2] at h1; omega
          · rw [if_neg c2] at h1
            by_cases c3 : y.toNat < z.toNat
            · rw [if_pos (show x.toNat < z.toNat by omega)]; simp
            · rw [if_neg c3] at h2
              by_cases c4 : z.toNat < y.toNat
              · rw [if_pos c4] at h2; omega
              · rw [if_neg c4] at h2
                rw [if_neg c1, if_neg c2, if_neg c3, if_neg c4, if_neg (show ¬ x.toNat < z.toNat by omega), if_neg (show ¬ z.toNat < x.toNat by omega)]
                exact ih s t h1 h2

/-- Four questions, the first that parts. -/
theorem refCmp_cases (a b : V) : refCmp a b = if a.k < b.k then -1 else if b.k < a.k then 1 else if a.n < b.n then -1 else if b.n < a.n then 1 else if refOrder a.f < refOrder b.f then -1 else if refOrder b.f < refOrder a.f then 1 else lexI a.s.toList b.s.toList := by
  unfold refCmp refInts
  rw [refText_lex]
  by_cases c1 : a.k < b.k
  · simp [c1]
  by_cases c2 : b.k < a.k
  · simp [c1, c2]
  by_cases c3 : a.n < b.n
  · simp [c1, c2, c3]
  by_cases c4 : b.n < a.n
  · simp [c1, c2, c3, c4]
  by_cases c5 : refOrder a.f < refOrder b.f
  · simp [c1, c2, c3, c4, c5]
  by_cases c6 : refOrder b.f < refOrder a.f
  · simp [c1, c2, c3, c4, c5, c6]
  simp [c1, c2, c3, c4, c5, c6]
theorem refCmp_range (a b : V) : refCmp a b = -1 ∨ refCmp a b = 0 ∨ refCmp a b = 1 := by
  rw [refCmp_cases]
  have := lexI_range a.s.toList b.s.toList
  generalize lexI a.s.toList b.s.toList = l at *
  repeat' split
  all_goals omega
theorem refCmp_anti (a b : V) : refCmp a b = -refCmp b a := by
  rw [refCmp_cases, refCmp_cases b a, lexI_anti]
  generalize lexI b.s.toList a.s.toList = l
  repeat' split
  all_goals omega
theorem refCmp_self (a : V) : refCmp a a = 0 := by
  have := refCmp_anti a a; omega
theorem refCmp_trans (a b c : V) (h1 : refCmp a b ≤ 0) (h2 : refCmp b c ≤ 0) : refCmp a c ≤ 0 := by
  rw [refCmp_cases] at *
  have ht := lexI_trans a.s.toList b.s.toList c.s.toList
  generalize lexI a.s.toList b.s.toList = l1 at *
  generalize lexI b.s.toList c.s.toList = l2 at *
  generalize lexI a.s.toList c.s.toList = l3 at *
  generalize refOrder a.f = fa at *
  generalize refOrder b.f = fb at *
  generalize refOrder c.f = fc at *
  generalize a.k = ka at *
  generalize b.k = kb at *
  generalize c.k = kc at *
  generalize a.n = na at *
  generalize b.n = nb at *
  generalize c.n = nc at *
  by_cases x1 : ka < kc
  · rw [if_pos x1]; omega
  rw [if_neg x1]
  by_cases p1 : ka < kb
  · by_cases q1 : kb < kc
    · omega
    · rw [if_neg q1] at h2
      rw [if_pos (by omega)] at h2; omega
  rw [if_neg p1] at h1
  by_cases p2 : kb < ka
  · rw [if_pos p2] at h1; omega
  rw [if_neg p2] at h1
  obtain rfl : ka = kb := by omega
  rw [if_neg x1] at h2
  by_cases q2 : kc < ka
  · rw [if_pos q2] at h2; omega
  rw [if_neg q2] at h2 ⊢
  by_cases x3 : na < nc
  · rw [if_pos x3]; omega
  rw [if_neg x3]
  by_cases p3 : na < nb
  · by_cases q3 : nb < nc
    · omega
    · rw [if_neg q3] at h2
      rw [if_pos (by omega)] at h2; omega
  rw [if_neg p3] at h1
  by_cases p4 : nb < na
  · rw [if_pos p4] at h1; omega
  rw [if_neg p4] at h1
  obtain rfl : na = nb := by omega
  rw [if_neg x3] at h2
  by_cases q4 : nc < na
  · rw [if_pos q4] at h2; omega
  rw [if_neg q4] at h2 ⊢
  by_cases x5 : fa < fc
  · rw [if_pos x5]; omega
  rw [if_neg x5]
  by_cases p5 : fa < fb
  · by_cases q5 : fb < fc
    · omega
    · rw [if_neg q5] at h2
      rw [if_pos (by omega)] at h2; omega
  rw [if_neg p5] at h1
  by_cases p6 : fb < fa
  · rw [if_pos p6] at h1; omega
  rw [if_neg p6] at h1
  obtain rfl : fa = fb := by omega
  rw [if_neg x5] at h2
  by_cases q6 : fc < fa
  · rw [if_pos q6] at h2; omega
  rw [if_neg q6] at h2 ⊢
  exact (ht h1 h2).1
end Go.Proofs.YtmknkecaeagmbaaGreatDoor
