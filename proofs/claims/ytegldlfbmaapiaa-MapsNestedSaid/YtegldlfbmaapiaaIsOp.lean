/- Arguments that are operations (api.Op): from their reading to what they hold. -/
import Derived.Test.YtegldlfbmaapiaaPart2
import Derived.Test.YtegldlfbmaapiaaPart18
import Derived.ChangeArms
import Derived.ChangeSame
namespace Go.Proofs.Ytegldlfbmaapiaa
open Go.ChangeShapes Go.WideShapes Go.ChangeAt Go.RowKit Go.Joins
set_option linter.unusedVariables false
set_option linter.unusedSimpArgs false
set_option maxRecDepth 100000

theorem cellsU : Try.prog.cellsOf 32 = 1 := by kernel_rfl
theorem cellsI : Try.prog.cellsOf 3 = 1 := by kernel_rfl
theorem cellsI6 : Try.prog.cellsOf 2 = 1 := by kernel_rfl
theorem cellsF : Try.prog.cellsOf 35 = 1 := by kernel_rfl
theorem cellsB : Try.prog.cellsOf 4 = 1 := by kernel_rfl
theorem cellsS : Try.prog.cellsOf 9 = 1 := by kernel_rfl
theorem cellsId : Try.prog.cellsOf 34 = 2 := by kernel_rfl
theorem cellsAn : Try.prog.cellsOf 39 = 3 := by kernel_rfl
theorem cellsOp : Try.prog.cellsOf 41 = 22 := by kernel_rfl
section
variable {H : Type} {enc : TypeId × Value → H} {w : World} {base : Nat} {spare : Nat → Bool} {held : Bool}
theorem u64_of {n : Nat} {a : Value} {y : DataW H × List MemPlace} (h : DataW.trod enc Try.prog w base spare held n 32 [a] = some y) : ∃ c : Int, a = .int .u64 c ∧ 0 ≤ c ∧ c < 18446744073709551616 := by
  obtain ⟨k, e0, _, w0⟩ := DataW.trod_int Try.underlying32 h
  simp at e0
  simp [Lit.wf, IntKind.min, IntKind.max, IntKind.signed, IntKind.bits] at w0
  exact ⟨k, e0, by omega, by omega⟩
theorem i64_of {n : Nat} {a : Value} {y : DataW H × List MemPlace} (h : DataW.trod enc Try.prog w base spare held n 3 [a] = some y) : ∃ c : Int, a = .int .i64 c ∧ -9223372036854775808 ≤ c ∧ c < 9223372036854775808 := by
  obtain ⟨k, e0, _, w0⟩ := DataW.trod_int Try.underlying3 h
  simp at e0
  simp [Lit.wf, IntKind.min, IntKind.max, IntKind.signed, IntKind.bits] at w0
  exact ⟨k, e0, by omega, by omega⟩
theorem i64_of' {n : Nat} {a : Value} {y : DataW H × List MemPlace} (h : DataW.trod enc Try.prog w base spare held n 2 [a] = some y) : ∃ c : Int, a = .int .i64 c ∧ -9223372036854775808 ≤ c ∧ c < 9223372036854775808 := by
  obtain ⟨k, e0, _, w0⟩ := DataW.trod_int Try.underlying2 h
  simp at e0
  simp [Lit.wf, IntKind.min, IntKind.max, IntKind.signed, IntKind.bits] at w0
  exact ⟨k, e0, by omega, by omega⟩
theorem str_of {n : Nat} {a : Value} {y : DataW H × List MemPlace} (h : DataW.trod enc Try.prog w base spare held n 9 [a] = some y) : ∃ s : ByteArray, a = .string s ∧ s.size ≤ 9223372036854775807 := by
  obtain ⟨s, e3, _, w3⟩ := DataW.trod_string Try.underlying9 h
  simp at e3
  exact ⟨s, e3, by unfold maxLen at w3; omega⟩
theorem bool_of {n : Nat} {a : Value} {y : DataW H × List MemPlace} (h : DataW.trod enc Try.prog w base spare held n 4 [a] = some y) : ∃ b : Bool, a = .bool b := by
  obtain ⟨b, e, _⟩ := DataW.trod_bool Try.underlying4 h
  simp at e
  exact ⟨b, e⟩
theorem f64_of {n : Nat} {a : Value} {y : DataW H × List MemPlace} (h : DataW.trod enc Try.prog w base spare held n 35 [a] = some y) : ∃ f : Nat, a = .float .f64 f ∧ f < 18446744073709551616 := by
  obtain ⟨f, e, h2⟩ := trod_f64 Try.underlying35 h
  simp at e
  exact ⟨f, e, h2⟩
theorem id_of {n : Nat} {a b : Value} {y : DataW H × List MemPlace} (h : DataW.trod enc Try.prog w base spare held n 34 [a, b] = some y) : ∃ c k : Int, a = .int .u64 c ∧ b = .int .u64 k ∧ (0 ≤ c ∧ c < 18446744073709551616) ∧ (0 ≤ k ∧ k < 18446744073709551616) := by
  obtain ⟨y0, y1, m, _, _, h0, h1⟩ := trod_struct2 Try.underlying34 h
  obtain ⟨c, e0, w0⟩ := u64_of (a := a) (by simpa [cellsU] using h0)
  obtain ⟨k, e1, w1⟩ := u64_of (a := b) (by simpa [cellsU] using h1)
  exact ⟨c, k, e0, e1, w0, w1⟩
theorem an_of {n : Nat} {a b d : Value} {y : DataW H × List MemPlace} (h : DataW.trod enc Try.prog w base spare held n 39 [a, b, d] = some y) : ∃ (c k : Int) (f : Bool), a = .int .u64 c ∧ b = .int .u64 k ∧ d = .bool f ∧ (0 ≤ c ∧ c < 18446744073709551616) ∧ (0 ≤ k ∧ k < 18446744073709551616) := by
  obtain ⟨y0, y1, m, _, _, h0, h1⟩ := trod_struct2 Try.underlying39 h
  obtain ⟨c, k, e0, e1, w0, w1⟩ := id_of (a := a) (b := b) (by simpa [cellsId] using h0)
  obtain ⟨f, e2⟩ := bool_of (a := d) (by simpa [cellsB] using h1)
  exact ⟨c, k, f, e0, e1, e2, w0, w1⟩
theorem val_of {n : Nat} {a b d e : Value} {y : DataW H × List MemPlace} (h : DataW.trod enc Try.prog w base spare held n 37 [a, b, d, e] = some y) : ∃ (k m : Int) (f : Nat) (s : ByteArray), a = .int .i64 k ∧ b = .int .i64 m ∧ d = .float .f64 f ∧ e = .string s ∧ (-9223372036854775808 ≤ k ∧ k < 9223372036854775808) ∧ (-9223372036854775808 ≤ m ∧ m < 9223372036854775808) ∧ f < 18446744073709551616 ∧ s.size ≤ 9223372036854775807 := by
  obtain ⟨y0, y1, y2, y3, m, _, _, h0, h1, h2, h3⟩ := trod_struct4 Try.underlying37 h
  obtain ⟨k, e0, w0⟩ := i64_of (a := a) (by simpa [cellsI] using h0)
  obtain ⟨m, e1, w1⟩ := i64_of' (a := b) (by simpa [cellsI6] using h1)
  obtain ⟨f, e2, w2⟩ := f64_of (a := d) (by simpa [cellsF] using h2)
  obtain ⟨s, e3, w3⟩ := str_of (a := e) (by simpa [cellsS] using h3)
  exact ⟨k, m, f, s, e0, e1, e2, e3, w0, w1, w2, w3⟩
end
theorem list22 (l : List Value) (h : l.length = 22) : ∃ c0 c1 c2 c3 c4 c5 c6 c7 c8 c9 c10 c11 c12 c13 c14 c15 c16 c17 c18 c19 c20 c21, l = [c0, c1, c2, c3, c4, c5, c6, c7, c8, c9, c10, c11, c12, c13, c14, c15, c16, c17, c18, c19, c20, c21] := by
  have e : l = (List.range 22).map (fun i => l.getD i undef) := by
    apply List.ext_getElem
    · simp [h]
    · intro i h1 h2
      simp [h1]
  exact ⟨l.getD 0 undef, l.getD 1 undef, l.getD 2 undef, l.getD 3 undef, l.getD 4 undef, l.getD 5 undef, l.getD 6 undef, l.getD 7 undef, l.getD 8 undef, l.getD 9 undef, l.getD 10 undef, l.getD 11 undef, l.getD 12 undef, l.getD 13 undef, l.getD 14 undef, l.getD 15 undef, l.getD 16 undef, l.getD 17 undef, l.getD 18 undef, l.getD 19 undef, l.getD 20 undef, l.getD 21 undef, e⟩
theorem isOp_of {H : Type} {enc : TypeId × Value → H} {w : World} {base b0 : Nat} {spare : Nat → Bool} {held : Bool} {v : Value} {d : DataW H} {p : List MemPlace}
    (hv : Value.okWide Try.prog w .any b0 41 v) (h : DataW.Trod enc Try.prog w base spare held 41 v d p) : ∃ x : O, v = x.val ∧ x.fits := by
  obtain ⟨cs, rfl, hsz⟩ := okWide_struct Try.underlying41 hv
  obtain ⟨c0, c1, c2, c3, c4, c5, c6, c7, c8, c9, c10, c11, c12, c13, c14, c15, c16, c17, c18, c19, c20, c21, hl⟩ := list22 cs.toList (by rw [Array.length_toList, hsz, cellsOp])
  obtain rfl : cs = #[c0, c1, c2, c3, c4, c5, c6, c7, c8, c9, c10, c11, c12, c13, c14, c15, c16, c17, c18, c19, c20, c21] := by apply Array.ext'; exact hl
  clear hl hsz hv
  obtain ⟨fuel, hf⟩ := h
  obtain ⟨xs, n, _, _, _, hlen, hx⟩ := DataW.trod_struct Try.underlying41 hf
  have hl : xs.length = 11 := hlen
  clear hlen hf
  have g0 : ∃ y, DataW.trod enc Try.prog w base spare held n 34 [c0, c1] = some y := ⟨xs[0], by
    have := hx 0 _ rfl
    rw [List.getElem?_eq_getElem (by omega)] at this
    simpa [cellsId, Value.cells] using this⟩
  have g1 : ∃ y, DataW.trod enc Try.prog w base spare held n 3 [c2] = some y := ⟨xs[1], by
    have := hx 1 _ rfl
    rw [List.getElem?_eq_getElem (by omega)] at this
    simpa [cellsI, Value.cells] using this⟩
  have g2 : ∃ y, DataW.trod enc Try.prog w base spare held n 32 [c3] = some y := ⟨xs[2], by
    have := hx 2 _ rfl
    rw [List.getElem?_eq_getElem (by omega)] at this
    simpa [cellsU, Value.cells] using this⟩
  have g3 : ∃ y, DataW.trod enc Try.prog w base spare held n 34 [c4, c5] = some y := ⟨xs[3], by
    have := hx 3 _ rfl
    rw [List.getElem?_eq_getElem (by omega)] at this
    simpa [cellsId, Value.cells] using this⟩
  have g4 : ∃ y, DataW.trod enc Try.prog w base spare held n 34 [c6, c7] = some y := ⟨xs[4], by
    have := hx 4 _ rfl
    rw [List.getElem?_eq_getElem (by omega)] at this
    simpa [cellsId, Value.cells] using this⟩
  have g5 : ∃ y, DataW.trod enc Try.prog w base spare held n 9 [c8] = some y := ⟨xs[5], by
    have := hx 5 _ rfl
    rw [List.getElem?_eq_getElem (by omega)] at this
    simpa [cellsS, Value.cells] using this⟩
  have g6 : ∃ y, DataW.trod enc Try.prog w base spare held n 37 [c9, c10, c11, c12] = some y := ⟨xs[6], by
    have := hx 6 _ rfl
    rw [List.getElem?_eq_getElem (by omega)] at this
    simpa [cellsVal, Value.cells] using this⟩
  have g7 : ∃ y, DataW.trod enc Try.prog w base spare held n 9 [c13] = some y := ⟨xs[7], by
    have := hx 7 _ rfl
    rw [List.getElem?_eq_getElem (by omega)] at this
    simpa [cellsS, Value.cells] using this⟩
  have g8 : ∃ y, DataW.trod enc Try.prog w base spare held n 34 [c14, c15] = some y := ⟨xs[8], by
    have := hx 8 _ rfl
    rw [List.getElem?_eq_getElem (by omega)] at this
    simpa [cellsId, Value.cells] using this⟩
  have g9 : ∃ y, DataW.trod enc Try.prog w base spare held n 39 [c16, c17, c18] = some y := ⟨xs[9], by
    have := hx 9 _ rfl
    rw [List.getElem?_eq_getElem (by omega)] at this
    simpa [cellsAn, Value.cells] using this⟩
  have g10 : ∃ y, DataW.trod enc Try.prog w base spare held n 39 [c19, c20, c21] = some y := ⟨xs[10], by
    have := hx 10 _ rfl
    rw [List.getElem?_eq_getElem (by omega)] at this
    simpa [cellsAn, Value.cells] using this⟩
  obtain ⟨y0, g0⟩ := g0
  obtain ⟨c, k, rfl, rfl, w0a, w0b⟩ := id_of g0
  obtain ⟨y1, g1⟩ := g1
  obtain ⟨kind, rfl, w1⟩ := i64_of g1
  obtain ⟨y2, g2⟩ := g2
  obtain ⟨st, rfl, w2⟩ := u64_of g2
  obtain ⟨y3, g3⟩ := g3
  obtain ⟨lc, lk, rfl, rfl, w3a, w3b⟩ := id_of g3
  obtain ⟨y4, g4⟩ := g4
  obtain ⟨rc, rk, rfl, rfl, w4a, w4b⟩ := id_of g4
  obtain ⟨y5, g5⟩ := g5
  obtain ⟨tx, rfl, w5⟩ := str_of g5
  obtain ⟨y6, g6⟩ := g6
  obtain ⟨vk, vn, vf, vs, rfl, rfl, rfl, rfl, wk, wn, wf, ws⟩ := val_of g6
  obtain ⟨y7, g7⟩ := g7
  obtain ⟨ky, rfl, w7⟩ := str_of g7
  obtain ⟨y8, g8⟩ := g8
  obtain ⟨pc, pk, rfl, rfl, w8a, w8b⟩ := id_of g8
  obtain ⟨y9, g9⟩ := g9
  obtain ⟨fc, fk, fa, rfl, rfl, rfl, w9a, w9b⟩ := an_of g9
  obtain ⟨y10, g10⟩ := g10
  obtain ⟨tc, tk, ta, rfl, rfl, rfl, w10a, w10b⟩ := an_of g10
  exact ⟨⟨c, k, kind, st, lc, lk, rc, rk, tx, vk, vn, vf, vs, ky, pc, pk, fc, fk, fa, tc, tk, ta⟩, rfl, ⟨w0a, w0b, w1, w2, w3a, w3b, w4a, w4b, w8a, w8b, w9a, w9b, w10a, w10b, wk, wn, wf⟩⟩
end Go.Proofs.Ytegldlfbmaapiaa
