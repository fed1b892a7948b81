/- Arguments that are operations (api.Op): from their reading to what they hold. -/
import Derived.Test.YtodpdcflbnomgaaGreatPart2
import Derived.Test.YtodpdcflbnomgaaGreatPart23
import Derived.ChangeArms
import Derived.ChangeSame
import Derived.Test.YtodpdcflbnomgaaGreatRowR
import Derived.Deep.Slices
import Derived.ChangeMaps5
import Derived.SizedLaws
import Derived.Lib.SmallJoins
namespace Go.Proofs.YtodpdcflbnomgaaGreat
open Go.ChangeShapes Go.WideShapes Go.ChangeAt Go.RowKit Go.Joins
set_option linter.unusedVariables false
set_option linter.unusedSimpArgs false
set_option maxRecDepth 100000

theorem cellsU : Tryz.prog.cellsOf 32 = 1 := by kernel_rfl
theorem cellsI : Tryz.prog.cellsOf 3 = 1 := by kernel_rfl
theorem cellsI6 : Tryz.prog.cellsOf 2 = 1 := by kernel_rfl
theorem cellsF : Tryz.prog.cellsOf 35 = 1 := by kernel_rfl
theorem cellsB : Tryz.prog.cellsOf 4 = 1 := by kernel_rfl
theorem cellsS : Tryz.prog.cellsOf 9 = 1 := by kernel_rfl
theorem cellsId : Tryz.prog.cellsOf 34 = 2 := by kernel_rfl
theorem cellsAn : Tryz.prog.cellsOf 39 = 3 := by kernel_rfl
theorem cellsOp : Tryz.prog.cellsOf 41 = 22 := by kernel_rfl
section
variable {H : Type} {enc : TypeId × Value → H} {w : World} {base : Nat} {spare : Nat → Bool} {held : Bool}
theorem u64_of {n : Nat} {a : Value} {y : DataW H × List MemPlace} (h : DataW.trod enc Tryz.prog w base spare held n 32 [a] = some y) : ∃ c : Int, a = .int .u64 c ∧ 0 ≤ c ∧ c < 18446744073709551616 := by
  obtain ⟨k, e0, _, w0⟩ := DataW.trod_int Tryz.underlying32 h
  simp at e0
  simp [Lit.wf, IntKind.min, IntKind.max, IntKind.signed, IntKind.bits] at w0
  exact ⟨k, e0, by omega, by omega⟩
theorem i64_of {n : Nat} {a : Value} {y : DataW H × List MemPlace} (h : DataW.trod enc Tryz.prog w base spare held n 3 [a] = some y) : ∃ c : Int, a = .int .i64 c ∧ -9223372036854775808 ≤ c ∧ c < 9223372036854775808 := by
  obtain ⟨k, e0, _, w0⟩ := DataW.trod_int Tryz.underlying3 h
  simp at e0
  simp [Lit.wf, IntKind.min, IntKind.max, IntKind.signed, IntKind.bits] at w0
  exact ⟨k, e0, by omega, by omega⟩
theorem i64_of' {n : Nat} {a : Value} {y : DataW H × List MemPlace} (h : DataW.trod enc Tryz.prog w base spare held n 2 [a] = some y) : ∃ c : Int, a = .int .i64 c ∧ -9223372036854775808 ≤ c ∧ c < 9223372036854775808 := by
  obtain ⟨k, e0, _, w0⟩ := DataW.trod_int Tryz.underlying2 h
  simp at e0
  simp [Lit.wf, IntKind.min, IntKind.max, IntKind.signed, IntKind.bits] at w0
  exact ⟨k, e0, by omega, by omega⟩
theorem str_of {n : Nat} {a : Value} {y : DataW H × List MemPlace} (h : DataW.trod enc Tryz.prog w base spare held n 9 [a] = some y) : ∃ s : ByteArray, a = .string s ∧ s.size ≤ 9223372036854775807 := by
  obtain ⟨s, e3, _, w3⟩ := DataW.trod_string Tryz.underlying9 h
  simp at e3
  exact ⟨s, e3, by unfold maxLen at w3; omega⟩
theorem bool_of {n : Nat} {a : Value} {y : DataW H × List MemPlace} (h : DataW.trod enc Tryz.prog w base spare held n 4 [a] = some y) : ∃ b : Bool, a = .bool b := by
  obtain ⟨b, e, _⟩ := DataW.trod_bool Tryz.underlying4 h
  simp at e
  exact ⟨b, e⟩
theorem f64_of {n : Nat} {a : Value} {y : DataW H × List MemPlace} (h : DataW.trod enc Tryz.prog w base spare held n 35 [a] = some y) : ∃ f : Nat, a = .float .f64 f ∧ f < 18446744073709551616 := by
  obtain ⟨f, e, h2⟩ := trod_f64 Tryz.underlying35 h
  simp at e
  exact ⟨f, e, h2⟩
theorem id_of {n : Nat} {a b : Value} {y : DataW H × List MemPlace} (h : DataW.trod enc Tryz.prog w base spare held n 34 [a, b] = some y) : ∃ c k : Int, a = .int .u64 c ∧ b = .int .u64 k ∧ (0 ≤ c ∧ c < 18446744073709551616) ∧ (0 ≤ k ∧ k < 18446744073709551616) := by
  obtain ⟨y0, y1, m, _, _, h0, h1⟩ := trod_struct2 Tryz.underlying34 h
  obtain ⟨c, e0, w0⟩ := u64_of (a := a) (by simpa [cellsU] using h0)
  obtain ⟨k, e1, w1⟩ := u64_of (a := b) (by simpa [cellsU] using h1)
  exact ⟨c, k, e0, e1, w0, w1⟩
theorem an_of {n : Nat} {a b d : Value} {y : DataW H × List MemPlace} (h : DataW.trod enc Tryz.prog w base spare held n 39 [a, b, d] = some y) : ∃ (c k : Int) (f : Bool), a = .int .u64 c ∧ b = .int .u64 k ∧ d = .bool f ∧ (0 ≤ c ∧ c < 18446744073709551616) ∧ (0 ≤ k ∧ k < 18446744073709551616) := by
  obtain ⟨y0, y1, m, _, _, h0, h1⟩ := trod_struct2 Tryz.underlying39 h
  obtain ⟨c, k, e0, e1, w0, w1⟩ := id_of (a := a) (b := b) (by simpa [cellsId] using h0)
  obtain ⟨f, e2⟩ := bool_of (a := d) (by simpa [cellsB] using h1)
  exact ⟨c, k, f, e0, e1, e2, w0, w1⟩
theorem val_of {n : Nat} {a b d e : Value} {y : DataW H × List MemPlace} (h : DataW.trod enc Tryz.prog w base spare held n 37 [a, b, d, e] = some y) : ∃ (k m : Int) (f : Nat) (s : ByteArray), a = .int .i64 k ∧ b = .int .i64 m ∧ d = .float .f64 f ∧ e = .string s ∧ (-9223372036854775808 ≤ k ∧ k < 9223372036854775808) ∧ (-9223372036854775808 ≤ m ∧ m < 9223372036854775808) ∧ f < 18446744073709551616 ∧ s.size ≤ 9223372036854775807 := by
  obtain ⟨y0, y1, y2, y3, m, _, _, h0, h1, h2, h3⟩ := trod_struct4 Tryz.underlying37 h
  obtain ⟨k, e0, w0⟩ := i64_of (a := a) (by simpa [cellsI] using h0)
  obtain ⟨m, e1, w1⟩ := i64_of' (a := b) (by simpa [cellsI6] using h1)
  obtain ⟨f, e2, w2⟩ := f64_of (a := d) (by simpa [cellsF] using h2)
  obtain ⟨s, e3, w3⟩ := str_of (a := e) (by simpa [cellsS] using h3)
  exact ⟨k, m, f, s, e0, e1, e2, e3, w0, w1, w2, w3⟩
end
theorem list22 (l : List Value) (h : l.length = 22) : ∃ c0 c1 c2 c3 c4 c5 c6 c7 c8 c9 c10 c11 c12 c13 c14 c15 c16 c17 c18 c19 c20 c21, l = [c0, c1, c2, c3, c4, c5, c6, c7, c8, c9, c10, c11, c12, c13, c14, c15, c16, c17, c18, c19, c20, c21] := by
  have e : l = (List.range 22).map (fun i => l.getD i undef) := by
    apply List.ext_getElem
    · simp [h]
    · intro i h1 h2
      simp [h1]
  exact ⟨l.getD 0 undef, l.getD 1 undef, l.getD 2 undef, l.getD 3 undef, l.getD 4 undef, l.getD 5 undef, l.getD 6 undef, l.getD 7 undef, l.getD 8 undef, l.getD 9 undef, l.getD 10 undef, l.getD 11 undef, l.getD 12 undef, l.getD 13 undef, l.getD 14 undef, l.getD 15 undef, l.getD 16 undef, l.getD 17 undef, l.getD 18 undef, l.getD 19 undef, l.getD 20 undef, l.getD 21 undef, e⟩
theorem isOp_of {H : Type} {enc : TypeId × Value → H} {w : World} {base b0 : Nat} {spare : Nat → Bool} {held : Bool} {v : Value} {d : DataW H} {p : List MemPlace}
    (hv : Value.okWide Tryz.prog w .any b0 41 v) (h : DataW.Trod enc Tryz.prog w base spare held 41 v d p) : ∃ x : O, v = x.val ∧ x.fits := by
  obtain ⟨cs, rfl, hsz⟩ := okWide_struct Tryz.underlying41 hv
  obtain ⟨c0, c1, c2, c3, c4, c5, c6, c7, c8, c9, c10, c11, c12, c13, c14, c15, c16, c17, c18, c19, c20, c21, hl⟩ := list22 cs.toList (by rw [Array.length_toList, hsz, cellsOp])
  obtain rfl : cs = #[c0, c1, c2, c3, c4, c5, c6, c7, c8, c9, c10, c11, c12, c13, c14, c15, c16, c17, c18, c19, c20, c21] := by apply Array.ext'; exact hl
  clear hl hsz hv
  obtain ⟨fuel, hf⟩ := h
  obtain ⟨xs, n, _, _, _, hlen, hx⟩ := DataW.trod_struct Tryz.underlying41 hf
  have hl : xs.length = 11 := hlen
  clear hlen hf
  have g0 : ∃ y, DataW.trod enc Tryz.prog w base spare held n 34 [c0, c1] = some y := ⟨xs[0], by
    have := hx 0 _ rfl
    rw [List.getElem?_eq_getElem (by omega)] at this
    simpa [cellsId, Value.cells] using this⟩
  have g1 : ∃ y, DataW.trod enc Tryz.prog w base spare held n 3 [c2] = some y := ⟨xs[1], by
    have := hx 1 _ rfl
    rw [List.getElem?_eq_getElem (by omega)] at this
    simpa [cellsI, Value.cells] using this⟩
  have g2 : ∃ y, DataW.trod enc Tryz.prog w base spare held n 32 [c3] = some y := ⟨xs[2], by
    have := hx 2 _ rfl
    rw [List.getElem?_eq_getElem (by omega)] at this
    simpa [cellsU, Value.cells] using this⟩
  have g3 : ∃ y, DataW.trod enc Tryz.prog w base spare held n 34 [c4, c5] = some y := ⟨xs[3], by
    have := hx 3 _ rfl
    rw [List.getElem?_eq_getElem (by omega)] at this
    simpa [cellsId, Value.cells] using this⟩
  have g4 : ∃ y, DataW.trod enc Tryz.prog w base spare held n 34 [c6, c7] = some y := ⟨xs[4], by
    have := hx 4 _ rfl
    rw [List.getElem?_eq_getElem (by omega)] at this
    simpa [cellsId, Value.cells] using this⟩
  have g5 : ∃ y, DataW.trod enc Tryz.prog w base spare held n 9 [c8] = some y := ⟨xs[5], by
    have := hx 5 _ rfl
    rw [List.getElem?_eq_getElem (by omega)] at this
    simpa [cellsS, Value.cells] using this⟩
  have g6 : ∃ y, DataW.trod enc Tryz.prog w base spare held n 37 [c9, c10, c11, c12] = some y := ⟨xs[6], by
    have := hx 6 _ rfl
    rw [List.getElem?_eq_getElem (by omega)] at this
    simpa [cellsVal, Value.cells] using this⟩
  have g7 : ∃ y, DataW.trod enc Tryz.prog w base spare held n 9 [c13] = some y := ⟨xs[7], by
    have := hx 7 _ rfl
    rw [List.getElem?_eq_getElem (by omega)] at this
    simpa [cellsS, Value.cells] using this⟩
  have g8 : ∃ y, DataW.trod enc Tryz.prog w base spare held n 34 [c14, c15] = some y := ⟨xs[8], by
    have := hx 8 _ rfl
    rw [List.getElem?_eq_getElem (by omega)] at this
    simpa [cellsId, Value.cells] using this⟩
  have g9 : ∃ y, DataW.trod enc Tryz.prog w base spare held n 39 [c16, c17, c18] = some y := ⟨xs[9], by
    have := hx 9 _ rfl
    rw [List.getElem?_eq_getElem (by omega)] at this
    simpa [cellsAn, Value.cells] using this⟩
  have g10 : ∃ y, DataW.trod enc Tryz.prog w base spare held n 39 [c19, c20, c21] = some y := ⟨xs[10], by
    have := hx 10 _ rfl
    rw [List.getElem?_eq_getElem (by omega)] at this
    simpa [cellsAn, Value.cells] using this⟩
  obtain ⟨y0, g0⟩ := g0
  obtain ⟨c, k, rfl, rfl, w0a, w0b⟩ := id_of g0
  obtain ⟨y1, g1⟩ := g1
  obtain ⟨kind, rfl, w1⟩ := i64_of g1
  obtain ⟨y2, g2⟩ := g2
  obtain ⟨st, rfl, w2⟩ := u64_of g2
  obtain ⟨y3, g3⟩ := g3
  obtain ⟨lc, lk, rfl, rfl, w3a, w3b⟩ := id_of g3
  obtain ⟨y4, g4⟩ := g4
  obtain ⟨rc, rk, rfl, rfl, w4a, w4b⟩ := id_of g4
  obtain ⟨y5, g5⟩ := g5
  obtain ⟨tx, rfl, w5⟩ := str_of g5
  obtain ⟨y6, g6⟩ := g6
  obtain ⟨vk, vn, vf, vs, rfl, rfl, rfl, rfl, wk, wn, wf, ws⟩ := val_of g6
  obtain ⟨y7, g7⟩ := g7
  obtain ⟨ky, rfl, w7⟩ := str_of g7
  obtain ⟨y8, g8⟩ := g8
  obtain ⟨pc, pk, rfl, rfl, w8a, w8b⟩ := id_of g8
  obtain ⟨y9, g9⟩ := g9
  obtain ⟨fc, fk, fa, rfl, rfl, rfl, w9a, w9b⟩ := an_of g9
  obtain ⟨y10, g10⟩ := g10
  obtain ⟨tc, tk, ta, rfl, rfl, rfl, w10a, w10b⟩ := an_of g10
  exact ⟨⟨c, k, kind, st, lc, lk, rc, rk, tx, vk, vn, vf, vs, ky, pc, pk, fc, fk, fa, tc, tk, ta⟩, rfl, ⟨w0a, w0b, w1, w2, w3a, w3b, w4a, w4b, w8a, w8b, w9a, w9b, w10a, w10b, wk, wn, wf⟩⟩
end Go.Proofs.YtodpdcflbnomgaaGreat

/- Arguments that are slices of ranges. -/
namespace Go.Proofs.YtodpdcflbnomgaaGreat
open Go.ChangeShapes Go.WideShapes Go.ChangeAt Go.RowKit Go.Joins
set_option linter.unusedVariables false
set_option linter.unusedSimpArgs false
set_option maxRecDepth 100000
theorem cellsOfR : Tryz.prog.cellsOf 47 = 3 := by kernel_rfl
def u64in (x : Int) : Prop := 0 ≤ x ∧ x ≤ 18446744073709551615
set_option maxHeartbeats 1000000 in
theorem argId_of {H : Type} {enc : TypeId × Value → H} {w : World} {base b0 : Nat} {spare : Nat → Bool} {held : Bool} {v : Value} {d : DataW H} {p : List MemPlace}
    (hv : Value.okWide Tryz.prog w .any b0 34 v) (h : DataW.Trod enc Tryz.prog w base spare held 34 v d p) : ∃ c k, v = idV c k ∧ u64in c ∧ u64in k := by
  obtain ⟨v0, v1, y0, y1, m, rfl, rfl, rfl, h0, h1⟩ := open_agg2 Tryz.underlying34 (by kernel_rfl) (by kernel_rfl) hv h
  obtain ⟨k, e0, _, w0⟩ := DataW.trod_int Tryz.underlying32 h0
  obtain ⟨n, e1, _, w1⟩ := DataW.trod_int Tryz.underlying32 h1
  simp at e0 e1
  subst e0 e1
  simp [Lit.wf, IntKind.min, IntKind.max, IntKind.signed, IntKind.bits] at w0 w1
  exact ⟨k, n, rfl, by unfold u64in; omega, by unfold u64in; omega⟩
def fitsR (r : Rg) : Prop := u64in r.c ∧ u64in r.f ∧ u64in r.t
set_option maxHeartbeats 1000000 in
theorem argR_of {H : Type} {enc : TypeId × Value → H} {w : World} {held : Bool} {fuel : Nat} {cs : List Value} {x : DataW H × List MemPlace}
    (h : DataW.trod enc Tryz.prog w 0 (fun _ => true) held fuel 47 cs = some x) : ∃ r : Rg, cs = cellR r ∧ fitsR r := by
  obtain ⟨xs, n, _, hx, hl, hxl, hf⟩ := DataW.trod_struct Tryz.underlying47 h
  rw [cellsOfR] at hl
  match xs, hxl, cs, hl with
  | [y0, y1, y2], _, [v0, v1, v2], _ =>
    have g0 : DataW.trod enc Tryz.prog w 0 (fun _ => true) held n 32 [v0] = some y0 := hf 0 _ rfl
    have g1 : DataW.trod enc Tryz.prog w 0 (fun _ => true) held n 32 [v1] = some y1 := hf 1 _ rfl
    have g2 : DataW.trod enc Tryz.prog w 0 (fun _ => true) held n 32 [v2] = some y2 := hf 2 _ rfl
    obtain ⟨k0, e0, _, w0⟩ := DataW.trod_int Tryz.underlying32 g0
    obtain ⟨k1, e1, _, w1⟩ := DataW.trod_int Tryz.underlying32 g1
    obtain ⟨k2, e2, _, w2⟩ := DataW.trod_int Tryz.underlying32 g2
    simp at e0 e1 e2
    subst e0 e1 e2
    simp [Lit.wf, IntKind.min, IntKind.max, IntKind.signed, IntKind.bits] at w0 w1 w2
    exact ⟨⟨k0, k1, k2⟩, rfl, by unfold fitsR u64in; simp only; omega⟩
set_option maxHeartbeats 1000000 in
theorem argsR_of {H : Type} {enc : TypeId × Value → H} {w : World} {held : Bool} {fuel n cap : Nat} {ao : Option Addr} {x : DataW H × List MemPlace}
    (h : DataW.trod enc Tryz.prog w 0 (fun _ => true) held fuel 29 (Value.slice ao n cap).cells.toList = some x) :
    ∃ l : List Rg, n = l.length ∧ SlR w (.slice ao n cap) l ∧ ∀ r ∈ l, fitsR r := by
  rcases Deep.open_slice Tryz.underlying29 h with ⟨hcs, hx⟩ | ⟨a, len, c, m, k, D, Pl, hcs, _, hl, hm, hmm, hx, hel⟩
  · simp [Value.cells] at hcs
    obtain ⟨rfl, rfl, rfl⟩ := hcs
    exact ⟨[], rfl, SlR.nil w, (by intro x hx; cases hx)⟩
  · simp [Value.cells] at hcs
    obtain ⟨rfl, rfl, rfl⟩ := hcs
    simp only [if_true] at hmm
    have each : ∀ i, i < n → ∃ s : Rg, fitsR s ∧ ∀ j, j < 3 → w.cell? ((a.add (i * 3)).add j) = (cellR s)[j]? := by
      intro i hi
      obtain ⟨cs', h1, h2⟩ := hel i (by omega)
      rw [cellsOfR] at h1
      obtain ⟨_, _, hc⟩ := World.cells?_some h1
      obtain ⟨s, hs, hok⟩ := argR_of h2
      exact ⟨s, hok, fun j hj => by rw [hc j hj, hs]⟩
    obtain ⟨f, hf⟩ := Deep.choose_lt each
    have hcap : cap ≤ 9223372036854775807 := by unfold maxLen at hm; omega
    refine ⟨(List.range n).map f, by simp, ⟨some a, cap, by simp, (by intro h; cases h), by simpa using hl, hcap, ?_⟩, ?_⟩
    · by_cases hn : n = 0
      · subst hn; exact .inl rfl
      · have h0 : w.cell? ((a.add (0 * 3)).add 0) = some (.int .u64 (f 0).c) := (hf 0 (by omega)).2 0 (by decide)
        obtain ⟨b, off, rfl, _⟩ : ∃ b off, a = ⟨b, off, none⟩ ∧ True := by
          obtain ⟨b, off, spot⟩ := a
          cases spot with
          | none => exact ⟨b, off, rfl, trivial⟩
          | some s => exfalso; clear hf each hel h hx; simp [World.cell?, Addr.add] at h0; split at h0 <;> simp_all
        refine .inr ⟨b, off, rfl, fun t u hu => ?_⟩
        have hlt : t < n * 3 := by
          have := (List.getElem?_eq_some_iff.1 hu).1
          rw [cellsR_len] at this; simpa using this
        have hdv : t / 3 < n := by omega
        have h3 : t % 3 < 3 := Nat.mod_lt _ (by omega)
        have hc := (hf (t / 3) hdv).2 (t % 3) h3
        rw [addr_addR, addr_addR, Nat.add_assoc, show t / 3 * 3 + t % 3 = t from by omega] at hc
        rw [hc]
        obtain ⟨a0, a1, a2⟩ := cellsR_get ((List.range n).map f) (t / 3) (by simpa using hdv)
        simp only [List.getElem_map, List.getElem_range] at a0 a1 a2
        have hm2 : t = t / 3 * 3 + t % 3 := by omega
        rw [hm2] at hu
        generalize t / 3 = q at *
        generalize t % 3 = r at *
        rcases (by omega : r = 0 ∨ r = 1 ∨ r = 2) with rfl | rfl | rfl
        · rw [Nat.add_zero, a0] at hu; exact hu
        · rw [a1] at hu; exact hu
        · rw [a2] at hu; exact hu
    · intro y hy
      obtain ⟨i, hi, rfl⟩ := List.mem_map.1 hy
      exact (hf i (List.mem_range.1 hi)).1
end Go.Proofs.YtodpdcflbnomgaaGreat
