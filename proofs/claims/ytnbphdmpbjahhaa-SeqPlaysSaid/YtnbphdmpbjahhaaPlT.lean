/- quirelaw9: arguments that are scripts: slices of steps. -/
import Derived.Test.YtnbphdmpbjahhaaPart9
import Derived.Deep.Slices
import Derived.ChangeMaps5
import Derived.SizedLaws
import Derived.Lib.SmallJoins
namespace Go.Proofs.Ytnbphdmpbjahhaa
open Go.ChangeShapes Go.WideShapes Go.ChangeAt Go.RowKit Go.Joins
set_option linter.unusedVariables false
set_option linter.unusedSimpArgs false
set_option maxRecDepth 100000

structure StU where
  what : Int
  n : Int
  u : Un
instance : Inhabited StU := ⟨⟨0, 0, ⟨0, 0, 0, 0, 0, 0⟩⟩⟩
theorem cellsOfSt : Try.prog.cellsOf 37 = 8 := by kernel_rfl
theorem cellsOfUn : Try.prog.cellsOf 35 = 6 := by kernel_rfl
theorem cellsOfId : Try.prog.cellsOf 33 = 2 := by kernel_rfl
def cellSt (s : StU) : List Value := [.int .i64 s.what, .int .i64 s.n, .int .u64 s.u.c, .int .u64 s.u.k, .int .u64 s.u.lc, .int .u64 s.u.lk, .int .u64 s.u.rc, .int .u64 s.u.rk]
structure StU.fits (s : StU) : Prop where
  what : -9223372036854775808 ≤ s.what ∧ s.what ≤ 9223372036854775807
  n : -9223372036854775808 ≤ s.n ∧ s.n ≤ 9223372036854775807
  u : s.u.ok
set_option maxHeartbeats 1000000 in
theorem argI_of {H : Type} {enc : TypeId × Value → H} {w : World} {held : Bool} {fuel : Nat} {cs : List Value} {x : DataW H × List MemPlace}
    (h : DataW.trod enc Try.prog w 0 (fun _ => true) held fuel 33 cs = some x) : ∃ c k : Int, cs = [.int .u64 c, .int .u64 k] ∧ (0 ≤ c ∧ c < 18446744073709551616) ∧ 0 ≤ k ∧ k < 18446744073709551616 := by
  obtain ⟨xs, n, _, hx, hl, hxl, hf⟩ := DataW.trod_struct Try.underlying33 h
  rw [cellsOfId] at hl
  match xs, hxl, cs, hl with
  | [y0, y1], _, [v0, v1], _ =>
    have g0 : DataW.trod enc Try.prog w 0 (fun _ => true) held n 31 [v0] = some y0 := hf 0 _ rfl
    have g1 : DataW.trod enc Try.prog w 0 (fun _ => true) held n 31 [v1] = some y1 := hf 1 _ rfl
    obtain ⟨k0, e0, _, w0⟩ := DataW.trod_int Try.underlying31 g0
    obtain ⟨k1, e1, _, w1⟩ := DataW.trod_int Try.underlying31 g1
    simp at e0 e1
    subst e0 e1
    simp [Lit.wf, IntKind.min, IntKind.max, IntKind.signed, IntKind.bits] at w0 w1
    exact ⟨k0, k1, rfl, by omega, by omega⟩
set_option maxHeartbeats 1000000 in
theorem argU_of {H : Type} {enc : TypeId × Value → H} {w : World} {held : Bool} {fuel : Nat} {cs : List Value} {x : DataW H × List MemPlace}
    (h : DataW.trod enc Try.prog w 0 (fun _ => true) held fuel 35 cs = some x) : ∃ u : Un, cs = [.int .u64 u.c, .int .u64 u.k, .int .u64 u.lc, .int .u64 u.lk, .int .u64 u.rc, .int .u64 u.rk] ∧ u.ok := by
  obtain ⟨xs, n, _, hx, hl, hxl, hf⟩ := DataW.trod_struct Try.underlying35 h
  rw [cellsOfUn] at hl
  match xs, hxl, cs, hl with
  | [y0, y1, y2], _, [v0, v1, v2, v3, v4, v5], _ =>
    have g0 : DataW.trod enc Try.prog w 0 (fun _ => true) held n 33 [v0, v1] = some y0 := hf 0 _ rfl
    have g1 : DataW.trod enc Try.prog w 0 (fun _ => true) held n 33 [v2, v3] = some y1 := hf 1 _ rfl
    have g2 : DataW.trod enc Try.prog w 0 (fun _ => true) held n 33 [v4, v5] = some y2 := hf 2 _ rfl
    obtain ⟨c0, k0, e0, a0, b0⟩ := argI_of g0
    obtain ⟨c1, k1, e1, a1, b1⟩ := argI_of g1
    obtain ⟨c2, k2, e2, a2, b2⟩ := argI_of g2
    simp at e0 e1 e2
    obtain ⟨rfl, rfl⟩ := e0
    obtain ⟨rfl, rfl⟩ := e1
    obtain ⟨rfl, rfl⟩ := e2
    exact ⟨⟨c0, k0, c1, k1, c2, k2⟩, rfl, ⟨a0.1, b0, a1.1, b1, a2.1, b2⟩⟩
set_option maxHeartbeats 1000000 in
theorem argSt_of {H : Type} {enc : TypeId × Value → H} {w : World} {held : Bool} {fuel : Nat} {cs : List Value} {x : DataW H × List MemPlace}
    (h : DataW.trod enc Try.prog w 0 (fun _ => true) held fuel 37 cs = some x) : ∃ s : StU, cs = cellSt s ∧ s.fits := by
  obtain ⟨xs, n, _, hx, hl, hxl, hf⟩ := DataW.trod_struct Try.underlying37 h
  rw [cellsOfSt] at hl
  match xs, hxl, cs, hl with
  | [y0, y1, y2], _, [v0, v1, v2, v3, v4, v5, v6, v7], _ =>
    have g0 : DataW.trod enc Try.prog w 0 (fun _ => true) held n 3 [v0] = some y0 := hf 0 _ rfl
    have g1 : DataW.trod enc Try.prog w 0 (fun _ => true) held n 3 [v1] = some y1 := hf 1 _ rfl
    have g2 : DataW.trod enc Try.prog w 0 (fun _ => true) held n 35 [v2, v3, v4, v5, v6, v7] = some y2 := hf 2 _ rfl
    obtain ⟨k0, e0, _, w0⟩ := DataW.trod_int Try.underlying3 g0
    obtain ⟨k1, e1, _, w1⟩ := DataW.trod_int Try.underlying3 g1
    obtain ⟨u, e2, hu⟩ := argU_of g2
    simp at e0 e1 e2
    subst e0 e1
    obtain ⟨rfl, rfl, rfl, rfl, rfl, rfl⟩ := e2
    simp [Lit.wf, IntKind.min, IntKind.max, IntKind.signed, IntKind.bits] at w0 w1
    exact ⟨⟨k0, k1, u⟩, rfl, ⟨by simp only; omega, by simp only; omega, hu⟩⟩
/-- A script that lies in w. -/
def StepsU (w : World) (ao : Option Addr) (l : List StU) : Prop := ∀ i (h : i < l.length), ∃ g o, ao = some ⟨g, o, none⟩ ∧ ∀ f v, (cellSt l[i])[f]? = some v → w.cell? ⟨g, o + i * 8 + f, none⟩ = some v
theorem addr_addSt (g o j : Nat) : (⟨g, o, none⟩ : Addr).add j = ⟨g, o + j, none⟩ := by
  unfold Addr.add
  split <;> simp_all
theorem StepsU.touch {w W : World} {ao : Option Addr} {l : List StU} (h : StepsU w ao l) (t : Touch (fun _ => False) w W) : StepsU W ao l := fun i hi => by
  obtain ⟨g, o, e, hc⟩ := h i hi
  refine ⟨g, o, e, fun f v hv => ?_⟩
  have := hc f v hv
  rw [World.cell?_of_block (t.block _ (World.block_lt_of_cell? _ _ this) id)]; exact this
set_option maxHeartbeats 1000000 in
theorem stepsU_of {H : Type} {enc : TypeId × Value → H} {w : World} {held : Bool} {fuel n cap : Nat} {ao : Option Addr} {x : DataW H × List MemPlace}
    (h : DataW.trod enc Try.prog w 0 (fun _ => true) held fuel 22 (Value.slice ao n cap).cells.toList = some x) :
    ∃ l : List StU, n = l.length ∧ StepsU w ao l ∧ (∀ s ∈ l, s.fits) ∧ n ≤ cap ∧ cap ≤ maxLen := by
  rcases Deep.open_slice Try.underlying22 h with ⟨hcs, hx⟩ | ⟨a, len, c, m, k, D, Pl, hcs, _, hl, hm, hmm, hx, hel⟩
  · simp [Value.cells] at hcs
    obtain ⟨rfl, rfl, rfl⟩ := hcs
    exact ⟨[], rfl, fun i hi => absurd hi (Nat.not_lt_zero _), (by intro x hx; cases hx), Nat.le_refl _, Nat.zero_le _⟩
  · simp [Value.cells] at hcs
    obtain ⟨rfl, rfl, rfl⟩ := hcs
    simp only [if_true] at hmm
    have each : ∀ i, i < n → ∃ s : StU, s.fits ∧ ∀ j, j < 8 → w.cell? ((a.add (i * 8)).add j) = (cellSt s)[j]? := by
      intro i hi
      obtain ⟨cs', h1, h2⟩ := hel i (by omega)
      rw [cellsOfSt] at h1
      obtain ⟨_, _, hc⟩ := World.cells?_some h1
      obtain ⟨s, hs, hok⟩ := argSt_of h2
      exact ⟨s, hok, fun j hj => by rw [hc j hj, hs]⟩
    obtain ⟨f, hf⟩ := Deep.choose_lt each
    refine ⟨(List.range n).map f, by simp, fun i hi => ?_, ?_, hl, hm⟩
    · have hi' : i < n := by simpa using hi
      have h0 : w.cell? ((a.add (0 * 8)).add 0) = some (.int .i64 (f 0).what) := (hf 0 (by omega)).2 0 (by decide)
      obtain ⟨b, off, rfl, _⟩ : ∃ b off, a = ⟨b, off, none⟩ ∧ True := by
        obtain ⟨b, off, spot⟩ := a
        cases spot with
        | none => exact ⟨b, off, rfl, trivial⟩
        | some s => exfalso; clear hf each hel h hx; simp [World.cell?, Addr.add] at h0; split at h0 <;> simp_all
      refine ⟨b, off, rfl, fun t v hv => ?_⟩
      have hlt : t < 8 := (List.getElem?_eq_some_iff.1 hv).1
      have hc := (hf i hi').2 t hlt
      rw [addr_addSt, addr_addSt] at hc
      rw [hc]
      simpa using hv
    · intro y hy
      obtain ⟨i, hi, rfl⟩ := List.mem_map.1 hy
      exact (hf i (List.mem_range.1 hi)).1
end Go.Proofs.Ytnbphdmpbjahhaa
