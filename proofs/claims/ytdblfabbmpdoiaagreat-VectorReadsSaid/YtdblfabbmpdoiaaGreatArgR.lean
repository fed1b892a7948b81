/- Arguments that are slices of ranges. -/
import Derived.Test.YtdblfabbmpdoiaaGreatRowR
import Derived.Deep.Slices
import Derived.ChangeMaps5
import Derived.SizedLaws
import Derived.Lib.SmallJoins
namespace Go.Proofs.YtdblfabbmpdoiaaGreat
open Go.ChangeShapes Go.WideShapes Go.ChangeAt Go.RowKit Go.Joins
set_option linter.unusedVariables false
set_option linter.unusedSimpArgs false
set_option maxRecDepth 100000
theorem cellsOfR : Tryz.prog.cellsOf 55 = 3 := by kernel_rfl
def u64in (x : Int) : Prop := 0 ≤ x ∧ x ≤ 18446744073709551615
set_option maxHeartbeats 1000000 in
theorem argId_of {H : Type} {enc : TypeId × Value → H} {w : World} {base b0 : Nat} {spare : Nat → Bool} {held : Bool} {v : Value} {d : DataW H} {p : List MemPlace}
    (hv : Value.okWide Tryz.prog w .any b0 58 v) (h : DataW.Trod enc Tryz.prog w base spare held 58 v d p) : ∃ c k, v = idV c k ∧ u64in c ∧ u64in k := by
  obtain ⟨v0, v1, y0, y1, m, rfl, rfl, rfl, h0, h1⟩ := open_agg2 Tryz.underlying58 (by kernel_rfl) (by kernel_rfl) hv h
  obtain ⟨k, e0, _, w0⟩ := DataW.trod_int Tryz.underlying48 h0
  obtain ⟨n, e1, _, w1⟩ := DataW.trod_int Tryz.underlying48 h1
  simp at e0 e1
  subst e0 e1
  simp [Lit.wf, IntKind.min, IntKind.max, IntKind.signed, IntKind.bits] at w0 w1
  exact ⟨k, n, rfl, by unfold u64in; omega, by unfold u64in; omega⟩
def fitsR (r : Rg) : Prop := u64in r.c ∧ u64in r.f ∧ u64in r.t
set_option maxHeartbeats 1000000 in
theorem argR_of {H : Type} {enc : TypeId × Value → H} {w : World} {held : Bool} {fuel : Nat} {cs : List Value} {x : DataW H × List MemPlace}
    (h : DataW.trod enc Tryz.prog w 0 (fun _ => true) held fuel 55 cs = some x) : ∃ r : Rg, cs = cellR r ∧ fitsR r := by
  obtain ⟨xs, n, _, hx, hl, hxl, hf⟩ := DataW.trod_struct Tryz.underlying55 h
  rw [cellsOfR] at hl
  match xs, hxl, cs, hl with
  | [y0, y1, y2], _, [v0, v1, v2], _ =>
    have g0 : DataW.trod enc Tryz.prog w 0 (fun _ => true) held n 48 [v0] = some y0 := hf 0 _ rfl
    have g1 : DataW.trod enc Tryz.prog w 0 (fun _ => true) held n 48 [v1] = some y1 := hf 1 _ rfl
    have g2 : DataW.trod enc Tryz.prog w 0 (fun _ => true) held n 48 [v2] = some y2 := hf 2 _ rfl
    obtain ⟨k0, e0, _, w0⟩ := DataW.trod_int Tryz.underlying48 g0
    obtain ⟨k1, e1, _, w1⟩ := DataW.trod_int Tryz.underlying48 g1
    obtain ⟨k2, e2, _, w2⟩ := DataW.trod_int Tryz.underlying48 g2
    simp at e0 e1 e2
    subst e0 e1 e2
    simp [Lit.wf, IntKind.min, IntKind.max, IntKind.signed, IntKind.bits] at w0 w1 w2
    exact ⟨⟨k0, k1, k2⟩, rfl, by unfold fitsR u64in; simp only; omega⟩
set_option maxHeartbeats 1000000 in
theorem argsR_of {H : Type} {enc : TypeId × Value → H} {w : World} {held : Bool} {fuel n cap : Nat} {ao : Option Addr} {x : DataW H × List MemPlace}
    (h : DataW.trod enc Tryz.prog w 0 (fun _ => true) held fuel 51 (Value.slice ao n cap).cells.toList = some x) :
    ∃ l : List Rg, n = l.length ∧ SlR w (.slice ao n cap) l ∧ ∀ r ∈ l, fitsR r := by
  rcases Deep.open_slice Tryz.underlying51 h with ⟨hcs, hx⟩ | ⟨a, len, c, m, k, D, Pl, hcs, _, hl, hm, hmm, hx, hel⟩
  · simp [Value.cells] at hcs
    obtain ⟨rfl, rfl, rfl⟩ := hcs
    exact ⟨[], rfl, SlR.nil w, (by intro x hx; cases hx)⟩
  · simp [Value.cells] at hcs
    obtain ⟨rfl, rfl, rfl⟩ := hcs
    simp only [if_true] at hmm
    have each : ∀ i, i < n → ∃ s : Rg, fitsR s ∧ ∀ j, j < 3 → w.cell? ((a.add (i * 3)).add j) = (cellR s)[j]? := by
      intro i hi
      obtain ⟨cs', h1, h2⟩ := hel i (by omega)
      rw [cellsOfR] at h1
      obtain ⟨_, _, hc⟩ := World.cells?_some h1
      obtain ⟨s, hs, hok⟩ := argR_of h2
      exact ⟨s, hok, fun j hj => by rw [hc j hj, hs]⟩
    obtain ⟨f, hf⟩ := Deep.choose_lt each
    have hcap : cap ≤ 9223372036854775807 := by unfold maxLen at hm; omega
    refine ⟨(List.range n).map f, by simp, ⟨some a, cap, by simp, (by intro h; cases h), by simpa using hl, hcap, ?_⟩, ?_⟩
    · by_cases hn : n = 0
      · subst hn; exact .inl rfl
      · have h0 : w.cell? ((a.add (0 * 3)).add 0) = some (.int .u64 (f 0).c) := (hf 0 (by omega)).2 0 (by decide)
        obtain ⟨b, off, rfl, _⟩ : ∃ b off, a = ⟨b, off, none⟩ ∧ True := by
          obtain ⟨b, off, spot⟩ := a
          cases spot with
          | none => exact ⟨b, off, rfl, trivial⟩
          | some s => exfalso; clear hf each hel h hx; simp [World.cell?, Addr.add] at h0; split at h0 <;> simp_all
        refine .inr ⟨b, off, rfl, fun t u hu => ?_⟩
        have hlt : t < n * 3 := by
          have := (List.getElem?_eq_some_iff.1 hu).1
          rw [cellsR_len] at this; simpa using this
        have hdv : t / 3 < n := by omega
        have h3 : t % 3 < 3 := Nat.mod_lt _ (by omega)
        have hc := (hf (t / 3) hdv).2 (t % 3) h3
        rw [addr_addR, addr_addR, Nat.add_assoc, show t / 3 * 3 + t % 3 = t from by omega] at hc
        rw [hc]
        obtain ⟨a0, a1, a2⟩ := cellsR_get ((List.range n).map f) (t / 3) (by simpa using hdv)
        simp only [List.getElem_map, List.getElem_range] at a0 a1 a2
        have hm2 : t = t / 3 * 3 + t % 3 := by omega
        rw [hm2] at hu
        generalize t / 3 = q at *
        generalize t % 3 = r at *
        rcases (by omega : r = 0 ∨ r = 1 ∨ r = 2) with rfl | rfl | rfl
        · rw [Nat.add_zero, a0] at hu; exact hu
        · rw [a1] at hu; exact hu
        · rw [a2] at hu; exact hu
    · intro y hy
      obtain ⟨i, hi, rfl⟩ := List.mem_map.1 hy
      exact (hf i (List.mem_range.1 hi)).1
end Go.Proofs.YtdblfabbmpdoiaaGreat
