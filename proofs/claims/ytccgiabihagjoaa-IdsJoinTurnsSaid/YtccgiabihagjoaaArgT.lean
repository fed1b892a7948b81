/- Arguments that are slices of turns. -/
import Derived.Test.YtccgiabihagjoaaRowT
import Derived.Test.YtccgiabihagjoaaArgR
import Derived.Deep.Slices
import Derived.ChangeMaps5
import Derived.SizedLaws
import Derived.Lib.SmallJoins
namespace Go.Proofs.Ytccgiabihagjoaa
open Go.ChangeShapes Go.WideShapes Go.ChangeAt Go.RowKit Go.Joins
set_option linter.unusedVariables false
set_option linter.unusedSimpArgs false
set_option maxRecDepth 100000
theorem cellsOfT : Try.prog.cellsOf 39 = 4 := by kernel_rfl

def fitsT (r : Tn) : Prop := u64in r.c ∧ u64in r.f ∧ u64in r.t ∧ u64in r.n
set_option maxHeartbeats 1000000 in
theorem argT_of {H : Type} {enc : TypeId × Value → H} {w : World} {held : Bool} {fuel : Nat} {cs : List Value} {x : DataW H × List MemPlace}
    (h : DataW.trod enc Try.prog w 0 (fun _ => true) held fuel 39 cs = some x) : ∃ r : Tn, cs = cellT r ∧ fitsT r := by
  obtain ⟨xs, n, _, hx, hl, hxl, hf⟩ := DataW.trod_struct Try.underlying39 h
  rw [cellsOfT] at hl
  match xs, hxl, cs, hl with
  | [y0, y1, y2, y3], _, [v0, v1, v2, v3], _ =>
    have g0 : DataW.trod enc Try.prog w 0 (fun _ => true) held n 23 [v0] = some y0 := hf 0 _ rfl
    have g1 : DataW.trod enc Try.prog w 0 (fun _ => true) held n 23 [v1] = some y1 := hf 1 _ rfl
    have g2 : DataW.trod enc Try.prog w 0 (fun _ => true) held n 23 [v2] = some y2 := hf 2 _ rfl
    have g3 : DataW.trod enc Try.prog w 0 (fun _ => true) held n 23 [v3] = some y3 := hf 3 _ rfl
    obtain ⟨k0, e0, _, w0⟩ := DataW.trod_int Try.underlying23 g0
    obtain ⟨k1, e1, _, w1⟩ := DataW.trod_int Try.underlying23 g1
    obtain ⟨k2, e2, _, w2⟩ := DataW.trod_int Try.underlying23 g2
    obtain ⟨k3, e3, _, w3⟩ := DataW.trod_int Try.underlying23 g3
    simp at e0 e1 e2 e3
    subst e0 e1 e2 e3
    simp [Lit.wf, IntKind.min, IntKind.max, IntKind.signed, IntKind.bits] at w0 w1 w2 w3
    exact ⟨⟨k0, k1, k2, k3⟩, rfl, by unfold fitsT u64in; simp only; omega⟩
set_option maxHeartbeats 1000000 in
theorem argsT_of {H : Type} {enc : TypeId × Value → H} {w : World} {held : Bool} {fuel n cap : Nat} {ao : Option Addr} {x : DataW H × List MemPlace}
    (h : DataW.trod enc Try.prog w 0 (fun _ => true) held fuel 22 (Value.slice ao n cap).cells.toList = some x) :
    ∃ l : List Tn, n = l.length ∧ SlT w (.slice ao n cap) l ∧ ∀ r ∈ l, fitsT r := by
  rcases Deep.open_slice Try.underlying22 h with ⟨hcs, hx⟩ | ⟨a, len, c, m, k, D, Pl, hcs, _, hl, hm, hmm, hx, hel⟩
  · simp [Value.cells] at hcs
    obtain ⟨rfl, rfl, rfl⟩ := hcs
    exact ⟨[], rfl, SlT.nil w, (by intro x hx; cases hx)⟩
  · simp [Value.cells] at hcs
    obtain ⟨rfl, rfl, rfl⟩ := hcs
    simp only [if_true] at hmm
    have each : ∀ i, i < n → ∃ s : Tn, fitsT s ∧ ∀ j, j < 4 → w.cell? ((a.add (i * 4)).add j) = (cellT s)[j]? := by
      intro i hi
      obtain ⟨cs', h1, h2⟩ := hel i (by omega)
      rw [cellsOfT] at h1
      obtain ⟨_, _, hc⟩ := World.cells?_some h1
      obtain ⟨s, hs, hok⟩ := argT_of h2
      exact ⟨s, hok, fun j hj => by rw [hc j hj, hs]⟩
    obtain ⟨f, hf⟩ := Deep.choose_lt each
    have hcap : cap ≤ 9223372036854775807 := by unfold maxLen at hm; omega
    refine ⟨(List.range n).map f, by simp, ⟨some a, cap, by simp, (by intro h; cases h), by simpa using hl, hcap, ?_⟩, ?_⟩
    · by_cases hn : n = 0
      · subst hn; exact .inl rfl
      · have h0 : w.cell? ((a.add (0 * 4)).add 0) = some (.int .u64 (f 0).c) := (hf 0 (by omega)).2 0 (by decide)
        obtain ⟨b, off, rfl, _⟩ : ∃ b off, a = ⟨b, off, none⟩ ∧ True := by
          obtain ⟨b, off, spot⟩ := a
          cases spot with
          | none => exact ⟨b, off, rfl, trivial⟩
          | some s => exfalso; clear hf each hel h hx; simp [World.cell?, Addr.add] at h0; split at h0 <;> simp_all
        refine .inr ⟨b, off, rfl, fun t u hu => ?_⟩
        have hlt : t < n * 4 := by
          have := (List.getElem?_eq_some_iff.1 hu).1
          rw [cellsT_len] at this; simpa using this
        have hdv : t / 4 < n := by omega
        have h3 : t % 4 < 4 := Nat.mod_lt _ (by omega)
        have hc := (hf (t / 4) hdv).2 (t % 4) h3
        rw [addr_addT, addr_addT, Nat.add_assoc, show t / 4 * 4 + t % 4 = t from by omega] at hc
        rw [hc]
        obtain ⟨a0, a1, a2, a3⟩ := cellsT_get ((List.range n).map f) (t / 4) (by simpa using hdv)
        simp only [List.getElem_map, List.getElem_range] at a0 a1 a2 a3
        have hm2 : t = t / 4 * 4 + t % 4 := by omega
        rw [hm2] at hu
        generalize t / 4 = q at *
        generalize t % 4 = r at *
        rcases (by omega : r = 0 ∨ r = 1 ∨ r = 2 ∨ r = 3) with rfl | rfl | rfl | rfl
        · rw [Nat.add_zero, a0] at hu; exact hu
        · rw [a1] at hu; exact hu
        · rw [a2] at hu; exact hu
        · rw [a3] at hu; exact hu
    · intro y hy
      obtain ⟨i, hi, rfl⟩ := List.mem_map.1 hy
      exact (hf i (List.mem_range.1 hi)).1
end Go.Proofs.Ytccgiabihagjoaa
