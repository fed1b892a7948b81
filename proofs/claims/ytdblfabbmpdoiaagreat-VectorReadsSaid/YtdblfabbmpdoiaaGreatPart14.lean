/- Arguments that are slices of clocks. -/
import Derived.Test.YtdblfabbmpdoiaaGreatRowC
import Derived.Test.YtdblfabbmpdoiaaGreatArgR
import Derived.Deep.Slices
import Derived.ChangeMaps5
import Derived.SizedLaws
import Derived.Lib.SmallJoins
import Derived.Test.YtdblfabbmpdoiaaGreatPart8
import Derived.Test.YtdblfabbmpdoiaaGreatProg
import Derived.ProofKit
import Derived.OpenShut
namespace Go.Proofs.YtdblfabbmpdoiaaGreat
open Go.ChangeShapes Go.WideShapes Go.ChangeAt Go.RowKit Go.Joins
set_option linter.unusedVariables false
set_option linter.unusedSimpArgs false
set_option maxRecDepth 100000
theorem cellsOfC : Tryz.prog.cellsOf 50 = 2 := by kernel_rfl

def fitsC (r : Ck) : Prop := u64in r.c ∧ u64in r.k
set_option maxHeartbeats 1000000 in
theorem argC_of {H : Type} {enc : TypeId × Value → H} {w : World} {held : Bool} {fuel : Nat} {cs : List Value} {x : DataW H × List MemPlace}
    (h : DataW.trod enc Tryz.prog w 0 (fun _ => true) held fuel 50 cs = some x) : ∃ r : Ck, cs = cellC r ∧ fitsC r := by
  obtain ⟨xs, n, _, hx, hl, hxl, hf⟩ := DataW.trod_struct Tryz.underlying50 h
  rw [cellsOfC] at hl
  match xs, hxl, cs, hl with
  | [y0, y1], _, [v0, v1], _ =>
    have g0 : DataW.trod enc Tryz.prog w 0 (fun _ => true) held n 48 [v0] = some y0 := hf 0 _ rfl
    have g1 : DataW.trod enc Tryz.prog w 0 (fun _ => true) held n 48 [v1] = some y1 := hf 1 _ rfl
    obtain ⟨k0, e0, _, w0⟩ := DataW.trod_int Tryz.underlying48 g0
    obtain ⟨k1, e1, _, w1⟩ := DataW.trod_int Tryz.underlying48 g1
    simp at e0 e1
    subst e0 e1
    simp [Lit.wf, IntKind.min, IntKind.max, IntKind.signed, IntKind.bits] at w0 w1
    exact ⟨⟨k0, k1⟩, rfl, by unfold fitsC u64in; simp only; omega⟩
set_option maxHeartbeats 1000000 in
theorem argsC_of {H : Type} {enc : TypeId × Value → H} {w : World} {held : Bool} {fuel n cap : Nat} {ao : Option Addr} {x : DataW H × List MemPlace}
    (h : DataW.trod enc Tryz.prog w 0 (fun _ => true) held fuel 22 (Value.slice ao n cap).cells.toList = some x) :
    ∃ l : List Ck, n = l.length ∧ SlC w (.slice ao n cap) l ∧ ∀ r ∈ l, fitsC r := by
  rcases Deep.open_slice Tryz.underlying22 h with ⟨hcs, hx⟩ | ⟨a, len, c, m, k, D, Pl, hcs, _, hl, hm, hmm, hx, hel⟩
  · simp [Value.cells] at hcs
    obtain ⟨rfl, rfl, rfl⟩ := hcs
    exact ⟨[], rfl, SlC.nil w, (by intro x hx; cases hx)⟩
  · simp [Value.cells] at hcs
    obtain ⟨rfl, rfl, rfl⟩ := hcs
    simp only [if_true] at hmm
    have each : ∀ i, i < n → ∃ s : Ck, fitsC s ∧ ∀ j, j < 2 → w.cell? ((a.add (i * 2)).add j) = (cellC s)[j]? := by
      intro i hi
      obtain ⟨cs', h1, h2⟩ := hel i (by omega)
      rw [cellsOfC] at h1
      obtain ⟨_, _, hc⟩ := World.cells?_some h1
      obtain ⟨s, hs, hok⟩ := argC_of h2
      exact ⟨s, hok, fun j hj => by rw [hc j hj, hs]⟩
    obtain ⟨f, hf⟩ := Deep.choose_lt each
    have hcap : cap ≤ 9223372036854775807 := by unfold maxLen at hm; omega
    refine ⟨(List.range n).map f, by simp, ⟨some a, cap, by simp, (by intro h; cases h), by simpa using hl, hcap, ?_⟩, ?_⟩
    · by_cases hn : n = 0
      · subst hn; exact .inl rfl
      · have h0 : w.cell? ((a.add (0 * 2)).add 0) = some (.int .u64 (f 0).c) := (hf 0 (by omega)).2 0 (by decide)
        obtain ⟨b, off, rfl, _⟩ : ∃ b off, a = ⟨b, off, none⟩ ∧ True := by
          obtain ⟨b, off, spot⟩ := a
          cases spot with
          | none => exact ⟨b, off, rfl, trivial⟩
          | some s => exfalso; clear hf each hel h hx; simp [World.cell?, Addr.add] at h0; split at h0 <;> simp_all
        refine .inr ⟨b, off, rfl, fun t u hu => ?_⟩
        have hlt : t < n * 2 := by
          have := (List.getElem?_eq_some_iff.1 hu).1
          rw [cellsC_len] at this; simpa using this
        have hdv : t / 2 < n := by omega
        have h3 : t % 2 < 2 := Nat.mod_lt _ (by omega)
        have hc := (hf (t / 2) hdv).2 (t % 2) h3
        rw [addr_addC, addr_addC, Nat.add_assoc, show t / 2 * 2 + t % 2 = t from by omega] at hc
        rw [hc]
        obtain ⟨a0, a1⟩ := cellsC_get ((List.range n).map f) (t / 2) (by simpa using hdv)
        simp only [List.getElem_map, List.getElem_range] at a0 a1
        have hm2 : t = t / 2 * 2 + t % 2 := by omega
        rw [hm2] at hu
        generalize t / 2 = q at *
        generalize t % 2 = r at *
        rcases (by omega : r = 0 ∨ r = 1) with rfl | rfl
        · rw [Nat.add_zero, a0] at hu; exact hu
        · rw [a1] at hu; exact hu
    · intro y hy
      obtain ⟨i, hi, rfl⟩ := List.mem_map.1 hy
      exact (hf i (List.mem_range.1 hi)).1
end Go.Proofs.YtdblfabbmpdoiaaGreat

/- Arguments that are slices of bytes: where their bytes lie, how long they are. -/
namespace Go.Proofs.YtdblfabbmpdoiaaGreat
open Go.ChangeShapes Go.WideShapes Go.ChangeAt Go.RowKit
set_option linter.unusedVariables false

/-- A slice of bytes that came in. -/
structure BytesIn {H : Type} (w : World) (d : DataW H) (ao : Option Addr) (n cap g : Nat) (bs : List UInt8) : Prop where
  len : n = bs.length
  none : ao = none → cap = 0
  lies : Lies w g ao bs
  le : bs.length ≤ cap
  max : cap ≤ maxLen
  size : n = 0 ∨ ∃ el sp, d = .slice el sp ∧ el.length = n

theorem bytesIn_of {H : Type} {enc : TypeId × Value → H} {P : Program} {w : World} {base : Nat} {held : Bool} {t e : TypeId} {fuel n cap : Nat} {ao : Option Addr} {x : DataW H × List MemPlace}
    (ht : P.underlying t = some (.slice e)) (he : P.underlying e = some (.int .u8)) (hc : P.cellsOf e = 1)
    (h : DataW.trod enc P w base (fun _ => true) held fuel t (Value.slice ao n cap).cells.toList = some x) : ∃ g bs, BytesIn w x.1 ao n cap g bs := by
  rcases open_ints ht he hc h with ⟨hcs, hx⟩ | ⟨a, l, c, zs, hcs, _, hl, hm, hz, hx, hcell, hwz⟩
  · simp [Value.cells] at hcs
    obtain ⟨rfl, rfl, rfl⟩ := hcs
    exact ⟨0, [], rfl, fun _ => rfl, .inl rfl, Nat.le_refl _, by simp [maxLen], .inl rfl⟩
  · simp [Value.cells] at hcs
    obtain ⟨rfl, rfl, rfl⟩ := hcs
    simp only [if_true] at hz
    refine ⟨a.block, (zs.take n).map (fun z => UInt8.ofNat z.toNat), by simp; omega, (by intro h; cases h), ?_, by simp; omega, hm, .inr ⟨_, _, congrArg Prod.fst hx, by simp [lits]; omega⟩⟩
    by_cases hn : n = 0
    · subst hn; exact .inl (by simp)
    · have h0 : w.cell? (a.add 0) = some (.int .u8 (zs.getD 0 0)) := hcell 0 (by omega)
      obtain ⟨b, off, rfl, _⟩ : ∃ b off, a = ⟨b, off, none⟩ ∧ True := by
        obtain ⟨b, off, spot⟩ := a
        cases spot with
        | none => exact ⟨b, off, rfl, trivial⟩
        | some s => exfalso; simp [World.cell?, Addr.add] at h0; split at h0 <;> simp_all
      refine .inr ⟨off, rfl, fun j hj => ?_⟩
      simp at hj
      have e2 : (⟨b, off, none⟩ : Addr).add j = ⟨b, off + j, none⟩ := by unfold Addr.add; split <;> simp_all
      have hj2 : j < zs.length := by omega
      rw [← e2, hcell j hj2]
      have hw := hwz (zs.getD j 0) (by simp [List.getD, List.getElem?_eq_getElem hj2])
      simp [Lit.wf, IntKind.min, IntKind.max, IntKind.signed, IntKind.bits] at hw
      simp [List.getElem?_eq_getElem hj2] at hw ⊢
      omega

theorem bytesIn_len {H : Type} {P : Program} {w : World} {d : DataW H} {ao : Option Addr} {n cap g : Nat} {bs : List UInt8} (h : BytesIn w d ao n cap g bs) {ts : List TypeId} {ds : List (DataW H)} (hz : (DataW.weightsEach P ts ds).all (· ≤ reachBytes) = true) {j : Nat} {t e : TypeId} (ht : ts[j]? = some t) (hd : ds[j]? = some d) (hu : P.underlying t = some (.slice e)) (hb : P.bytesOf e = 1) : bs.length ≤ 140737488355328 := by
  have hl := h.len
  rcases h.size with h0 | ⟨el, sp, rfl, he⟩
  · omega
  · have := sized_slice hz ht hd hu
    have hr := reachBytes_lt
    rw [hb] at this
    omega
end Go.Proofs.YtdblfabbmpdoiaaGreat
