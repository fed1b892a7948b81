/- Arguments that are slices of values. -/
import Derived.Test.YtegldlfbmaapiaaIsOp
import Derived.Test.YtegldlfbmaapiaaPart6
import Derived.Deep.Slices
import Derived.ChangeMaps5
import Derived.SizedLaws
import Derived.Lib.SmallJoins
import Derived.Test.YtegldlfbmaapiaaPart1
import Derived.Test.YtegldlfbmaapiaaProg
import Derived.ProofKit
import Derived.OpenShut
import Derived.Test.YtegldlfbmaapiaaPart17
import Derived.Test.YtegldlfbmaapiaaPart11
import Derived.Test.YtegldlfbmaapiaaPart13
namespace Go.Proofs.Ytegldlfbmaapiaa
open Go.ChangeShapes Go.WideShapes Go.ChangeAt Go.RowKit Go.Joins
set_option linter.unusedVariables false
set_option linter.unusedSimpArgs false
set_option maxRecDepth 100000

theorem cellsOfV12 : Try.prog.cellsOf 37 = 4 := by kernel_rfl
/-- What is so of a value that comes in. -/
def fitsV (v : V) : Prop := (-9223372036854775808 ≤ v.k ∧ v.k < 9223372036854775808) ∧ (-9223372036854775808 ≤ v.n ∧ v.n < 9223372036854775808) ∧ v.f < 18446744073709551616
/-- Values that lie where a slice of that address begins. -/
def LiesV (w : World) (ao : Option Addr) (l : List V) : Prop := ∀ i (h : i < l.length), ∃ b o, ao = some ⟨b, o, none⟩ ∧ ∀ W, Touch (fun _ => False) w W → W.cell? ⟨b, o + i * 4, none⟩ = some (.int .i64 l[i].k) ∧ W.cell? ⟨b, o + i * 4 + 1, none⟩ = some (.int .i64 l[i].n) ∧ W.cell? ⟨b, o + i * 4 + 2, none⟩ = some (.float .f64 l[i].f) ∧ W.cell? ⟨b, o + i * 4 + 3, none⟩ = some (.string l[i].s)
theorem argV_one {H : Type} {enc : TypeId × Value → H} {w : World} {held : Bool} {fuel : Nat} {cs : List Value} {x : DataW H × List MemPlace}
    (hl : cs.length = 4) (h : DataW.trod enc Try.prog w 0 (fun _ => true) held fuel 37 cs = some x) : ∃ r : V, cs = r.cells.toList ∧ fitsV r := by
  match cs, hl with
  | [v0, v1, v2, v3], _ =>
    obtain ⟨k, m, f, z, rfl, rfl, rfl, rfl, h1, h2, h3, -⟩ := val_of h
    exact ⟨⟨k, m, f, z⟩, rfl, h1, h2, h3⟩
theorem addr_addV (g o j : Nat) : (⟨g, o, none⟩ : Addr).add j = ⟨g, o + j, none⟩ := by
  unfold Addr.add
  split <;> simp_all
set_option maxHeartbeats 1000000 in
theorem argV_of {H : Type} {enc : TypeId × Value → H} {w : World} {held : Bool} {fuel n cap : Nat} {ao : Option Addr} {x : DataW H × List MemPlace}
    (h : DataW.trod enc Try.prog w 0 (fun _ => true) held fuel 58 (Value.slice ao n cap).cells.toList = some x) :
    ∃ l : List V, n = l.length ∧ LiesV w ao l ∧ (∀ r ∈ l, fitsV r) ∧ n ≤ cap ∧ cap ≤ maxLen := by
  rcases Deep.open_slice Try.underlying58 h with ⟨hcs, hx⟩ | ⟨a, len, c, m, k, D, Pl, hcs, _, hl, hm, hmm, hx, hel⟩
  · simp [Value.cells] at hcs
    obtain ⟨rfl, rfl, rfl⟩ := hcs
    exact ⟨[], rfl, (fun i hi => by simp at hi), (by intro x hx; cases hx), Nat.le_refl _, by unfold maxLen; omega⟩
  · simp [Value.cells] at hcs
    obtain ⟨rfl, rfl, rfl⟩ := hcs
    simp only [if_true] at hmm
    have each : ∀ i, i < n → ∃ s : V, fitsV s ∧ ∀ j, j < 4 → w.cell? ((a.add (i * 4)).add j) = (s.cells.toList)[j]? := by
      intro i hi
      obtain ⟨cs', h1, h2⟩ := hel i (by omega)
      rw [cellsOfV12] at h1
      obtain ⟨_, hcl, hc⟩ := World.cells?_some h1
      obtain ⟨s, hs, hok⟩ := argV_one hcl h2
      exact ⟨s, hok, fun j hj => by rw [hc j hj, hs]⟩
    haveI : Inhabited V := ⟨⟨0, 0, 0, ⟨#[]⟩⟩⟩
    obtain ⟨f, hf⟩ := Deep.choose_lt each
    refine ⟨(List.range n).map f, by simp, fun i hi => ?_, ?_, by simpa using hl, hm⟩
    · have hi' : i < n := by simpa using hi
      have hz : w.cell? ((a.add (0 * 4)).add 0) = some (.int .i64 (f 0).k) := (hf 0 (by omega)).2 0 (by decide)
      have h0 : w.cell? ((a.add (i * 4)).add 0) = some (.int .i64 (f i).k) := (hf i hi').2 0 (by decide)
      have h1 : w.cell? ((a.add (i * 4)).add 1) = some (.int .i64 (f i).n) := (hf i hi').2 1 (by decide)
      have h2 : w.cell? ((a.add (i * 4)).add 2) = some (.float .f64 (f i).f) := (hf i hi').2 2 (by decide)
      have h3 : w.cell? ((a.add (i * 4)).add 3) = some (.string (f i).s) := (hf i hi').2 3 (by decide)
      obtain ⟨b, off, rfl, _⟩ : ∃ b off, a = ⟨b, off, none⟩ ∧ True := by
        obtain ⟨b, off, spot⟩ := a
        cases spot with
        | none => exact ⟨b, off, rfl, trivial⟩
        | some s => exfalso; clear h0 h1 h2 h3 hf each hel h hx; simp [World.cell?, Addr.add] at hz; split at hz <;> simp_all
      rw [addr_addV, addr_addV] at h0 h1 h2 h3
      refine ⟨b, off, rfl, fun W t => ?_⟩
      have hlt : b < w.heap.size := World.block_lt_of_cell? _ _ (show w.cell? ⟨b, off + i * 4 + 0, none⟩ = some (.int .i64 (f i).k) from h0)
      have hW : ∀ j, W.cell? ⟨b, j, none⟩ = w.cell? ⟨b, j, none⟩ := fun j => World.cell?_of_block (t.block b hlt id)
      simp only [List.getElem_map, List.getElem_range]
      exact ⟨(hW _).trans h0, (hW _).trans h1, (hW _).trans h2, (hW _).trans h3⟩
    · intro y hy
      obtain ⟨i, hi, rfl⟩ := List.mem_map.1 hy
      exact (hf i (List.mem_range.1 hi)).1
end Go.Proofs.Ytegldlfbmaapiaa

/- Arguments that are slices of whole numbers of a kind: where they lie, how long they are. -/
namespace Go.Proofs.Ytegldlfbmaapiaa
open Go.ChangeShapes Go.WideShapes Go.ChangeAt Go.RowKit
set_option linter.unusedVariables false

/-- Numbers of a kind that lie where a slice of that address begins. -/
def LiesK (w : World) (k : IntKind) (ao : Option Addr) (zs : List Int) : Prop := zs = [] ∨ ∃ b o, ao = some ⟨b, o, none⟩ ∧ ∀ j (hj : j < zs.length), w.cell? ⟨b, o + j, none⟩ = some (.int k zs[j])
theorem LiesK.touch {W W' : World} {k : IntKind} {ao : Option Addr} {zs : List Int} (h : LiesK W k ao zs) (t : Touch (fun _ => False) W W') : LiesK W' k ao zs := by
  rcases h with h | ⟨b, o, e, h⟩
  · exact .inl h
  · refine .inr ⟨b, o, e, fun j hj => ?_⟩
    have := h j hj
    rw [World.cell?_of_block (t.block _ (World.block_lt_of_cell? _ _ this) id)]; exact this
theorem numsIn_of {H : Type} {enc : TypeId × Value → H} {P : Program} {w : World} {base : Nat} {held : Bool} {t e : TypeId} {fuel n cap : Nat} {ao : Option Addr} {k : IntKind} {x : DataW H × List MemPlace}
    (ht : P.underlying t = some (.slice e)) (he : P.underlying e = some (.int k)) (hc : P.cellsOf e = 1)
    (h : DataW.trod enc P w base (fun _ => true) held fuel t (Value.slice ao n cap).cells.toList = some x) : ∃ zs : List Int, n = zs.length ∧ (ao = none → cap = 0) ∧ LiesK w k ao zs ∧ n ≤ cap ∧ cap ≤ maxLen ∧ ∀ y ∈ zs, (Lit.int k y).wf := by
  rcases open_ints ht he hc h with ⟨hcs, hx⟩ | ⟨a, l, c, zs, hcs, _, hl, hm, hz, hx, hcell, hwz⟩
  · simp [Value.cells] at hcs
    obtain ⟨rfl, rfl, rfl⟩ := hcs
    exact ⟨[], rfl, fun _ => rfl, .inl rfl, Nat.le_refl _, by simp [maxLen], fun y hy => (List.not_mem_nil hy).elim⟩
  · simp [Value.cells] at hcs
    obtain ⟨rfl, rfl, rfl⟩ := hcs
    simp only [if_true] at hz
    have hlen : (zs.take n).length = n := by rw [List.length_take]; omega
    refine ⟨zs.take n, hlen.symm, (by intro h; cases h), ?_, by omega, hm, fun y hy => hwz y (List.mem_of_mem_take hy)⟩
    by_cases hn : n = 0
    · subst hn; exact .inl (by simp)
    · have h0 : w.cell? (a.add 0) = some (.int k (zs.getD 0 0)) := hcell 0 (by omega)
      obtain ⟨b, off, rfl, _⟩ : ∃ b off, a = ⟨b, off, none⟩ ∧ True := by
        obtain ⟨b, off, spot⟩ := a
        cases spot with
        | none => exact ⟨b, off, rfl, trivial⟩
        | some s => exfalso; simp [World.cell?, Addr.add] at h0; split at h0 <;> simp_all
      refine .inr ⟨b, off, rfl, fun j hj => ?_⟩
      have e2 : (⟨b, off, none⟩ : Addr).add j = ⟨b, off + j, none⟩ := by unfold Addr.add; split <;> simp_all
      have hj2 : j < zs.length := by rw [hlen] at hj; omega
      rw [← e2, hcell j hj2]
      simp [List.getElem?_eq_getElem hj2]
theorem wrap_u16 (x : Int) (h0 : 0 ≤ x) (h1 : x < 65536) : IntKind.u16.wrap x = x := by
  simp [IntKind.wrap, IntKind.signed, IntKind.bits]
  omega
theorem wrap_64 (x : Int) (h0 : 0 ≤ x) (h1 : x < 65536) : wrap64 x = x := by
  have := IntKind.wrap_i64 x
  simp only [wrap64] at *
  omega
theorem quo_u16 (x k : Int) (h0 : 0 ≤ x) (h1 : x < 65536) (hk : 1 ≤ k) : wrap64 (IntKind.u16.wrap (x.tdiv k)) = x / k := by
  have e := Int.tdiv_eq_ediv_of_nonneg (b := k) h0
  have h2 : 0 ≤ x / k := Int.ediv_nonneg h0 (by omega)
  have h3 : x / k ≤ x := Int.ediv_le_self _ h0
  rw [e, wrap_u16 _ h2 (by omega), wrap_64 _ h2 (by omega)]
end Go.Proofs.Ytegldlfbmaapiaa

/- Same on both sides, as one function. -/
namespace Go.Proofs.Ytegldlfbmaapiaa
open Go.RowKit
set_option linter.unusedVariables false
set_option maxRecDepth 100000

set_option maxHeartbeats 2000000 in
theorem sameO_like (a b : O) : ((refCmp a.v b.v == 0) && likeO a b) = sameO a b := by
  unfold sameO likeO
  rw [Bool.eq_iff_iff]
  simp only [Bool.and_eq_true, beq_iff_eq, decide_eq_true_eq, and_assoc]
  constructor
  · rintro ⟨h, h1, h2, h3, h4, h5, h6, h7, h8, h9, h10⟩
    exact ⟨h1, h2, h3, h4, h5, h6, h7, h8, h9, h, h10⟩
  · rintro ⟨h1, h2, h3, h4, h5, h6, h7, h8, h9, h, h10⟩
    exact ⟨h, h1, h2, h3, h4, h5, h6, h7, h8, h9, h10⟩
end Go.Proofs.Ytegldlfbmaapiaa

/- The contract of value.Check, but for texts. -/
namespace Go.Proofs.Ytegldlfbmaapiaa
open Go.RowKit
set_option linter.unusedVariables false
set_option maxRecDepth 100000

/-- What Check answers. -/
def errOf (b : Bool) : Int := if b then 0 else 20

end Go.Proofs.Ytegldlfbmaapiaa
