/- Arguments that are slices of bytes: from their reading to where their bytes lie. -/
import Derived.Test.YtkiicdleoniioaaDoorTake
import Derived.ProofKit
import Derived.OpenShut
namespace Go.Proofs.YtkiicdleoniioaaDoor
open Go.ChangeShapes Go.WideShapes Go.ChangeAt Go.RowKit
set_option linter.unusedVariables false

/-- A slice of bytes that came in. -/
def IsBytes (w : World) (ao : Option Addr) (n cap : Nat) : Prop :=
  ∃ g bs, n = bs.length ∧ (ao = none → cap = 0) ∧ Lies w g ao bs ∧ (bs ≠ [] → g < w.heap.size) ∧ bs.length ≤ 9223372036854775807

theorem isBytes_of {H : Type} {enc : TypeId × Value → H} {P : Program} {w : World} {base : Nat} {held : Bool} {t e : TypeId} {fuel n cap : Nat} {ao : Option Addr} {x : DataW H × List MemPlace}
    (ht : P.underlying t = some (.slice e)) (he : P.underlying e = some (.int .u8)) (hc : P.cellsOf e = 1)
    (h : DataW.trod enc P w base (fun _ => true) held fuel t (Value.slice ao n cap).cells.toList = some x) : IsBytes w ao n cap := by
  rcases open_ints ht he hc h with ⟨hcs, _⟩ | ⟨a, l, c, zs, hcs, _, hl, hm, hz, _, hcell, hwz⟩
  · simp [Value.cells] at hcs
    obtain ⟨rfl, rfl, rfl⟩ := hcs
    exact ⟨0, [], rfl, fun _ => rfl, .inl rfl, fun h => absurd rfl h, by simp⟩
  · simp [Value.cells] at hcs
    obtain ⟨rfl, rfl, rfl⟩ := hcs
    simp only [if_true] at hz
    refine ⟨a.block, (zs.take n).map (fun z => UInt8.ofNat z.toNat), by simp; omega, (by intro h; cases h), ?_, ?_, by simp [maxLen] at hm ⊢; omega⟩
    · by_cases hn : n = 0
      · subst hn; exact .inl (by simp)
      · have h0 : w.cell? (a.add 0) = some (.int .u8 (zs.getD 0 0)) := hcell 0 (by omega)
        obtain ⟨b, off, rfl, _⟩ : ∃ b off, a = ⟨b, off, none⟩ ∧ True := by
          obtain ⟨b, off, spot⟩ := a
          cases spot with
          | none => exact ⟨b, off, rfl, trivial⟩
          | some s => exfalso; simp [World.cell?, Addr.add] at h0; split at h0 <;> simp_all
        refine .inr ⟨off, rfl, fun j hj => ?_⟩
        simp at hj
        have e2 : (⟨b, off, none⟩ : Addr).add j = ⟨b, off + j, none⟩ := by unfold Addr.add; split <;> simp_all
        have hj2 : j < zs.length := by omega
        rw [← e2, hcell j hj2]
        have hw := hwz (zs.getD j 0) (by simp [List.getD, List.getElem?_eq_getElem hj2])
        simp [Lit.wf, IntKind.min, IntKind.max, IntKind.signed, IntKind.bits] at hw
        simp [List.getElem?_eq_getElem hj2] at hw ⊢
        omega
    · intro hne
      have hn : 0 < n := by
        rcases Nat.eq_zero_or_pos n with e | e
        · subst e; simp at hne
        · exact e
      have h0 : w.cell? (a.add 0) = some (.int .u8 (zs.getD 0 0)) := hcell 0 (by omega)
      have := World.block_lt_of_cell? _ _ h0
      simpa [Addr.add] using this
end Go.Proofs.YtkiicdleoniioaaDoor
