/- Arguments that are slices of whole numbers of a kind: where they lie, how long they are. -/
import Derived.Test.YtnbphdmpbjahhaaPart1
import Derived.Test.YtnbphdmpbjahhaaProg
import Derived.ProofKit
import Derived.OpenShut
import Derived.SizedLaws
namespace Go.Proofs.Ytnbphdmpbjahhaa
open Go.ChangeShapes Go.WideShapes Go.ChangeAt Go.RowKit
set_option linter.unusedVariables false

/-- Numbers of a kind that lie where a slice of that address begins. -/
def LiesK (w : World) (k : IntKind) (ao : Option Addr) (zs : List Int) : Prop := zs = [] ∨ ∃ b o, ao = some ⟨b, o, none⟩ ∧ ∀ j (hj : j < zs.length), w.cell? ⟨b, o + j, none⟩ = some (.int k zs[j])
theorem LiesK.touch {W W' : World} {k : IntKind} {ao : Option Addr} {zs : List Int} (h : LiesK W k ao zs) (t : Touch (fun _ => False) W W') : LiesK W' k ao zs := by
  rcases h with h | ⟨b, o, e, h⟩
  · exact .inl h
  · refine .inr ⟨b, o, e, fun j hj => ?_⟩
    have := h j hj
    rw [World.cell?_of_block (t.block _ (World.block_lt_of_cell? _ _ this) id)]; exact this
theorem numsIn_of {H : Type} {enc : TypeId × Value → H} {P : Program} {w : World} {base : Nat} {held : Bool} {t e : TypeId} {fuel n cap : Nat} {ao : Option Addr} {k : IntKind} {x : DataW H × List MemPlace}
    (ht : P.underlying t = some (.slice e)) (he : P.underlying e = some (.int k)) (hc : P.cellsOf e = 1)
    (h : DataW.trod enc P w base (fun _ => true) held fuel t (Value.slice ao n cap).cells.toList = some x) : ∃ zs : List Int, n = zs.length ∧ (ao = none → cap = 0) ∧ LiesK w k ao zs ∧ n ≤ cap ∧ cap ≤ maxLen ∧ ∀ y ∈ zs, (Lit.int k y).wf := by
  rcases open_ints ht he hc h with ⟨hcs, hx⟩ | ⟨a, l, c, zs, hcs, _, hl, hm, hz, hx, hcell, hwz⟩
  · simp [Value.cells] at hcs
    obtain ⟨rfl, rfl, rfl⟩ := hcs
    exact ⟨[], rfl, fun _ => rfl, .inl rfl, Nat.le_refl _, by simp [maxLen], fun y hy => (List.not_mem_nil hy).elim⟩
  · simp [Value.cells] at hcs
    obtain ⟨rfl, rfl, rfl⟩ := hcs
    simp only [if_true] at hz
    have hlen : (zs.take n).length = n := by rw [List.length_take]; omega
    refine ⟨zs.take n, hlen.symm, (by intro h; cases h), ?_, by omega, hm, fun y hy => hwz y (List.mem_of_mem_take hy)⟩
    by_cases hn : n = 0
    · subst hn; exact .inl (by simp)
    · have h0 : w.cell? (a.add 0) = some (.int k (zs.getD 0 0)) := hcell 0 (by omega)
      obtain ⟨b, off, rfl, _⟩ : ∃ b off, a = ⟨b, off, none⟩ ∧ True := by
        obtain ⟨b, off, spot⟩ := a
        cases spot with
        | none => exact ⟨b, off, rfl, trivial⟩
        | some s => exfalso; simp [World.cell?, Addr.add] at h0; split at h0 <;> simp_all
      refine .inr ⟨b, off, rfl, fun j hj => ?_⟩
      have e2 : (⟨b, off, none⟩ : Addr).add j = ⟨b, off + j, none⟩ := by unfold Addr.add; split <;> simp_all
      have hj2 : j < zs.length := by rw [hlen] at hj; omega
      rw [← e2, hcell j hj2]
      simp [List.getElem?_eq_getElem hj2]
theorem wrap_u16 (x : Int) (h0 : 0 ≤ x) (h1 : x < 65536) : IntKind.u16.wrap x = x := by
  simp [IntKind.wrap, IntKind.signed, IntKind.bits]
  omega
theorem wrap_64 (x : Int) (h0 : 0 ≤ x) (h1 : x < 65536) : wrap64 x = x := by
  have := IntKind.wrap_i64 x
  simp only [wrap64] at *
  omega
theorem quo_u16 (x k : Int) (h0 : 0 ≤ x) (h1 : x < 65536) (hk : 1 ≤ k) : wrap64 (IntKind.u16.wrap (x.tdiv k)) = x / k := by
  have e := Int.tdiv_eq_ediv_of_nonneg (b := k) h0
  have h2 : 0 ≤ x / k := Int.ediv_nonneg h0 (by omega)
  have h3 : x / k ≤ x := Int.ediv_le_self _ h0
  rw [e, wrap_u16 _ h2 (by omega), wrap_64 _ h2 (by omega)]
end Go.Proofs.Ytnbphdmpbjahhaa
