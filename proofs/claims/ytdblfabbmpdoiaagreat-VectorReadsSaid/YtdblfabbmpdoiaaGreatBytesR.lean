/- Arguments that are slices of bytes: where their bytes lie, how long they are. -/
import Derived.Test.YtdblfabbmpdoiaaGreatLies
import Derived.Test.YtdblfabbmpdoiaaGreatProg
import Derived.ProofKit
import Derived.OpenShut
import Derived.SizedLaws
namespace Go.Proofs.YtdblfabbmpdoiaaGreat
open Go.ChangeShapes Go.WideShapes Go.ChangeAt Go.RowKit
set_option linter.unusedVariables false

/-- A slice of bytes that came in. -/
structure BytesIn {H : Type} (w : World) (d : DataW H) (ao : Option Addr) (n cap g : Nat) (bs : List UInt8) : Prop where
  len : n = bs.length
  none : ao = none → cap = 0
  lies : Lies w g ao bs
  le : bs.length ≤ cap
  max : cap ≤ maxLen
  size : n = 0 ∨ ∃ el sp, d = .slice el sp ∧ el.length = n

theorem bytesIn_of {H : Type} {enc : TypeId × Value → H} {P : Program} {w : World} {base : Nat} {held : Bool} {t e : TypeId} {fuel n cap : Nat} {ao : Option Addr} {x : DataW H × List MemPlace}
    (ht : P.underlying t = some (.slice e)) (he : P.underlying e = some (.int .u8)) (hc : P.cellsOf e = 1)
    (h : DataW.trod enc P w base (fun _ => true) held fuel t (Value.slice ao n cap).cells.toList = some x) : ∃ g bs, BytesIn w x.1 ao n cap g bs := by
  rcases open_ints ht he hc h with ⟨hcs, hx⟩ | ⟨a, l, c, zs, hcs, _, hl, hm, hz, hx, hcell, hwz⟩
  · simp [Value.cells] at hcs
    obtain ⟨rfl, rfl, rfl⟩ := hcs
    exact ⟨0, [], rfl, fun _ => rfl, .inl rfl, Nat.le_refl _, by simp [maxLen], .inl rfl⟩
  · simp [Value.cells] at hcs
    obtain ⟨rfl, rfl, rfl⟩ := hcs
    simp only [if_true] at hz
    refine ⟨a.block, (zs.take n).map (fun z => UInt8.ofNat z.toNat), by simp; omega, (by intro h; cases h), ?_, by simp; omega, hm, .inr ⟨_, _, congrArg Prod.fst hx, by simp [lits]; omega⟩⟩
    by_cases hn : n = 0
    · subst hn; exact .inl (by simp)
    · have h0 : w.cell? (a.add 0) = some (.int .u8 (zs.getD 0 0)) := hcell 0 (by omega)
      obtain ⟨b, off, rfl, _⟩ : ∃ b off, a = ⟨b, off, none⟩ ∧ True := by
        obtain ⟨b, off, spot⟩ := a
        cases spot with
        | none => exact ⟨b, off, rfl, trivial⟩
        | some s => exfalso; simp [World.cell?, Addr.add] at h0; split at h0 <;> simp_all
      refine .inr ⟨off, rfl, fun j hj => ?_⟩
      simp at hj
      have e2 : (⟨b, off, none⟩ : Addr).add j = ⟨b, off + j, none⟩ := by unfold Addr.add; split <;> simp_all
      have hj2 : j < zs.length := by omega
      rw [← e2, hcell j hj2]
      have hw := hwz (zs.getD j 0) (by simp [List.getD, List.getElem?_eq_getElem hj2])
      simp [Lit.wf, IntKind.min, IntKind.max, IntKind.signed, IntKind.bits] at hw
      simp [List.getElem?_eq_getElem hj2] at hw ⊢
      omega

theorem bytesIn_len {H : Type} {P : Program} {w : World} {d : DataW H} {ao : Option Addr} {n cap g : Nat} {bs : List UInt8} (h : BytesIn w d ao n cap g bs) {ts : List TypeId} {ds : List (DataW H)} (hz : (DataW.weightsEach P ts ds).all (· ≤ reachBytes) = true) {j : Nat} {t e : TypeId} (ht : ts[j]? = some t) (hd : ds[j]? = some d) (hu : P.underlying t = some (.slice e)) (hb : P.bytesOf e = 1) : bs.length ≤ 140737488355328 := by
  have hl := h.len
  rcases h.size with h0 | ⟨el, sp, rfl, he⟩
  · omega
  · have := sized_slice hz ht hd hu
    have hr := reachBytes_lt
    rw [hb] at this
    omega
end Go.Proofs.YtdblfabbmpdoiaaGreat
