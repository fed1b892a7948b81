/- Bytes that lie in a block. -/
import Derived.Test.YtkiicdleoniioaaDoorLib
namespace Go.Proofs.YtkiicdleoniioaaDoor
open Go.RowKit
set_option linter.unusedVariables false

/-- The bytes bs lie in block g, where a slice of that address begins (nothing is asked where there are none). -/
def Lies (w : World) (g : Nat) (ao : Option Addr) (bs : List UInt8) : Prop :=
  bs = [] ∨ ∃ off, ao = some ⟨g, off, none⟩ ∧ ∀ j (h : j < bs.length), w.cell? ⟨g, off + j, none⟩ = some (.int .u8 bs[j].toNat)

theorem Lies.drop {w : World} {g : Nat} {bs : List UInt8} {a : Addr} (h : Lies w g (some a) bs) (n : Nat) : Lies w g (some (a.add n)) (bs.drop n) := by
  rcases h with rfl | ⟨off, e, h⟩
  · exact .inl (by simp)
  · cases e
    refine .inr ⟨off + n, by simp [Addr.add], fun j hj => ?_⟩
    have := h (n + j) (by simp at hj; omega)
    rw [show off + n + j = off + (n + j) from by omega, this]; simp

theorem Lies.take {w : World} {g : Nat} {bs : List UInt8} {ao : Option Addr} (h : Lies w g ao bs) (n : Nat) : Lies w g ao (bs.take n) := by
  rcases h with rfl | ⟨off, e, h⟩
  · exact .inl (by simp)
  · exact .inr ⟨off, e, fun j hj => by have := h j (by simp at hj; omega); simpa using this⟩

theorem Lies.map {w : World} {g : Nat} {bs : List UInt8} {ao : Option Addr} (h : Lies w g ao bs) (n : Nat) : Lies w g (Option.map (fun x => x.add n) ao) (bs.drop n) := by
  rcases ao with _ | a
  · rcases h with rfl | ⟨off, e, _⟩
    · exact .inl (by simp)
    · cases e
  · exact h.drop n

/-- The bytes lie as they lay, where their block is as it was. -/
theorem Lies.keep {w w' : World} {g : Nat} {bs : List UInt8} {ao : Option Addr} (h : Lies w g ao bs) (hg : bs ≠ [] → w'.heap[g]? = w.heap[g]?) : Lies w' g ao bs := by
  by_cases e : bs = []
  · exact .inl e
  · rcases h with h | ⟨off, ha, h⟩
    · exact absurd h e
    · exact .inr ⟨off, ha, fun j hj => (World.cell?_of_block (a := ⟨g, off + j, none⟩) (hg e)).trans (h j hj)⟩

theorem Lies.lt {w : World} {g : Nat} {bs : List UInt8} {ao : Option Addr} (h : Lies w g ao bs) (e : bs ≠ []) : g < w.heap.size := by
  rcases h with h | ⟨off, ha, h⟩
  · exact absurd h e
  · exact World.block_lt_of_cell? _ _ (h 0 (List.length_pos_iff.2 e))
end Go.Proofs.YtkiicdleoniioaaDoor
