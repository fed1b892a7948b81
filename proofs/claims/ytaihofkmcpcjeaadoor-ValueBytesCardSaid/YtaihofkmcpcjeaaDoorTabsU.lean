/- The tables of unicode/utf8, as ValidString reads them. -/
import Derived.Test.YtaihofkmcpcjeaaDoorShelfV
import Derived.Test.YtaihofkmcpcjeaaDoorPart1
import Derived.Test.YtaihofkmcpcjeaaDoorUtfEq
import Derived.Lib.LaidU8T
import Derived.PinnedBridge
namespace Go.Proofs.YtaihofkmcpcjeaaDoor
open Go.RowKit
set_option linter.unusedVariables false
set_option maxRecDepth 100000

/-- Both tables lie as their initialisers lay them. -/
def TabsU (w : World) : Prop := Go.Lib.Utf8Tabs (Tryd.lays196_ren.g 3) (Tryd.lays196_ren.g 4) w
theorem TabsU.keep {w w' : World} (h : TabsU w) (hT : Touch (fun _ => False) w w') : TabsU w' := by
  have go : ∀ (b o : Nat) (v : Value), w.cell? ⟨b, o, none⟩ = some v → w'.cell? ⟨b, o, none⟩ = some v := fun b o v hv => (hT.cell (World.block_lt_of_cell? _ _ hv) id o).trans hv
  exact ⟨fun c hc => go _ _ _ (h.1 c hc), fun i hi => ⟨go _ _ _ (h.2 i hi).1, go _ _ _ (h.2 i hi).2⟩⟩
theorem tabsU_of {w : World} (h3 : Go.Lib.VarReads Tryd.prog w "unicode/utf8.first" Go.Lib.firstData) (h4 : Go.Lib.VarReads Tryd.prog w "unicode/utf8.acceptRanges" Go.Lib.acceptData) : TabsU w :=
  utf8Tabs_of_readsT (U8Types.of196 Tryd.lays196) ⟨by kernel_rfl, by kernel_rfl, by kernel_rfl, by kernel_rfl, by kernel_rfl, by kernel_rfl, by kernel_rfl⟩ h3 h4
/-- ValidString: the document's texts. -/
theorem valid_any (s : ByteArray) (hs : s.size ≤ 9223372036854775807) (w : World) (hT : TabsU w) : Calls Tryd.prog 38 #[.string s] w fun e w' => e = .returned (.bool (runesOf s.data.toList).isSome) ∧ Touch (fun _ => False) w w' := by
  refine (Tryd.utf8_ValidString s w hs hT).mono ?_
  rintro e w' ⟨rfl, hb⟩
  exact ⟨by rw [valid_runes], ⟨hb.os, hb.tape, hb.output, hb.size, fun k hk _ => hb.block k hk⟩⟩
end Go.Proofs.YtaihofkmcpcjeaaDoor
