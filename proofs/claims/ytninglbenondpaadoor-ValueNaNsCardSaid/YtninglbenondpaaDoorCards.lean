/-
  DERIVED. GIVEN WITH THE SEED: THE CARDS: each row of YtninglbenondpaaDoorRows.lean that lists a variable, with what it lists TIED to the program's text (the seventh form; the later family's looks); each row that meets fmt, with fmt's text TOLD by the authors' own Lean function (tested against real Go, not proved from fmt's source: count such statements apart). THE CARD IS WHAT COUNTS. Prove the row's statement (the work); the ties are given (YtninglbenondpaaDoorTie.lean); close each card by the builder's one call (the guide's Derived/Test/ToyasCard.lean, 'card_holds'). Laid BY PROGRAM, IN A SANDBOX (cutbox-door.mjs). By AI agents, Wed Nov 11 2026. No macro, syntax, notation, axiom, sorry.
-/
import Derived.Test.YtninglbenondpaaDoorRows
import GoSem.ClaimSeven
namespace Go.Proofs.YtninglbenondpaaDoor
namespace Rows

/-- THE TIED CARD OF 'quirelaw2.ValueAdds'. -/
def valueAddsCard : Claim7 := { stood := { row := valueAddsRow, standIns := [], harness := (true, "8791d6c77ff3501203ab8830bc4e16e02fa8e046cff94bb4cc1d06488e021987"), looks := false }, kinds := [], alts := [], laidByText := true, laidKinds := [.data, .data, .data, .data, .pinned], laidTests := true, laidLooks := .later }
def ValueAddsCardSaid : Prop := Claim7.holds Tryd.pinned (.plain (OpenSpec.ofChange valueAddsSpec)) valueAddsCard

/-- THE TIED CARD OF 'quirelaw2.ValueNaNs'. -/
def valueNaNsCard : Claim7 := { stood := { row := valueNaNsRow, standIns := [], harness := (true, "8791d6c77ff3501203ab8830bc4e16e02fa8e046cff94bb4cc1d06488e021987"), looks := false }, kinds := [], alts := [], laidByText := true, laidKinds := [.data, .data, .data, .data, .pinned], laidTests := true, laidLooks := .later }
def ValueNaNsCardSaid : Prop := Claim7.holds Tryd.pinned (.plain (OpenSpec.ofChange valueNaNsSpec)) valueNaNsCard

/-- THE TIED CARD OF 'quirelaw2.ValueNoughts'. -/
def valueNoughtsCard : Claim7 := { stood := { row := valueNoughtsRow, standIns := [], harness := (true, "8791d6c77ff3501203ab8830bc4e16e02fa8e046cff94bb4cc1d06488e021987"), looks := false }, kinds := [], alts := [], laidByText := true, laidKinds := [.data, .data, .data, .data, .pinned], laidTests := true, laidLooks := .later }
def ValueNoughtsCardSaid : Prop := Claim7.holds Tryd.pinned (.plain (OpenSpec.ofChange valueNoughtsSpec)) valueNoughtsCard

/-- THE SECOND FORM's CARD OF 'quirelaw2.ValueAdds'. -/
def valueAddsUptoCard : Claim7 := { stood := { row := valueAddsUptoRow, standIns := [], harness := (true, "8791d6c77ff3501203ab8830bc4e16e02fa8e046cff94bb4cc1d06488e021987"), looks := false }, kinds := [], alts := [], laidByText := true, laidKinds := [.data, .data, .data, .data, .pinned], laidTests := true, laidLooks := .later }
def ValueAddsUptoCardSaid : Prop := Claim7.holds Tryd.pinned (.plain (OpenSpec.upto valueAddsSpec)) valueAddsUptoCard

/-- THE SECOND FORM's CARD OF 'quirelaw2.ValueNaNs'. -/
def valueNaNsUptoCard : Claim7 := { stood := { row := valueNaNsUptoRow, standIns := [], harness := (true, "8791d6c77ff3501203ab8830bc4e16e02fa8e046cff94bb4cc1d06488e021987"), looks := false }, kinds := [], alts := [], laidByText := true, laidKinds := [.data, .data, .data, .data, .pinned], laidTests := true, laidLooks := .later }
def ValueNaNsUptoCardSaid : Prop := Claim7.holds Tryd.pinned (.plain (OpenSpec.upto valueNaNsSpec)) valueNaNsUptoCard

/-- THE SECOND FORM's CARD OF 'quirelaw2.ValueNoughts'. -/
def valueNoughtsUptoCard : Claim7 := { stood := { row := valueNoughtsUptoRow, standIns := [], harness := (true, "8791d6c77ff3501203ab8830bc4e16e02fa8e046cff94bb4cc1d06488e021987"), looks := false }, kinds := [], alts := [], laidByText := true, laidKinds := [.data, .data, .data, .data, .pinned], laidTests := true, laidLooks := .later }
def ValueNoughtsUptoCardSaid : Prop := Claim7.holds Tryd.pinned (.plain (OpenSpec.upto valueNoughtsSpec)) valueNoughtsUptoCard
end Rows
end Go.Proofs.YtninglbenondpaaDoor
