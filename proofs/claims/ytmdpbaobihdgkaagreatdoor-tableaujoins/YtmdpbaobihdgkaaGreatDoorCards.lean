/-
  DERIVED. GIVEN WITH THE SEED: THE CARDS: each row of YtmdpbaobihdgkaaGreatDoorRows.lean that lists a variable, with what it lists TIED to the program's text (the seventh form; the later family's looks); each row that meets fmt, with fmt's text TOLD by the authors' own Lean function (tested against real Go, not proved from fmt's source: count such statements apart). THE CARD IS WHAT COUNTS. Prove the row's statement (the work); the ties are given (YtmdpbaobihdgkaaGreatDoorTie.lean); close each card by the builder's one call (the guide's Derived/Test/ToyasCard.lean, 'card_holds'). Laid BY PROGRAM, IN A SANDBOX (cutbox-door.mjs). By AI agents, Wed Nov 11 2026. No macro, syntax, notation, axiom, sorry.
-/
import Derived.Test.YtmdpbaobihdgkaaGreatDoorRows
import GoSem.ClaimSeven
namespace Go.Proofs.YtmdpbaobihdgkaaGreatDoor
namespace Rows

/-- THE TIED CARD OF 'watchkeep.TableauMeans'. -/
def tableauMeansCard : Claim7 := { stood := { row := tableauMeansRow, standIns := [], harness := (true, "9aac623175ba63ab80096baaa9c0023b3db40e9118f38e0ebac7cabf6dd850c7"), looks := false }, kinds := [], alts := [], laidByText := true, laidKinds := [.data, .data], laidTests := true, laidLooks := .later }
def TableauMeansCardSaid : Prop := Claim7.holds Tryz.pinned (.plain (OpenSpec.ofChange tableauMeansSpec)) tableauMeansCard

/-- THE TIED CARD OF 'watchkeep.TableauNots'. -/
def tableauNotsCard : Claim7 := { stood := { row := tableauNotsRow, standIns := [], harness := (true, "9aac623175ba63ab80096baaa9c0023b3db40e9118f38e0ebac7cabf6dd850c7"), looks := false }, kinds := [], alts := [], laidByText := true, laidKinds := [.data, .data], laidTests := true, laidLooks := .later }
def TableauNotsCardSaid : Prop := Claim7.holds Tryz.pinned (.plain (OpenSpec.ofChange tableauNotsSpec)) tableauNotsCard

/-- THE TIED CARD OF 'watchkeep.TableauJoins'. -/
def tableauJoinsCard : Claim7 := { stood := { row := tableauJoinsRow, standIns := [], harness := (true, "9aac623175ba63ab80096baaa9c0023b3db40e9118f38e0ebac7cabf6dd850c7"), looks := false }, kinds := [], alts := [], laidByText := true, laidKinds := [.data, .data], laidTests := true, laidLooks := .later }
def TableauJoinsCardSaid : Prop := Claim7.holds Tryz.pinned (.plain (OpenSpec.ofChange tableauJoinsSpec)) tableauJoinsCard

/-- THE SECOND FORM's CARD OF 'watchkeep.TableauMeans'. -/
def tableauMeansUptoCard : Claim7 := { stood := { row := tableauMeansUptoRow, standIns := [], harness := (true, "9aac623175ba63ab80096baaa9c0023b3db40e9118f38e0ebac7cabf6dd850c7"), looks := false }, kinds := [], alts := [], laidByText := true, laidKinds := [.data, .data], laidTests := true, laidLooks := .later }
def TableauMeansUptoCardSaid : Prop := Claim7.holds Tryz.pinned (.plain (OpenSpec.upto tableauMeansSpec)) tableauMeansUptoCard

/-- THE SECOND FORM's CARD OF 'watchkeep.TableauNots'. -/
def tableauNotsUptoCard : Claim7 := { stood := { row := tableauNotsUptoRow, standIns := [], harness := (true, "9aac623175ba63ab80096baaa9c0023b3db40e9118f38e0ebac7cabf6dd850c7"), looks := false }, kinds := [], alts := [], laidByText := true, laidKinds := [.data, .data], laidTests := true, laidLooks := .later }
def TableauNotsUptoCardSaid : Prop := Claim7.holds Tryz.pinned (.plain (OpenSpec.upto tableauNotsSpec)) tableauNotsUptoCard

/-- THE SECOND FORM's CARD OF 'watchkeep.TableauJoins'. -/
def tableauJoinsUptoCard : Claim7 := { stood := { row := tableauJoinsUptoRow, standIns := [], harness := (true, "9aac623175ba63ab80096baaa9c0023b3db40e9118f38e0ebac7cabf6dd850c7"), looks := false }, kinds := [], alts := [], laidByText := true, laidKinds := [.data, .data], laidTests := true, laidLooks := .later }
def TableauJoinsUptoCardSaid : Prop := Claim7.holds Tryz.pinned (.plain (OpenSpec.upto tableauJoinsSpec)) tableauJoinsUptoCard
end Rows
end Go.Proofs.YtmdpbaobihdgkaaGreatDoor
