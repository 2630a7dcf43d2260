/-
  DERIVED. GIVEN WITH THE SEED: THE CARDS: each row of YtgpjlgffmlkkoaaDoorRows.lean that lists a variable, with what it lists TIED to the program's text (the seventh form; the later family's looks); each row that meets fmt, with fmt's text TOLD by the authors' own Lean function (tested against real Go, not proved from fmt's source: count such statements apart). THE CARD IS WHAT COUNTS. Prove the row's statement (the work); the ties are given (YtgpjlgffmlkkoaaDoorTie.lean); close each card by the builder's one call (the guide's Derived/Test/ToyasCard.lean, 'card_holds'). Laid BY PROGRAM, IN A SANDBOX (cutbox-door.mjs). By AI agents, Wed Nov 11 2026. No macro, syntax, notation, axiom, sorry.
-/
import Derived.Test.YtgpjlgffmlkkoaaDoorRows
import GoSem.ClaimSeven
namespace Go.Proofs.YtgpjlgffmlkkoaaDoor
namespace Rows

/-- THE TIED CARD OF 'watchlaw.LtlSays'. -/
def ltlSaysCard : Claim7 := { stood := { row := ltlSaysRow, standIns := [], harness := (true, "d6014138dae1a6441d5f2657dad531ab099abe11dc5db65c105151303f567e45"), looks := true }, kinds := [], alts := [], laidByText := true, laidKinds := [.data, .data], laidTests := true, laidLooks := .later }
def LtlSaysCardSaid : Prop := Claim7.holds Tryd.pinned (.plain (OpenSpec.ofChange ltlSaysSpec)) ltlSaysCard

/-- THE TIED CARD OF 'watchlaw.LtlReads'. -/
def ltlReadsCard : Claim7 := { stood := { row := ltlReadsRow, standIns := [], harness := (true, "d6014138dae1a6441d5f2657dad531ab099abe11dc5db65c105151303f567e45"), looks := true }, kinds := [], alts := [], laidByText := true, laidKinds := [.handle, .sentinel, .sentinel, .sentinel, .sentinel, .data, .data], laidTests := true, laidLooks := .later }
def LtlReadsCardSaid : Prop := Claim7.holds Tryd.pinned (.plain (OpenSpec.ofChange ltlReadsSpec)) ltlReadsCard

/-- THE TIED CARD OF 'watchkeep.LtlBack'. -/
def ltlBackCard : Claim7 := { stood := { row := ltlBackRow, standIns := [], harness := (true, "d6014138dae1a6441d5f2657dad531ab099abe11dc5db65c105151303f567e45"), looks := true }, kinds := [], alts := [], laidByText := true, laidKinds := [.handle, .sentinel, .sentinel, .sentinel, .sentinel, .data, .data], laidTests := true, laidLooks := .later }
def LtlBackCardSaid : Prop := Claim7.holds Tryd.pinned (.plain (OpenSpec.ofChange ltlBackSpec)) ltlBackCard

/-- THE TIED CARD OF 'watchkeep.LtlAgain'. -/
def ltlAgainCard : Claim7 := { stood := { row := ltlAgainRow, standIns := [], harness := (true, "d6014138dae1a6441d5f2657dad531ab099abe11dc5db65c105151303f567e45"), looks := true }, kinds := [], alts := [], laidByText := true, laidKinds := [.handle, .sentinel, .sentinel, .sentinel, .sentinel, .data, .data], laidTests := true, laidLooks := .later }
def LtlAgainCardSaid : Prop := Claim7.holds Tryd.pinned (.plain (OpenSpec.ofChange ltlAgainSpec)) ltlAgainCard

/-- THE SECOND FORM's CARD OF 'watchlaw.LtlSays'. -/
def ltlSaysUptoCard : Claim7 := { stood := { row := ltlSaysUptoRow, standIns := [], harness := (true, "d6014138dae1a6441d5f2657dad531ab099abe11dc5db65c105151303f567e45"), looks := true }, kinds := [], alts := [], laidByText := true, laidKinds := [.data, .data], laidTests := true, laidLooks := .later }
def LtlSaysUptoCardSaid : Prop := Claim7.holds Tryd.pinned (.plain (OpenSpec.upto ltlSaysSpec)) ltlSaysUptoCard

/-- THE SECOND FORM's CARD OF 'watchlaw.LtlReads'. -/
def ltlReadsUptoCard : Claim7 := { stood := { row := ltlReadsUptoRow, standIns := [], harness := (true, "d6014138dae1a6441d5f2657dad531ab099abe11dc5db65c105151303f567e45"), looks := true }, kinds := [], alts := [], laidByText := true, laidKinds := [.handle, .sentinel, .sentinel, .sentinel, .sentinel, .data, .data], laidTests := true, laidLooks := .later }
def LtlReadsUptoCardSaid : Prop := Claim7.holds Tryd.pinned (.plain (OpenSpec.upto ltlReadsSpec)) ltlReadsUptoCard

/-- THE SECOND FORM's CARD OF 'watchkeep.LtlBack'. -/
def ltlBackUptoCard : Claim7 := { stood := { row := ltlBackUptoRow, standIns := [], harness := (true, "d6014138dae1a6441d5f2657dad531ab099abe11dc5db65c105151303f567e45"), looks := true }, kinds := [], alts := [], laidByText := true, laidKinds := [.handle, .sentinel, .sentinel, .sentinel, .sentinel, .data, .data], laidTests := true, laidLooks := .later }
def LtlBackUptoCardSaid : Prop := Claim7.holds Tryd.pinned (.plain (OpenSpec.upto ltlBackSpec)) ltlBackUptoCard

/-- THE SECOND FORM's CARD OF 'watchkeep.LtlAgain'. -/
def ltlAgainUptoCard : Claim7 := { stood := { row := ltlAgainUptoRow, standIns := [], harness := (true, "d6014138dae1a6441d5f2657dad531ab099abe11dc5db65c105151303f567e45"), looks := true }, kinds := [], alts := [], laidByText := true, laidKinds := [.handle, .sentinel, .sentinel, .sentinel, .sentinel, .data, .data], laidTests := true, laidLooks := .later }
def LtlAgainUptoCardSaid : Prop := Claim7.holds Tryd.pinned (.plain (OpenSpec.upto ltlAgainSpec)) ltlAgainUptoCard
end Rows
end Go.Proofs.YtgpjlgffmlkkoaaDoor
