/-
  DERIVED. GIVEN WITH THE SEED: THE CARDS: each row of YtejombhfkobcbaaDoorRows.lean that lists a variable, with what it lists TIED to the program's text (the seventh form; the later family's looks); each row that meets fmt, with fmt's text TOLD by the authors' own Lean function (tested against real Go, not proved from fmt's source: count such statements apart). THE CARD IS WHAT COUNTS. Prove the row's statement (the work); the ties are given (YtejombhfkobcbaaDoorTie.lean); close each card by the builder's one call (the guide's Derived/Test/ToyasCard.lean, 'card_holds'). Laid BY PROGRAM, IN A SANDBOX (cutbox-door.mjs). By AI agents, Wed Nov 11 2026. No macro, syntax, notation, axiom, sorry.
-/
import Derived.Test.YtejombhfkobcbaaDoorRows
import GoSem.ClaimSeven
namespace Go.Proofs.YtejombhfkobcbaaDoor
namespace Rows

/-- THE TIED CARD OF 'watchlaw.LassoSays'. -/
def lassoSaysCard : Claim7 := { stood := { row := lassoSaysRow, standIns := [], harness := (true, "c97445d4fa4021757d0d5dee12317714ba35b9c82891f7be6a4f3645c15d15a5"), looks := false }, kinds := [], alts := [], laidByText := true, laidKinds := [.data], laidTests := true, laidLooks := .later }
def LassoSaysCardSaid : Prop := Claim7.holds Tryd.pinned (.plain (OpenSpec.ofChange lassoSaysSpec)) lassoSaysCard

/-- THE TIED CARD OF 'watchkeep.LassoLaws'. -/
def lassoLawsCard : Claim7 := { stood := { row := lassoLawsRow, standIns := [], harness := (true, "c97445d4fa4021757d0d5dee12317714ba35b9c82891f7be6a4f3645c15d15a5"), looks := false }, kinds := [], alts := [], laidByText := true, laidKinds := [.data], laidTests := true, laidLooks := .later }
def LassoLawsCardSaid : Prop := Claim7.holds Tryd.pinned (.plain (OpenSpec.ofChange lassoLawsSpec)) lassoLawsCard

/-- THE TIED CARD OF 'watchkeep.LassoTurns'. -/
def lassoTurnsCard : Claim7 := { stood := { row := lassoTurnsRow, standIns := [], harness := (true, "c97445d4fa4021757d0d5dee12317714ba35b9c82891f7be6a4f3645c15d15a5"), looks := false }, kinds := [], alts := [], laidByText := true, laidKinds := [.data], laidTests := true, laidLooks := .later }
def LassoTurnsCardSaid : Prop := Claim7.holds Tryd.pinned (.plain (OpenSpec.ofChange lassoTurnsSpec)) lassoTurnsCard

/-- THE TIED CARD OF 'watchkeep.LassoNext'. -/
def lassoNextCard : Claim7 := { stood := { row := lassoNextRow, standIns := [], harness := (true, "c97445d4fa4021757d0d5dee12317714ba35b9c82891f7be6a4f3645c15d15a5"), looks := false }, kinds := [], alts := [], laidByText := true, laidKinds := [.data], laidTests := true, laidLooks := .later }
def LassoNextCardSaid : Prop := Claim7.holds Tryd.pinned (.plain (OpenSpec.ofChange lassoNextSpec)) lassoNextCard

/-- THE TIED CARD OF 'watchkeep.LassoStutters'. -/
def lassoStuttersCard : Claim7 := { stood := { row := lassoStuttersRow, standIns := [], harness := (true, "c97445d4fa4021757d0d5dee12317714ba35b9c82891f7be6a4f3645c15d15a5"), looks := false }, kinds := [], alts := [], laidByText := true, laidKinds := [.data], laidTests := true, laidLooks := .later }
def LassoStuttersCardSaid : Prop := Claim7.holds Tryd.pinned (.plain (OpenSpec.ofChange lassoStuttersSpec)) lassoStuttersCard

/-- THE SECOND FORM's CARD OF 'watchlaw.LassoSays'. -/
def lassoSaysUptoCard : Claim7 := { stood := { row := lassoSaysUptoRow, standIns := [], harness := (true, "c97445d4fa4021757d0d5dee12317714ba35b9c82891f7be6a4f3645c15d15a5"), looks := false }, kinds := [], alts := [], laidByText := true, laidKinds := [.data], laidTests := true, laidLooks := .later }
def LassoSaysUptoCardSaid : Prop := Claim7.holds Tryd.pinned (.plain (OpenSpec.upto lassoSaysSpec)) lassoSaysUptoCard

/-- THE SECOND FORM's CARD OF 'watchkeep.LassoLaws'. -/
def lassoLawsUptoCard : Claim7 := { stood := { row := lassoLawsUptoRow, standIns := [], harness := (true, "c97445d4fa4021757d0d5dee12317714ba35b9c82891f7be6a4f3645c15d15a5"), looks := false }, kinds := [], alts := [], laidByText := true, laidKinds := [.data], laidTests := true, laidLooks := .later }
def LassoLawsUptoCardSaid : Prop := Claim7.holds Tryd.pinned (.plain (OpenSpec.upto lassoLawsSpec)) lassoLawsUptoCard

/-- THE SECOND FORM's CARD OF 'watchkeep.LassoTurns'. -/
def lassoTurnsUptoCard : Claim7 := { stood := { row := lassoTurnsUptoRow, standIns := [], harness := (true, "c97445d4fa4021757d0d5dee12317714ba35b9c82891f7be6a4f3645c15d15a5"), looks := false }, kinds := [], alts := [], laidByText := true, laidKinds := [.data], laidTests := true, laidLooks := .later }
def LassoTurnsUptoCardSaid : Prop := Claim7.holds Tryd.pinned (.plain (OpenSpec.upto lassoTurnsSpec)) lassoTurnsUptoCard

/-- THE SECOND FORM's CARD OF 'watchkeep.LassoNext'. -/
def lassoNextUptoCard : Claim7 := { stood := { row := lassoNextUptoRow, standIns := [], harness := (true, "c97445d4fa4021757d0d5dee12317714ba35b9c82891f7be6a4f3645c15d15a5"), looks := false }, kinds := [], alts := [], laidByText := true, laidKinds := [.data], laidTests := true, laidLooks := .later }
def LassoNextUptoCardSaid : Prop := Claim7.holds Tryd.pinned (.plain (OpenSpec.upto lassoNextSpec)) lassoNextUptoCard

/-- THE SECOND FORM's CARD OF 'watchkeep.LassoStutters'. -/
def lassoStuttersUptoCard : Claim7 := { stood := { row := lassoStuttersUptoRow, standIns := [], harness := (true, "c97445d4fa4021757d0d5dee12317714ba35b9c82891f7be6a4f3645c15d15a5"), looks := false }, kinds := [], alts := [], laidByText := true, laidKinds := [.data], laidTests := true, laidLooks := .later }
def LassoStuttersUptoCardSaid : Prop := Claim7.holds Tryd.pinned (.plain (OpenSpec.upto lassoStuttersSpec)) lassoStuttersUptoCard
end Rows
end Go.Proofs.YtejombhfkobcbaaDoor
