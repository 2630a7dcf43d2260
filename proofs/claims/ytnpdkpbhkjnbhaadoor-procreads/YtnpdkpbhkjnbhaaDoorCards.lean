/-
  DERIVED. GIVEN WITH THE SEED: THE CARDS: each row of YtnpdkpbhkjnbhaaDoorRows.lean that lists a variable, with what it lists TIED to the program's text (the seventh form; the later family's looks); each row that meets fmt, with fmt's text TOLD by the authors' own Lean function (tested against real Go, not proved from fmt's source: count such statements apart). THE CARD IS WHAT COUNTS. Prove the row's statement (the work); the ties are given (YtnpdkpbhkjnbhaaDoorTie.lean); close each card by the builder's one call (the guide's Derived/Test/ToyasCard.lean, 'card_holds'). Laid BY PROGRAM, IN A SANDBOX (cutbox-door.mjs). By AI agents, Wed Nov 11 2026. No macro, syntax, notation, axiom, sorry.
-/
import Derived.Test.YtnpdkpbhkjnbhaaDoorRows
import GoSem.ClaimSeven
namespace Go.Proofs.YtnpdkpbhkjnbhaaDoor
namespace Rows

/-- THE TIED CARD OF 'watchlaw.ProcReads'. -/
def procReadsCard : Claim7 := { stood := { row := procReadsRow, standIns := [], harness := (true, "b695086560639a8467b805a859a757878382bfa7a098e66b6167e5b8777b59d0"), looks := false }, kinds := [], alts := [], laidByText := true, laidKinds := [.data, .data, .pinned], laidTests := true, laidLooks := .later }
def ProcReadsCardSaid : Prop := Claim7.holds Tryd.pinned (.plain (OpenSpec.ofChange procReadsSpec)) procReadsCard

/-- THE TIED CARD OF 'watchkeep.ProcBack'. -/
def procBackCard : Claim7 := { stood := { row := procBackRow, standIns := [], harness := (true, "b695086560639a8467b805a859a757878382bfa7a098e66b6167e5b8777b59d0"), looks := false }, kinds := [], alts := [], laidByText := true, laidKinds := [.data, .data, .pinned], laidTests := true, laidLooks := .later }
def ProcBackCardSaid : Prop := Claim7.holds Tryd.pinned (.plain (OpenSpec.ofChange procBackSpec)) procBackCard

/-- THE TIED CARD OF 'watchkeep.ProcAgain'. -/
def procAgainCard : Claim7 := { stood := { row := procAgainRow, standIns := [], harness := (true, "b695086560639a8467b805a859a757878382bfa7a098e66b6167e5b8777b59d0"), looks := false }, kinds := [], alts := [], laidByText := true, laidKinds := [.data, .data, .pinned], laidTests := true, laidLooks := .later }
def ProcAgainCardSaid : Prop := Claim7.holds Tryd.pinned (.plain (OpenSpec.ofChange procAgainSpec)) procAgainCard

/-- THE SECOND FORM's CARD OF 'watchlaw.ProcReads'. -/
def procReadsUptoCard : Claim7 := { stood := { row := procReadsUptoRow, standIns := [], harness := (true, "b695086560639a8467b805a859a757878382bfa7a098e66b6167e5b8777b59d0"), looks := false }, kinds := [], alts := [], laidByText := true, laidKinds := [.data, .data, .pinned], laidTests := true, laidLooks := .later }
def ProcReadsUptoCardSaid : Prop := Claim7.holds Tryd.pinned (.plain (OpenSpec.upto procReadsSpec)) procReadsUptoCard

/-- THE SECOND FORM's CARD OF 'watchkeep.ProcBack'. -/
def procBackUptoCard : Claim7 := { stood := { row := procBackUptoRow, standIns := [], harness := (true, "b695086560639a8467b805a859a757878382bfa7a098e66b6167e5b8777b59d0"), looks := false }, kinds := [], alts := [], laidByText := true, laidKinds := [.data, .data, .pinned], laidTests := true, laidLooks := .later }
def ProcBackUptoCardSaid : Prop := Claim7.holds Tryd.pinned (.plain (OpenSpec.upto procBackSpec)) procBackUptoCard

/-- THE SECOND FORM's CARD OF 'watchkeep.ProcAgain'. -/
def procAgainUptoCard : Claim7 := { stood := { row := procAgainUptoRow, standIns := [], harness := (true, "b695086560639a8467b805a859a757878382bfa7a098e66b6167e5b8777b59d0"), looks := false }, kinds := [], alts := [], laidByText := true, laidKinds := [.data, .data, .pinned], laidTests := true, laidLooks := .later }
def ProcAgainUptoCardSaid : Prop := Claim7.holds Tryd.pinned (.plain (OpenSpec.upto procAgainSpec)) procAgainUptoCard
end Rows
end Go.Proofs.YtnpdkpbhkjnbhaaDoor
