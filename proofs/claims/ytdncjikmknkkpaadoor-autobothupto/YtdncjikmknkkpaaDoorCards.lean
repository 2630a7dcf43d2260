/-
  DERIVED. GIVEN WITH THE SEED: THE CARDS: each row of YtdncjikmknkkpaaDoorRows.lean that lists a variable, with what it lists TIED to the program's text (the seventh form; the later family's looks); each row that meets fmt, with fmt's text TOLD by the authors' own Lean function (tested against real Go, not proved from fmt's source: count such statements apart). THE CARD IS WHAT COUNTS. Prove the row's statement (the work); the ties are given (YtdncjikmknkkpaaDoorTie.lean); close each card by the builder's one call (the guide's Derived/Test/ToyasCard.lean, 'card_holds'). Laid BY PROGRAM, IN A SANDBOX (cutbox-door.mjs). By AI agents, Wed Nov 11 2026. No macro, syntax, notation, axiom, sorry.
-/
import Derived.Test.YtdncjikmknkkpaaDoorRows
import GoSem.ClaimSeven
namespace Go.Proofs.YtdncjikmknkkpaaDoor
namespace Rows

/-- THE TIED CARD OF 'watchlaw.AutoSays'. -/
def autoSaysCard : Claim7 := { stood := { row := autoSaysRow, standIns := [], harness := (true, "a99b53583c2931205428fb7b5f717455e7aa55016c9e4792ed0ace00e1c18dec"), looks := false }, kinds := [], alts := [], laidByText := true, laidKinds := [.data], laidTests := true, laidLooks := .later }
def AutoSaysCardSaid : Prop := Claim7.holds Tryd.pinned (.plain (OpenSpec.ofChange autoSaysSpec)) autoSaysCard

/-- THE TIED CARD OF 'watchlaw.AutoBoth'. -/
def autoBothCard : Claim7 := { stood := { row := autoBothRow, standIns := [], harness := (true, "a99b53583c2931205428fb7b5f717455e7aa55016c9e4792ed0ace00e1c18dec"), looks := false }, kinds := [], alts := [], laidByText := true, laidKinds := [.data], laidTests := true, laidLooks := .later }
def AutoBothCardSaid : Prop := Claim7.holds Tryd.pinned (.plain (OpenSpec.ofChange autoBothSpec)) autoBothCard

/-- THE TIED CARD OF 'watchkeep.AutoPairs'. -/
def autoPairsCard : Claim7 := { stood := { row := autoPairsRow, standIns := [], harness := (true, "a99b53583c2931205428fb7b5f717455e7aa55016c9e4792ed0ace00e1c18dec"), looks := false }, kinds := [], alts := [], laidByText := true, laidKinds := [.data], laidTests := true, laidLooks := .later }
def AutoPairsCardSaid : Prop := Claim7.holds Tryd.pinned (.plain (OpenSpec.ofChange autoPairsSpec)) autoPairsCard

/-- THE TIED CARD OF 'watchkeep.AutoOne'. -/
def autoOneCard : Claim7 := { stood := { row := autoOneRow, standIns := [], harness := (true, "a99b53583c2931205428fb7b5f717455e7aa55016c9e4792ed0ace00e1c18dec"), looks := false }, kinds := [], alts := [], laidByText := true, laidKinds := [.data], laidTests := true, laidLooks := .later }
def AutoOneCardSaid : Prop := Claim7.holds Tryd.pinned (.plain (OpenSpec.ofChange autoOneSpec)) autoOneCard

/-- THE TIED CARD OF 'watchkeep.AutoWords'. -/
def autoWordsCard : Claim7 := { stood := { row := autoWordsRow, standIns := [], harness := (true, "a99b53583c2931205428fb7b5f717455e7aa55016c9e4792ed0ace00e1c18dec"), looks := false }, kinds := [], alts := [], laidByText := true, laidKinds := [.data], laidTests := true, laidLooks := .later }
def AutoWordsCardSaid : Prop := Claim7.holds Tryd.pinned (.plain (OpenSpec.ofChange autoWordsSpec)) autoWordsCard

/-- THE SECOND FORM's CARD OF 'watchlaw.AutoSays'. -/
def autoSaysUptoCard : Claim7 := { stood := { row := autoSaysUptoRow, standIns := [], harness := (true, "a99b53583c2931205428fb7b5f717455e7aa55016c9e4792ed0ace00e1c18dec"), looks := false }, kinds := [], alts := [], laidByText := true, laidKinds := [.data], laidTests := true, laidLooks := .later }
def AutoSaysUptoCardSaid : Prop := Claim7.holds Tryd.pinned (.plain (OpenSpec.upto autoSaysSpec)) autoSaysUptoCard

/-- THE SECOND FORM's CARD OF 'watchlaw.AutoBoth'. -/
def autoBothUptoCard : Claim7 := { stood := { row := autoBothUptoRow, standIns := [], harness := (true, "a99b53583c2931205428fb7b5f717455e7aa55016c9e4792ed0ace00e1c18dec"), looks := false }, kinds := [], alts := [], laidByText := true, laidKinds := [.data], laidTests := true, laidLooks := .later }
def AutoBothUptoCardSaid : Prop := Claim7.holds Tryd.pinned (.plain (OpenSpec.upto autoBothSpec)) autoBothUptoCard

/-- THE SECOND FORM's CARD OF 'watchkeep.AutoPairs'. -/
def autoPairsUptoCard : Claim7 := { stood := { row := autoPairsUptoRow, standIns := [], harness := (true, "a99b53583c2931205428fb7b5f717455e7aa55016c9e4792ed0ace00e1c18dec"), looks := false }, kinds := [], alts := [], laidByText := true, laidKinds := [.data], laidTests := true, laidLooks := .later }
def AutoPairsUptoCardSaid : Prop := Claim7.holds Tryd.pinned (.plain (OpenSpec.upto autoPairsSpec)) autoPairsUptoCard

/-- THE SECOND FORM's CARD OF 'watchkeep.AutoOne'. -/
def autoOneUptoCard : Claim7 := { stood := { row := autoOneUptoRow, standIns := [], harness := (true, "a99b53583c2931205428fb7b5f717455e7aa55016c9e4792ed0ace00e1c18dec"), looks := false }, kinds := [], alts := [], laidByText := true, laidKinds := [.data], laidTests := true, laidLooks := .later }
def AutoOneUptoCardSaid : Prop := Claim7.holds Tryd.pinned (.plain (OpenSpec.upto autoOneSpec)) autoOneUptoCard

/-- THE SECOND FORM's CARD OF 'watchkeep.AutoWords'. -/
def autoWordsUptoCard : Claim7 := { stood := { row := autoWordsUptoRow, standIns := [], harness := (true, "a99b53583c2931205428fb7b5f717455e7aa55016c9e4792ed0ace00e1c18dec"), looks := false }, kinds := [], alts := [], laidByText := true, laidKinds := [.data], laidTests := true, laidLooks := .later }
def AutoWordsUptoCardSaid : Prop := Claim7.holds Tryd.pinned (.plain (OpenSpec.upto autoWordsSpec)) autoWordsUptoCard
end Rows
end Go.Proofs.YtdncjikmknkkpaaDoor
