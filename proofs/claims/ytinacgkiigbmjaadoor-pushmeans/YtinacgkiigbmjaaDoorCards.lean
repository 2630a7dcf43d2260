/-
  DERIVED. GIVEN WITH THE SEED: THE CARDS: each row of YtinacgkiigbmjaaDoorRows.lean that lists a variable, with what it lists TIED to the program's text (the seventh form; the later family's looks); each row that meets fmt, with fmt's text TOLD by the authors' own Lean function (tested against real Go, not proved from fmt's source: count such statements apart). THE CARD IS WHAT COUNTS. Prove the row's statement (the work); the ties are given (YtinacgkiigbmjaaDoorTie.lean); close each card by the builder's one call (the guide's Derived/Test/ToyasCard.lean, 'card_holds'). Laid BY PROGRAM, IN A SANDBOX (cutbox-door.mjs). By AI agents, Wed Nov 11 2026. No macro, syntax, notation, axiom, sorry.
-/
import Derived.Test.YtinacgkiigbmjaaDoorRows
import GoSem.ClaimSeven
namespace Go.Proofs.YtinacgkiigbmjaaDoor
namespace Rows

/-- THE TIED CARD OF 'watchlaw.PushNots'. -/
def pushNotsCard : Claim7 := { stood := { row := pushNotsRow, standIns := [], harness := (true, "0b335da91cf417b0c0db5b65f477772c9265cec9e8d2cedbf01294977f2a346b"), looks := false }, kinds := [], alts := [], laidByText := true, laidKinds := [.data, .data, .data], laidTests := true, laidLooks := .later }
def PushNotsCardSaid : Prop := Claim7.holds Tryd.pinned (.plain (OpenSpec.ofChange pushNotsSpec)) pushNotsCard

/-- THE TIED CARD OF 'watchlaw.PushSlim'. -/
def pushSlimCard : Claim7 := { stood := { row := pushSlimRow, standIns := [], harness := (true, "0b335da91cf417b0c0db5b65f477772c9265cec9e8d2cedbf01294977f2a346b"), looks := false }, kinds := [], alts := [], laidByText := true, laidKinds := [.data, .data], laidTests := true, laidLooks := .later }
def PushSlimCardSaid : Prop := Claim7.holds Tryd.pinned (.plain (OpenSpec.ofChange pushSlimSpec)) pushSlimCard

/-- THE TIED CARD OF 'watchkeep.PushMeans'. -/
def pushMeansCard : Claim7 := { stood := { row := pushMeansRow, standIns := [], harness := (true, "0b335da91cf417b0c0db5b65f477772c9265cec9e8d2cedbf01294977f2a346b"), looks := false }, kinds := [], alts := [], laidByText := true, laidKinds := [.data, .data], laidTests := true, laidLooks := .later }
def PushMeansCardSaid : Prop := Claim7.holds Tryd.pinned (.plain (OpenSpec.ofChange pushMeansSpec)) pushMeansCard

/-- THE TIED CARD OF 'watchkeep.PushShapes'. -/
def pushShapesCard : Claim7 := { stood := { row := pushShapesRow, standIns := [], harness := (true, "0b335da91cf417b0c0db5b65f477772c9265cec9e8d2cedbf01294977f2a346b"), looks := false }, kinds := [], alts := [], laidByText := true, laidKinds := [.data, .data], laidTests := true, laidLooks := .later }
def PushShapesCardSaid : Prop := Claim7.holds Tryd.pinned (.plain (OpenSpec.ofChange pushShapesSpec)) pushShapesCard

/-- THE SECOND FORM's CARD OF 'watchlaw.PushNots'. -/
def pushNotsUptoCard : Claim7 := { stood := { row := pushNotsUptoRow, standIns := [], harness := (true, "0b335da91cf417b0c0db5b65f477772c9265cec9e8d2cedbf01294977f2a346b"), looks := false }, kinds := [], alts := [], laidByText := true, laidKinds := [.data, .data, .data], laidTests := true, laidLooks := .later }
def PushNotsUptoCardSaid : Prop := Claim7.holds Tryd.pinned (.plain (OpenSpec.upto pushNotsSpec)) pushNotsUptoCard

/-- THE SECOND FORM's CARD OF 'watchlaw.PushSlim'. -/
def pushSlimUptoCard : Claim7 := { stood := { row := pushSlimUptoRow, standIns := [], harness := (true, "0b335da91cf417b0c0db5b65f477772c9265cec9e8d2cedbf01294977f2a346b"), looks := false }, kinds := [], alts := [], laidByText := true, laidKinds := [.data, .data], laidTests := true, laidLooks := .later }
def PushSlimUptoCardSaid : Prop := Claim7.holds Tryd.pinned (.plain (OpenSpec.upto pushSlimSpec)) pushSlimUptoCard

/-- THE SECOND FORM's CARD OF 'watchkeep.PushMeans'. -/
def pushMeansUptoCard : Claim7 := { stood := { row := pushMeansUptoRow, standIns := [], harness := (true, "0b335da91cf417b0c0db5b65f477772c9265cec9e8d2cedbf01294977f2a346b"), looks := false }, kinds := [], alts := [], laidByText := true, laidKinds := [.data, .data], laidTests := true, laidLooks := .later }
def PushMeansUptoCardSaid : Prop := Claim7.holds Tryd.pinned (.plain (OpenSpec.upto pushMeansSpec)) pushMeansUptoCard

/-- THE SECOND FORM's CARD OF 'watchkeep.PushShapes'. -/
def pushShapesUptoCard : Claim7 := { stood := { row := pushShapesUptoRow, standIns := [], harness := (true, "0b335da91cf417b0c0db5b65f477772c9265cec9e8d2cedbf01294977f2a346b"), looks := false }, kinds := [], alts := [], laidByText := true, laidKinds := [.data, .data], laidTests := true, laidLooks := .later }
def PushShapesUptoCardSaid : Prop := Claim7.holds Tryd.pinned (.plain (OpenSpec.upto pushShapesSpec)) pushShapesUptoCard
end Rows
end Go.Proofs.YtinacgkiigbmjaaDoor
