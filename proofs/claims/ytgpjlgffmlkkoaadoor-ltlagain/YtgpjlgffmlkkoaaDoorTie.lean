/-
  DERIVED. GIVEN WITH THE SEED: THE PROGRAM's TIES (one call each: nine closed facts by the kernel) AND EACH ROW's TIE, after the 31st guide's Derived/Test/Toyas{Tie, Card}.lean. No idea stands in it: it is a product of the set-up. Laid BY PROGRAM, IN A SANDBOX (cutbox-door.mjs). By AI agents, Wed Nov 11 2026. No macro, syntax, notation, axiom, sorry.
-/
import Derived.Test.YtgpjlgffmlkkoaaDoorRows
import Derived.LaidByTextLater
import Derived.SevenTiedAt
import Derived.LaidSub
import Derived.LaidOnce
namespace Go.Proofs.YtgpjlgffmlkkoaaDoor
open Go
set_option maxRecDepth 100000
theorem seatTie1 : Tryd.prog.laidByTextLater [("errors.errorType", Rows.laid_errors_errorType), ("watchway/ltl.errLarge", Rows.laid_watchway_ltl_errLarge), ("watchway/ltl.errDeep", Rows.laid_watchway_ltl_errDeep), ("watchway/ltl.errName", Rows.laid_watchway_ltl_errName), ("watchway/ltl.errSyntax", Rows.laid_watchway_ltl_errSyntax), ("watchway/ltl.kidCounts", Rows.laid_watchway_ltl_kidCounts), ("watchway/ltl.signs", Rows.laid_watchway_ltl_signs)] [.handle, .sentinel, .sentinel, .sentinel, .sentinel, .data, .data] true :=
  Program.laidByTextLater_by_one 102 8 13 (by kernel_rfl) (by kernel_rfl) (by kernel_rfl) (by kernel_rfl) (by kernel_rfl) (by kernel_rfl) (fun _ _ => by kernel_rfl)
theorem noOwnUnsafe : Tryd.pinned.checked.prog.headLifts.contains "ownunsafe" = false := by kernel_rfl
theorem tie : Tryd.prog.laidByTextLater [("watchway/ltl.kidCounts", Rows.laid_watchway_ltl_kidCounts), ("watchway/ltl.signs", Rows.laid_watchway_ltl_signs)] [.data, .data] true :=
  Program.laidByTextLater.sub seatTie1 ["watchway/ltl.kidCounts", "watchway/ltl.signs"] (by kernel_rfl) (by kernel_rfl)
theorem ltlSays_row_tie : Rows.ltlSaysRow.laidByTextAt .later Tryd.pinned [.data, .data] true :=
  OpenClaim.laidByTextAt_later rfl rfl tie noOwnUnsafe
theorem tie2 : Tryd.prog.laidByTextLater [("errors.errorType", Rows.laid_errors_errorType), ("watchway/ltl.errLarge", Rows.laid_watchway_ltl_errLarge), ("watchway/ltl.errDeep", Rows.laid_watchway_ltl_errDeep), ("watchway/ltl.errName", Rows.laid_watchway_ltl_errName), ("watchway/ltl.errSyntax", Rows.laid_watchway_ltl_errSyntax), ("watchway/ltl.kidCounts", Rows.laid_watchway_ltl_kidCounts), ("watchway/ltl.signs", Rows.laid_watchway_ltl_signs)] [.handle, .sentinel, .sentinel, .sentinel, .sentinel, .data, .data] true :=
  Program.laidByTextLater.sub seatTie1 ["errors.errorType", "watchway/ltl.errLarge", "watchway/ltl.errDeep", "watchway/ltl.errName", "watchway/ltl.errSyntax", "watchway/ltl.kidCounts", "watchway/ltl.signs"] (by kernel_rfl) (by kernel_rfl)
theorem ltlReads_row_tie : Rows.ltlReadsRow.laidByTextAt .later Tryd.pinned [.handle, .sentinel, .sentinel, .sentinel, .sentinel, .data, .data] true :=
  OpenClaim.laidByTextAt_later rfl rfl tie2 noOwnUnsafe
theorem ltlBack_row_tie : Rows.ltlBackRow.laidByTextAt .later Tryd.pinned [.handle, .sentinel, .sentinel, .sentinel, .sentinel, .data, .data] true :=
  OpenClaim.laidByTextAt_later rfl rfl tie2 noOwnUnsafe
theorem ltlAgain_row_tie : Rows.ltlAgainRow.laidByTextAt .later Tryd.pinned [.handle, .sentinel, .sentinel, .sentinel, .sentinel, .data, .data] true :=
  OpenClaim.laidByTextAt_later rfl rfl tie2 noOwnUnsafe
theorem ltlSaysUpto_row_tie : Rows.ltlSaysUptoRow.laidByTextAt .later Tryd.pinned [.data, .data] true :=
  OpenClaim.laidByTextAt_later rfl rfl tie noOwnUnsafe
theorem ltlReadsUpto_row_tie : Rows.ltlReadsUptoRow.laidByTextAt .later Tryd.pinned [.handle, .sentinel, .sentinel, .sentinel, .sentinel, .data, .data] true :=
  OpenClaim.laidByTextAt_later rfl rfl tie2 noOwnUnsafe
theorem ltlBackUpto_row_tie : Rows.ltlBackUptoRow.laidByTextAt .later Tryd.pinned [.handle, .sentinel, .sentinel, .sentinel, .sentinel, .data, .data] true :=
  OpenClaim.laidByTextAt_later rfl rfl tie2 noOwnUnsafe
theorem ltlAgainUpto_row_tie : Rows.ltlAgainUptoRow.laidByTextAt .later Tryd.pinned [.handle, .sentinel, .sentinel, .sentinel, .sentinel, .data, .data] true :=
  OpenClaim.laidByTextAt_later rfl rfl tie2 noOwnUnsafe
end Go.Proofs.YtgpjlgffmlkkoaaDoor
