/-
  DERIVED. GIVEN WITH THE SEED: THE PROGRAM's TIES (one call each: nine closed facts by the kernel) AND EACH ROW's TIE, after the 31st guide's Derived/Test/Toyas{Tie, Card}.lean. No idea stands in it: it is a product of the set-up. Laid BY PROGRAM, IN A SANDBOX (cutbox-door.mjs). By AI agents, Wed Nov 11 2026. No macro, syntax, notation, axiom, sorry.
-/
import Derived.Test.YtinacgkiigbmjaaDoorRows
import Derived.LaidByTextLater
import Derived.SevenTiedAt
import Derived.LaidSub
import Derived.LaidOnce
namespace Go.Proofs.YtinacgkiigbmjaaDoor
open Go
set_option maxRecDepth 100000
theorem seatTie1 : Tryd.prog.laidByTextLater [("watchway/ltl.kidCounts", Rows.laid_watchway_ltl_kidCounts), ("watchway/push.opposites", Rows.laid_watchway_push_opposites), ("watchway/watchref.opposites", Rows.laid_watchway_watchref_opposites)] [.data, .data, .data] true :=
  Program.laidByTextLater_by_one 24 8 13 (by kernel_rfl) (by kernel_rfl) (by kernel_rfl) (by kernel_rfl) (by kernel_rfl) (by kernel_rfl) (fun _ _ => by kernel_rfl)
theorem noOwnUnsafe : Tryd.pinned.checked.prog.headLifts.contains "ownunsafe" = false := by kernel_rfl
theorem tie : Tryd.prog.laidByTextLater [("watchway/ltl.kidCounts", Rows.laid_watchway_ltl_kidCounts), ("watchway/push.opposites", Rows.laid_watchway_push_opposites), ("watchway/watchref.opposites", Rows.laid_watchway_watchref_opposites)] [.data, .data, .data] true :=
  Program.laidByTextLater.sub seatTie1 ["watchway/ltl.kidCounts", "watchway/push.opposites", "watchway/watchref.opposites"] (by kernel_rfl) (by kernel_rfl)
theorem pushNots_row_tie : Rows.pushNotsRow.laidByTextAt .later Tryd.pinned [.data, .data, .data] true :=
  OpenClaim.laidByTextAt_later rfl rfl tie noOwnUnsafe
theorem tie2 : Tryd.prog.laidByTextLater [("watchway/ltl.kidCounts", Rows.laid_watchway_ltl_kidCounts), ("watchway/push.opposites", Rows.laid_watchway_push_opposites)] [.data, .data] true :=
  Program.laidByTextLater.sub seatTie1 ["watchway/ltl.kidCounts", "watchway/push.opposites"] (by kernel_rfl) (by kernel_rfl)
theorem pushSlim_row_tie : Rows.pushSlimRow.laidByTextAt .later Tryd.pinned [.data, .data] true :=
  OpenClaim.laidByTextAt_later rfl rfl tie2 noOwnUnsafe
theorem pushMeans_row_tie : Rows.pushMeansRow.laidByTextAt .later Tryd.pinned [.data, .data] true :=
  OpenClaim.laidByTextAt_later rfl rfl tie2 noOwnUnsafe
theorem pushShapes_row_tie : Rows.pushShapesRow.laidByTextAt .later Tryd.pinned [.data, .data] true :=
  OpenClaim.laidByTextAt_later rfl rfl tie2 noOwnUnsafe
theorem pushNotsUpto_row_tie : Rows.pushNotsUptoRow.laidByTextAt .later Tryd.pinned [.data, .data, .data] true :=
  OpenClaim.laidByTextAt_later rfl rfl tie noOwnUnsafe
theorem pushSlimUpto_row_tie : Rows.pushSlimUptoRow.laidByTextAt .later Tryd.pinned [.data, .data] true :=
  OpenClaim.laidByTextAt_later rfl rfl tie2 noOwnUnsafe
theorem pushMeansUpto_row_tie : Rows.pushMeansUptoRow.laidByTextAt .later Tryd.pinned [.data, .data] true :=
  OpenClaim.laidByTextAt_later rfl rfl tie2 noOwnUnsafe
theorem pushShapesUpto_row_tie : Rows.pushShapesUptoRow.laidByTextAt .later Tryd.pinned [.data, .data] true :=
  OpenClaim.laidByTextAt_later rfl rfl tie2 noOwnUnsafe
end Go.Proofs.YtinacgkiigbmjaaDoor
