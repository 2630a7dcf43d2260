/- An automaton in memory; the states with which a letter goes; where one goes on. -/
import Derived.Deep.RegionHeld3
import Derived.Test.YtgahdclbaifcbaaStc
import Derived.Test.YtgahdclbaifcbaaRws
namespace Go.Proofs.Ytgahdclbaifcbaa
open Go.RowKit

theorem cell_alloc1 {w : World} {p : Addr} {v : Value} (o : Obj) (h : w.cell? p = some v) : (w.alloc o).cell? p = some v := below_cell (box_below w o) (Nat.le_refl _) h

end Go.Proofs.Ytgahdclbaifcbaa

