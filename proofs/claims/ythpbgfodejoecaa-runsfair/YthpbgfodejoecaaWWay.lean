
import Derived.Deep.Heap
import Derived.Deep.RegionHeld3
import Derived.Deep.WholeRow
import Derived.Deep.MidRow
import Derived.Laws.Bits64b
import Derived.Lib.TrailingZeros
import Derived.Deep.OwnRows
import Derived.Maps.AppendAt
import Derived.WalkKit
import Derived.WalkSpells
import Derived.WalkLawsBesides
import Derived.Deep.QuietTactic
import Derived.BigQuiet
import Derived.Below
import Derived.Test.YthpbgfodejoecaaBfsJ
import Derived.Test.YthpbgfodejoecaaDistJ
import Derived.Test.YthpbgfodejoecaaDist2J
import Derived.Test.YthpbgfodejoecaaLeafJ
import Derived.Test.YthpbgfodejoecaaProc
import Derived.Test.YthpbgfodejoecaaProc2
import Derived.Test.YthpbgfodejoecaaSpFaceJ
import Derived.Test.YthpbgfodejoecaaWBaseJ
import Derived.Test.YthpbgfodejoecaaWFaiJ
/- EMERSON, LEI's set, round by round, apart from memory. -/
namespace Go.Proofs.Ythpbgfodejoecaa
open Go.RowKit

/-- The goings of a graph of lists. -/
def Ew (n : Nat) (L : Nat → Nat) (Z : Nat → Nat → Int) (i t : Nat) : Prop := i < n ∧ has (L i) (Z i) t = true

end Go.Proofs.Ythpbgfodejoecaa
