/- What came in, opened: a list of numbers, a graph, letters, a word, an automaton. -/
import Derived.Test.YtdncjikmknkkpaaDoorRows
import Derived.ProofKit
import Derived.OpenShut
import Derived.ShutString
import Derived.ChangeOld
import Derived.SizedLaws
import Derived.Deep.Slices
import Derived.Deep.Matrix
import Derived.Lib.SmallJoins
import Derived.Test.YtdncjikmknkkpaaDoorSam
import Derived.Test.YtdncjikmknkkpaaDoorSte
namespace Go.Proofs.YtdncjikmknkkpaaDoor
namespace Blk
open Go.ChangeShapes Go.WideShapes Go.ChangeAt Go.RowKit Go.Deep Go.Joins

theorem Tryd.own : ownKnob Tryd.prog.godebug = none := by kernel_rfl
theorem Tryd.laidOut : laidOutB Tryd.prog = true := by kernel_rfl
section
variable {H : Type} {enc : TypeId × Value → H} {W : World} {held : Bool}

end
end Blk
end Go.Proofs.YtdncjikmknkkpaaDoor

