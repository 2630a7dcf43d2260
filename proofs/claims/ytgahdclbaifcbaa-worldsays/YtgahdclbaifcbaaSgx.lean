/- The closures of Single; where. -/
import Derived.Deep.CutRange
import Derived.Great.BuildSlice
import Derived.Test.YtgahdclbaifcbaaGth
import Derived.Test.YtgahdclbaifcbaaAcf
import Derived.Test.YtgahdclbaifcbaaFai
import Derived.Test.YtgahdclbaifcbaaLst
import Derived.Test.YtgahdclbaifcbaaSte
import Derived.Test.YtgahdclbaifcbaaWck
namespace Go.Proofs.Ytgahdclbaifcbaa
open Go.RowKit Go.Shelf Go.Maps

theorem box2 (w : World) (x y : Value) (t : TypeId) : ∃ W, w.alloc (.cells #[x, y] t) = W ∧ Below w.heap.size w W ∧ W.heap.size = w.heap.size + 1 ∧ W.cell? ⟨w.heap.size, 0, none⟩ = some x ∧ W.cell? ⟨w.heap.size, 1, none⟩ = some y :=
  ⟨_, rfl, box_below _ _, by simp, cell_of_alloc rfl, cell_of_alloc rfl⟩

end Go.Proofs.Ytgahdclbaifcbaa

