/- Single. -/
import Derived.Deep.AppendLies
import Derived.Test.YtgahdclbaifcbaaSgx
import Derived.Test.YtgahdclbaifcbaaApp
namespace Go.Proofs.Ytgahdclbaifcbaa
open Go.RowKit Go.Shelf Go.Maps

theorem box1_free (w : World) (x : Value) (t : TypeId) : (w.alloc (.cells #[x] t)).frozen? ⟨w.heap.size, 0, none⟩ = false := by
  have h : (w.alloc (.cells #[x] t)).heap[w.heap.size]? = some (.cells #[x] t) := Go.Deep.blk_alloc_new _ _
  unfold World.frozen?
  simp only [h]
  rfl

theorem box1 (w : World) (x : Value) (t : TypeId) : ∃ W, w.alloc (.cells #[x] t) = W ∧ Below w.heap.size w W ∧ W.heap.size = w.heap.size + 1 ∧ W.cell? ⟨w.heap.size, 0, none⟩ = some x ∧ W.frozen? ⟨w.heap.size, 0, none⟩ = false ∧ W.heap[w.heap.size]? = some (.cells #[x] t) :=
  ⟨_, rfl, box_below _ _, by simp, cell_of_alloc rfl, box1_free w x t, Go.Deep.blk_alloc_new _ _⟩

end Go.Proofs.Ytgahdclbaifcbaa

