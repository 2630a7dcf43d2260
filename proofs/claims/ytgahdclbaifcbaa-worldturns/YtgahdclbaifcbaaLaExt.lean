/- What of the closures, the rows and the held regions the plain seat wants. -/
import Derived.Deep.RegionHeld3
import Derived.Deep.CutRange
import Derived.Test.YtgahdclbaifcbaaLaApp
import Derived.Test.YtgahdclbaifcbaaRws
import Derived.Test.YtgahdclbaifcbaaLst
import Derived.Test.YtgahdclbaifcbaaLea
import Derived.Test.YtgahdclbaifcbaaApp
import Derived.Test.YtgahdclbaifcbaaWck
import Derived.Test.YtgahdclbaifcbaaHeld
import Derived.Test.YtgahdclbaifcbaaUnr
import Derived.Test.YtgahdclbaifcbaaSgl
import Derived.Test.YtgahdclbaifcbaaGth
namespace Go.Proofs.Ytgahdclbaifcbaa
open Go.RowKit

theorem below_alloc2 (w : World) (o1 o2 : Obj) : Below w.heap.size w ((w.alloc o1).alloc o2) := (box_below w o1).alloc (by simp) _

theorem two_cells {w : World} {b : Nat} {x y : Value} {t : TypeId} (h : w.heap[b]? = some (.cells #[x, y] t)) : w.cell? ⟨b, 0, none⟩ = some x ∧ w.cell? ⟨b, 1, none⟩ = some y := ⟨cell_of_cells h rfl, cell_of_cells h rfl⟩

theorem keep_set {w : World} {q j : Nat} {v x : Value} {a : Addr} (h : w.cell? a = some x) (hne : a.block ≠ q) : (w.setCell ⟨q, j, none⟩ v).cell? a = some x := ((But.refl q w).setCell j v).cell hne h

theorem alloc_last {w : World} {B : Nat} (o : Obj) (h : w.heap.size = B) : (w.alloc o).heap[B]? = some o := by rw [← h]; exact Go.Deep.blk_alloc_new _ _

theorem alloc_old {w : World} {B : Nat} {x : Obj} (o : Obj) (h : w.heap[B]? = some x) : (w.alloc o).heap[B]? = some x := (Go.Deep.blk_alloc_lt _ _ _ (Array.getElem?_eq_some_iff.1 h).1).trans h

end Go.Proofs.Ytgahdclbaifcbaa

