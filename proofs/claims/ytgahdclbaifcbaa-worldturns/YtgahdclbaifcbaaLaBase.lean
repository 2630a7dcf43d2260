/- Small words that all texts of this seat use. -/
import Derived.Test.YtgahdclbaifcbaaRows
import Derived.WalkKit
import Derived.WalkSpells
import Derived.WalkLawsBesides
import Derived.Deep.QuietTactic
import Derived.BigQuiet
import Derived.Below
import Derived.Deep.Heap
import Derived.Test.YtgahdclbaifcbaaRws
import Derived.Test.YtgahdclbaifcbaaLst
import Derived.Test.YtgahdclbaifcbaaLea
import Derived.Test.YtgahdclbaifcbaaApp
import Derived.Test.YtgahdclbaifcbaaWck
import Derived.Test.YtgahdclbaifcbaaHeld
import Derived.Test.YtgahdclbaifcbaaUnr
import Derived.Test.YtgahdclbaifcbaaSgl
import Derived.Test.YtgahdclbaifcbaaGth
namespace Go.Proofs.Ytgahdclbaifcbaa
open Go.RowKit

theorem But.alloc {b : Nat} {u w : World} (h : But b u w) (o : Obj) : But b u (w.alloc o) :=
  h.trans ⟨rfl, rfl, rfl, by simp, fun k hk _ => Go.Deep.blk_alloc_lt _ _ _ hk⟩
end Go.Proofs.Ytgahdclbaifcbaa

