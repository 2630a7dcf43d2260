/- The law AutoOne. -/
import Derived.Maps.AppendAt
import Derived.Laws.OwnMore
import Derived.Test.YtdncjikmknkkpaaDoorSgl
import Derived.Test.YtdncjikmknkkpaaDoorAcc
import Derived.Test.YtdncjikmknkkpaaDoorApp
import Derived.Test.YtdncjikmknkkpaaDoorHeld
import Derived.Test.YtdncjikmknkkpaaDoorWlk
namespace Go.Proofs.YtdncjikmknkkpaaDoor
open Go.RowKit Go.Shelf

abbrev nilA : Ax := ⟨none, 0, 0, none, 0, 0, none, 0, 0, none, 0, 0, none, 0, 0, fun _ => 0, fun _ => 0, fun _ _ => 0, fun _ => 0, fun _ => 0, fun _ => 0, fun _ _ => 0⟩

end Go.Proofs.YtdncjikmknkkpaaDoor

