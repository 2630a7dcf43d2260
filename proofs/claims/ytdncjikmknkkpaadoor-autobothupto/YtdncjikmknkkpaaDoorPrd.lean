/- paired: states with a number, handed over one by one. -/
import Derived.Test.YtdncjikmknkkpaaDoorPky
import Derived.Test.YtdncjikmknkkpaaDoorAcf0
namespace Go.Proofs.YtdncjikmknkkpaaDoor
open Go.RowKit Go.Shelf

attribute [local go_sem] Oper.semAt_some

/-- Pairs that are handed over. -/
abbrev Pr := Fin 4096 × Fin 4096
def prn (x : Pr) : Nat × Nat := (x.1.1, x.2.1)
theorem prn_sml (x : Pr) : Sml (prn x) := ⟨x.1.2, x.2.2⟩
abbrev encP (x : Pr) : Array Value := #[.agg #[.int .i64 ((x.1.1 : Nat) : Int), .int .i64 ((x.2.1 : Nat) : Int)]]
end Go.Proofs.YtdncjikmknkkpaaDoor

