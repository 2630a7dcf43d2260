/- Going in depth through spots: what the function walk keeps in memory. -/
import Derived.WalkSmall
import Derived.Deep.AppendLies
import Derived.Test.YtdncjikmknkkpaaDoorSte
import Derived.Test.YtdncjikmknkkpaaDoorBase
import Derived.Test.YtdncjikmknkkpaaDoorNmbJ
namespace Go.Proofs.YtdncjikmknkkpaaDoor
open Go.RowKit

theorem owns_below {w w' : World} {base : Nat} {e : TypeId} {size : Nat} {v : Value} {n : Nat} {xs : List Value} (h : w.ownsRow base e size v n xs) (hb : Below w.heap.size w w') : w'.ownsRow base e size v n xs :=
  h.kept (row := none) ⟨hb.os, hb.tape, hb.output, hb.size, fun k hk _ => hb.block k hk⟩ (by
    cases hv : v.ownBlock with
    | none => exact Or.inl rfl
    | some b => exact Or.inr (fun e => by cases e))

end Go.Proofs.YtdncjikmknkkpaaDoor

