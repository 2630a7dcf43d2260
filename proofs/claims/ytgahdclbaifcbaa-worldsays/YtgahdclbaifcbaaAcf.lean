/- acceptFrom: the spots that are met, then their parts. -/
import Derived.Test.YtgahdclbaifcbaaAcf0
import Derived.Test.YtgahdclbaifcbaaBase
import Derived.Test.YtgahdclbaifcbaaFai
import Derived.Test.YtgahdclbaifcbaaSte
namespace Go.Proofs.Ytgahdclbaifcbaa
open Go.RowKit Go.Shelf

attribute [local go_sem] Oper.semAt_some

theorem owns_but {w w' : World} {base : Nat} {e : TypeId} {size b : Nat} {v : Value} {n : Nat} {xs : List Value} (h : w.ownsRow base e size v n xs) (hb : But b w w') (hbb : b < base) : w'.ownsRow base e size v n xs :=
  h.kept (row := some b) ⟨hb.os, hb.tape, hb.output, hb.size, fun k hk hne => hb.block k hk (fun e => hne (by rw [e]))⟩ (by
    cases hv : v.ownBlock with
    | none => exact Or.inl rfl
    | some g => exact Or.inr (fun e => by
        rw [Option.some.injEq] at e
        have := (h.lt g hv).1
        omega))

end Go.Proofs.Ytgahdclbaifcbaa

