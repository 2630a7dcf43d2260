/- A region that draws its order, whose operations only read and whose callees write only in memory of their own: walked once, in the order of the text. -/
import Derived.Test.YtdncjikmknkkpaaDoorRefA
namespace Go.Proofs.YtdncjikmknkkpaaDoor
open Go.RowKit

/-- A world behind w: all that w has is there as it was. -/
structure Cls (w : World) where
  u : World
  h : Below w.heap.size w u

theorem cls_some (w : World) : Nonempty (Cls w) := ⟨⟨w, Below.refl _ _⟩⟩

theorem wp_region_cls {P : Program} {id : Nat} {Q : Exit → Act → World → Prop} {a : Act} {w : World} {l : List Oper} (hm : P.follows .mixedOrders = true) (hB : Region.lexB .any l.toArray = true)
    (h : wpQuiet P l.toArray (fun w' => ∃ x : Cls w, w' = x.u) (fun a' => ∀ w', (∃ x : Cls w, w' = x.u) → Q .normal a' w') l a) : (Code.region id l.toArray true).wp P Q a w :=
  wp_region_quiet (C := fun w' => ∃ x : Cls w, w' = x.u) hm hB ⟨⟨w.drew, below_drewN (Below.refl _ _) 1⟩, rfl⟩ (by simpa using h)

theorem Cls.cell {w : World} (x : Cls w) {p : Addr} {v : Value} (h : w.cell? p = some v) : x.u.cell? p = some v :=
  (x.h.cell (p := p) (World.block_lt_of_cell? _ _ h)).trans h

theorem Cls.calls {P : Program} {f : FuncId} {args : Array Value} {w : World} {x : Cls w} {v : Value} (h : Calls P f args x.u fun e w' => e = .returned v ∧ Below w.heap.size w w') : Calls P f args x.u fun e w' => e = .returned v ∧ ∃ y : Cls w, w' = y.u :=
  h.mono fun _ w' ⟨he, hb⟩ => ⟨he, ⟨w', hb⟩, rfl⟩

end Go.Proofs.YtdncjikmknkkpaaDoor
