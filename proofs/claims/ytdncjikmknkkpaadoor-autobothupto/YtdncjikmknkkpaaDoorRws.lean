/- Rows of letters and of bools in memory; a word; what Check says of one. -/
import Derived.Deep.OwnRows
import Derived.Test.YtdncjikmknkkpaaDoorBase
namespace Go.Proofs.YtdncjikmknkkpaaDoor
open Go.RowKit

/-- In w the slice at a, of n cells, holds the letters Z. -/
def RowU (w : World) (a : Option Addr) (n : Nat) (Z : Nat → Int) : Prop :=
  ∃ b o, (0 < n → a = some ⟨b, o, none⟩) ∧ ∀ i, i < n → w.cell? ⟨b, o + i, none⟩ = some (.int .u64 (Z i))

theorem RowU.below {w w' : World} {a : Option Addr} {n : Nat} {Z : Nat → Int} (h : RowU w a n Z) (hb : Below w.heap.size w w') : RowU w' a n Z := by
  obtain ⟨b, o, h1, h2⟩ := h
  exact ⟨b, o, h1, fun i hi => below_cell hb (Nat.le_refl _) (h2 i hi)⟩
end Go.Proofs.YtdncjikmknkkpaaDoor

