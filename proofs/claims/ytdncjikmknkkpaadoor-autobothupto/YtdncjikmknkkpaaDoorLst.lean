/- Words that go round: their letters, their least form, when two are alike. -/
import Derived.Test.YtdncjikmknkkpaaDoorBase
namespace Go.Proofs.YtdncjikmknkkpaaDoor
open Go.RowKit

/-- It comes again. -/
def Per {α : Type} (s m : Nat) (f : Nat → α) : Prop := ∀ i, s ≤ i → f (i + m) = f i

/-- The letter at a place of a word: s letters S, then m letters L again and again. -/
def ltr (s m : Nat) (S L : Nat → Int) (i : Nat) : Int := if i < s then S i else L ((i - s) % m)

theorem ltr_per (s m : Nat) (S L : Nat → Int) : Per s m (ltr s m S L) := by
  intro i hi
  unfold ltr
  rw [if_neg (by omega), if_neg (by omega), show i + m - s = i - s + m by omega, Nat.add_mod_right]

end Go.Proofs.YtdncjikmknkkpaaDoor

