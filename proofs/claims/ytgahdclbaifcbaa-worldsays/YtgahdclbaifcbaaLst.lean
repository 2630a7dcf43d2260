/- Words that go round: their letters, their least form, when two are alike. -/
import Derived.Test.YtgahdclbaifcbaaBase
namespace Go.Proofs.Ytgahdclbaifcbaa
open Go.RowKit

/-- The letter at a place of a word: s letters S, then m letters L again and again. -/
def ltr (s m : Nat) (S L : Nat → Int) (i : Nat) : Int := if i < s then S i else L ((i - s) % m)

theorem ltr_stem {s m : Nat} {S L : Nat → Int} {i : Nat} (h : i < s) : ltr s m S L i = S i := if_pos h
theorem ltr_loop {s m : Nat} {S L : Nat → Int} {i : Nat} (h : i < m) : ltr s m S L (s + i) = L i := by
  unfold ltr
  rw [if_neg (by omega), show s + i - s = i by omega, Nat.mod_eq_of_lt h]
theorem ltr_far {s m : Nat} {S L : Nat → Int} {i : Nat} (h : s ≤ i) : ltr s m S L i = L ((i - s) % m) := if_neg (by omega)

end Go.Proofs.Ytgahdclbaifcbaa

