/- Automata of words, apart from memory: rows of states; pairs; one fair set; the graph of states and places. -/
import Derived.Test.YtdncjikmknkkpaaBase
namespace Go.Proofs.Ytdncjikmknkkpaa

/-- An automaton: where it may begin, where it goes on, which letters may stand at a state, its fair sets. -/
structure Atm where
  st : Nat → Prop
  nx : Nat → Nat → Prop
  lt : Nat → Int → Prop
  K : Nat
  fr : Nat → Nat → Prop

/-- c is the automaton of pairs of a and b, numbered by p. -/
structure Pairs (a b c : Atm) (p : Nat → Nat × Nat) (N : Nat) : Prop where
  st1 : ∀ i, c.st i → a.st (p i).1 ∧ b.st (p i).2
  st2 : ∀ x y l, a.st x → b.st y → a.lt x l → b.lt y l → ∃ i, i < N ∧ c.st i ∧ p i = (x, y)
  nx1 : ∀ i j, c.nx i j → a.nx (p i).1 (p j).1 ∧ b.nx (p i).2 (p j).2
  nx2 : ∀ i, i < N → ∀ x y l, a.nx (p i).1 x → b.nx (p i).2 y → a.lt x l → b.lt y l → ∃ j, j < N ∧ c.nx i j ∧ p j = (x, y)
  lt : ∀ i l, c.lt i l ↔ (a.lt (p i).1 l ∧ b.lt (p i).2 l)
  K : c.K = a.K + b.K
  fr1 : ∀ k, k < a.K → ∀ i, i < N → (c.fr k i ↔ a.fr k (p i).1)
  fr2 : ∀ k, k < b.K → ∀ i, i < N → (c.fr (a.K + k) i ↔ b.fr k (p i).2)
  big : ∀ i, c.st i → i < N
  bigx : ∀ i j, c.nx i j → j < N

end Go.Proofs.Ytdncjikmknkkpaa

