/- The document's least word: what agrees so far as it looks comes again for good; the first that does is the least. -/
import Derived.Test.YtejombhfkobcbaaLst
namespace Go.Proofs.Ytejombhfkobcbaa
open Go.RowKit

/-- The word that is tried: st letters ahead, lp that go round. -/
def tryW (f : Nat → Int) (st lp : Nat) : Nat → Int := ltr st lp f (fun i => f (st + i))

theorem try_per {f : Nat → Int} {s m st lp : Nat} (hf : Per s m f) (hm : 0 < m) (hst : st ≤ s) (h : ∀ i, i < 2 * (s + m) + 2 * lp → f i = tryW f st lp i) : Per st lp f := by
  have hg : Per st lp (tryW f st lp) := ltr_per _ _ _ _
  intro i
  induction i using Nat.strongRecOn with
  | ind i ih =>
    intro hi
    by_cases hlt : i < 2 * (s + m) + lp
    · rw [h (i + lp) (by omega), hg i hi, ← h i (by omega)]
    · have e1 := hf (i - m) (by omega)
      have e2 := hf (i - m + lp) (by omega)
      rw [show i - m + m = i by omega] at e1
      rw [show i - m + lp + m = i + lp by omega] at e2
      rw [e1, e2]
      exact ih (i - m) (by omega) (by omega)

theorem try_same {f : Nat → Int} {st lp : Nat} (hlp : 0 < lp) (h : Per st lp f) : ∀ i, f i = tryW f st lp i := fun i =>
  (congrFun (ltr_again hlp h (fun _ _ => rfl) (fun _ _ => rfl)) i).symm

/-- Nothing shorter was found: Loops of fewer letters, whatever the Stem; of so many, with a shorter Stem. -/
structure Tried (f : Nat → Int) (s st lp : Nat) : Prop where
  loop : ∀ q, 0 < q → q < lp → ∀ u, u ≤ s → ¬ Per u q f
  stem : ∀ u, u < st → ¬ Per u lp f

theorem Tried.start (f : Nat → Int) (s : Nat) : Tried f s 0 1 := ⟨fun q h1 h2 => by omega, fun u h => by omega⟩
theorem Tried.next {f : Nat → Int} {s st lp : Nat} (h : Tried f s st lp) (hn : ¬ Per st lp f) : Tried f s (st + 1) lp :=
  ⟨h.loop, fun u hu => by
    by_cases e : u = st
    · rw [e]; exact hn
    · exact h.stem u (by omega)⟩
theorem Tried.more {f : Nat → Int} {s lp : Nat} (h : Tried f s (s + 1) lp) : Tried f s 0 (lp + 1) :=
  ⟨fun q h1 h2 u hu => by
    by_cases e : q = lp
    · rw [e]; exact h.stem u (by omega)
    · exact h.loop q h1 (by omega) u hu, fun u h => by omega⟩
theorem Tried.small {f : Nat → Int} {s m st lp : Nat} (h : Tried f s st lp) (hf : Per s m f) (hm : 0 < m) : lp ≤ m := by
  by_cases e : lp ≤ m
  · exact e
  · exact absurd hf (h.loop m hm (by omega) s (Nat.le_refl _))
theorem Tried.less {f : Nat → Int} {s m lp : Nat} (h : Tried f s (s + 1) lp) (hf : Per s m f) (hm : 0 < m) : lp < m := by
  have := h.more.small hf hm
  omega
theorem Tried.lea {f : Nat → Int} {s m st lp : Nat} (h : Tried f s st lp) (hlp : 0 < lp) (hf : Per s m f) (hm : 0 < m) (hp : Per st lp f) : Lea f st lp := by
  refine ⟨hlp, hp, fun q u hq hu => ?_, fun u hu => ?_⟩
  · by_cases e : lp ≤ q
    · exact e
    · exact absurd (hf.back hm hu) (h.loop q hq (by omega) s (Nat.le_refl _))
  · by_cases e : st ≤ u
    · exact e
    · exact absurd hu (h.stem u (by omega))

end Go.Proofs.Ytejombhfkobcbaa
