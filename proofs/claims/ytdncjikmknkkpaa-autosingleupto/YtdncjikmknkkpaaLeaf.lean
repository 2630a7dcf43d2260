/- The leaves: In, areNodes, endsWith, Index, Contains, Goes, Equal, each by its contract. -/
import Derived.Test.YtdncjikmknkkpaaBase
namespace Go.Proofs.Ytdncjikmknkkpaa
open Go.RowKit


def allIn (n : Nat) (Z : Nat → Int) (m : Int) : Bool := decide (∀ i, i < n → 0 ≤ Z i ∧ Z i < m)

theorem allIn_no {n : Nat} {Z : Nat → Int} {m : Int} (k : Nat) (hk : k < n) (h : Z k < 0 ∨ m ≤ Z k) : allIn n Z m = false := by
  unfold allIn
  rw [decide_eq_false_iff_not]
  intro hall
  have := hall k hk
  omega

theorem allIn_yes {n : Nat} {Z : Nat → Int} {m : Int} (h : ∀ i, i < n → 0 ≤ Z i ∧ Z i < m) : allIn n Z m = true := by
  unfold allIn
  rw [decide_eq_true_eq]
  exact h

theorem allIn_all {n : Nat} {Z : Nat → Int} {m : Int} (h : allIn n Z m = true) : ∀ i, i < n → 0 ≤ Z i ∧ Z i < m := by
  unfold allIn at h
  rwa [decide_eq_true_eq] at h


/-- Is x among the first n numbers? -/
def has (n : Nat) (Z : Nat → Int) (x : Int) : Bool := decide (∃ i, i < n ∧ Z i = x)

theorem has_no {n : Nat} {Z : Nat → Int} {x : Int} (h : ∀ i, i < n → Z i ≠ x) : has n Z x = false := by
  unfold has
  rw [decide_eq_false_iff_not]
  rintro ⟨i, hi, e⟩
  exact h i hi e

/-- Are the two lists the same? -/
def same (n m : Nat) (Y Z : Nat → Int) : Bool := decide (n = m ∧ ∀ i, i < n → Y i = Z i)

/-- In w the slice at a, of n cells, holds the numbers Z. -/
def Row (w : World) (a : Option Addr) (n : Nat) (Z : Nat → Int) : Prop :=
  ∃ b o, (0 < n → a = some ⟨b, o, none⟩) ∧ ∀ i, i < n → w.cell? ⟨b, o + i, none⟩ = some (.int .i64 (Z i))


end Go.Proofs.Ytdncjikmknkkpaa

