/- Words that go round: their letters, their least form, when two are alike. -/
import Derived.Test.YtgahdclbaifcbaaLaWrd
import Derived.Test.YtgahdclbaifcbaaRws
import Derived.Test.YtgahdclbaifcbaaLst
import Derived.Test.YtgahdclbaifcbaaLea
import Derived.Test.YtgahdclbaifcbaaApp
import Derived.Test.YtgahdclbaifcbaaWck
import Derived.Test.YtgahdclbaifcbaaHeld
import Derived.Test.YtgahdclbaifcbaaUnr
import Derived.Test.YtgahdclbaifcbaaSgl
import Derived.Test.YtgahdclbaifcbaaGth
namespace Go.Proofs.Ytgahdclbaifcbaa
open Go.RowKit

theorem ltr_per (s m : Nat) (S L : Nat → Int) : Per s m (ltr s m S L) := by
  intro i hi
  unfold ltr
  rw [if_neg (by omega), if_neg (by omega), show i + m - s = i - s + m by omega, Nat.add_mod_right]

theorem Per.mul {α : Type} {s m : Nat} {f : Nat → α} (h : Per s m f) : ∀ k, Per s (m * k) f
  | 0 => fun i _ => by simp
  | k + 1 => fun i hi => by
    rw [Nat.mul_succ, ← Nat.add_assoc, h _ (by omega), Per.mul h k i hi]

theorem per_gcd {α : Type} {s : Nat} {f : Nat → α} (q m : Nat) : Per s q f → Per s m f → Per s (Nat.gcd q m) f := by
  induction q, m using Nat.gcd.induction with
  | H0 n => intro _ h; rw [Nat.gcd_zero_left]; exact h
  | H1 m n hm ih =>
    intro h1 h2
    rw [Nat.gcd_rec]
    refine ih (fun i hi => ?_) h1
    have e1 := h2 i hi
    have e2 := Per.mul h1 (n / m) (i + n % m) (by omega)
    rw [show i + n % m + m * (n / m) = i + n by have := Nat.mod_add_div n m; omega, e1] at e2
    exact e2.symm

/-- What comes again somewhere comes again from where the word goes round. -/
theorem Per.back {α : Type} {s u m q : Nat} {f : Nat → α} (h : Per s m f) (hm : 0 < m) (k : Per u q f) : Per s q f := by
  intro i hi
  have e1 := Per.mul h u i hi
  have e2 := Per.mul h u (i + q) (by omega)
  have hu : u ≤ m * u := Nat.le_mul_of_pos_left u hm
  have e3 := k (i + m * u) (by omega)
  rw [← e1, ← e3, ← e2]
  congr 1
  omega

/-- What has two periods has their greatest common one. -/
theorem Per.gcd {α : Type} {s u m q : Nat} {f : Nat → α} (h : Per s m f) (hm : 0 < m) (k : Per u q f) : Per s (Nat.gcd q m) f := per_gcd q m (h.back hm k) h

/-- A word's least form: its Stem has st letters, its Loop lp. -/
structure Lea (f : Nat → Int) (st lp : Nat) : Prop where
  pos : 0 < lp
  per : Per st lp f
  loop : ∀ q u, 0 < q → Per u q f → lp ≤ q
  stem : ∀ u, Per u lp f → st ≤ u

theorem Lea.uniq {f : Nat → Int} {st lp st' lp' : Nat} (h : Lea f st lp) (k : Lea f st' lp') : st = st' ∧ lp = lp' := by
  obtain rfl : lp = lp' := Nat.le_antisymm (h.loop _ _ k.pos k.per) (k.loop _ _ h.pos h.per)
  exact ⟨Nat.le_antisymm (h.stem _ k.per) (k.stem _ h.per), rfl⟩

/-- The least number of letters after which a Loop comes again. -/
structure Prd (m : Nat) (L : Nat → Int) (p : Nat) : Prop where
  pos : 0 < p
  div : m % p = 0
  same : ∀ i, i + p < m → L (i + p) = L i
  least : ∀ c, 0 < c → c < p → ¬ (m % c = 0 ∧ ∀ i, i + c < m → L (i + c) = L i)

theorem prd_per {s m : Nat} {S L : Nat → Int} {p : Nat} (hm : 0 < m) (hp : 0 < p) (hd : m % p = 0) (hs : ∀ i, i + p < m → L (i + p) = L i) : Per s p (ltr s m S L) := by
  intro i hi
  have hpm : p ≤ m := Nat.le_of_dvd hm (Nat.dvd_of_mod_eq_zero hd)
  rw [ltr_far hi, ltr_far (by omega), show i + p - s = i - s + p by omega]
  generalize i - s = j
  have h1 : (j + p) % m = (j % m + p) % m := (Nat.mod_add_mod j m p).symm
  rw [h1]
  have hr := Nat.mod_lt j hm
  generalize j % m = r at *
  by_cases h : r + p < m
  · rw [Nat.mod_eq_of_lt h]; exact hs r h
  · have e : (r + p) % m = r + p - m := by
      rw [Nat.mod_eq_sub_mod (by omega), Nat.mod_eq_of_lt (by omega)]
    rw [e]
    -- from r back by p's to r + p - m
    obtain ⟨c, hc⟩ := Nat.dvd_of_mod_eq_zero hd
    have go : ∀ k a, a + p * k < m → L (a + p * k) = L a := by
      intro k
      induction k with
      | zero => intro a _; simp
      | succ k ih =>
        intro a ha
        rw [Nat.mul_succ] at ha ⊢
        rw [← Nat.add_assoc, hs _ (by omega)]
        exact ih a (by omega)
    have hc1 : 0 < c := by
      rcases Nat.eq_zero_or_pos c with h0 | h0
      · rw [h0] at hc; omega
      · exact h0
    obtain ⟨k, rfl⟩ : ∃ k, c = k + 1 := ⟨c - 1, by omega⟩
    rw [Nat.mul_succ] at hc
    have := go k (r + p - m) (by omega)
    rw [show r + p - m + p * k = r by omega] at this
    exact this.symm

theorem per_same {s m : Nat} {S L : Nat → Int} {p : Nat} (h : Per s p (ltr s m S L)) : ∀ i, i + p < m → L (i + p) = L i := by
  intro i hi
  have := h (s + i) (by omega)
  rw [Nat.add_assoc, ltr_loop hi, ltr_loop (by omega)] at this
  exact this

theorem prd_least {s m : Nat} {S L : Nat → Int} {p : Nat} (hm : 0 < m) (h : Prd m L p) : Per s p (ltr s m S L) ∧ ∀ q u, 0 < q → Per u q (ltr s m S L) → p ≤ q := by
  refine ⟨prd_per hm h.pos h.div h.same, fun q u hq hu => ?_⟩
  have hg := (ltr_per s m S L).gcd hm hu
  have hg0 : 0 < Nat.gcd q m := Nat.gcd_pos_of_pos_left _ hq
  have hgq : Nat.gcd q m ≤ q := Nat.le_of_dvd hq (Nat.gcd_dvd_left _ _)
  by_cases hlt : Nat.gcd q m < p
  · exact absurd ⟨Nat.mod_eq_zero_of_dvd (Nat.gcd_dvd_right q m), per_same hg⟩ (h.least _ hg0 hlt)
  · omega

/-- The Stem is as short as it may be. -/
theorem lea_of {s m : Nat} {S L : Nat → Int} {p st : Nat} (hm : 0 < m) (h : Prd m L p) (hst : Per st p (ltr s m S L)) (hno : st = 0 ∨ ltr s m S L (st - 1 + p) ≠ ltr s m S L (st - 1)) : Lea (ltr s m S L) st p := by
  obtain ⟨_, h2⟩ := prd_least (s := s) (S := S) hm h
  refine ⟨h.pos, hst, h2, fun u hu => ?_⟩
  rcases hno with h0 | h0
  · omega
  · by_cases hlt : u < st
    · exact absurd (hu (st - 1) (by omega)) h0
    · omega

end Go.Proofs.Ytgahdclbaifcbaa

