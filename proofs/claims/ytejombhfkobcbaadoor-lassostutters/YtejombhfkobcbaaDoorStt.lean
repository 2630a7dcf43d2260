/- Stuttering: a formula without LNext does not see that a letter comes twice. -/
import Derived.Test.YtejombhfkobcbaaDoorRws
namespace Go.Proofs.YtejombhfkobcbaaDoor
open Go.RowKit

/-- No node is an LNext. -/
def Pln (t : Fml) : Prop := t.red True fun t r => t.kind ≠ 7 ∧ ∀ i, i < t.cnt → r i

theorem Pln.out {t : Fml} (h : Pln t) : t.kind ≠ 7 ∧ ∀ i, i < t.cnt → Pln (t.kid i) := by
  unfold Pln at h
  rw [Fml.red_eq] at h
  exact ⟨h.1, fun i hi => by have := h.2 i hi; rwa [Fml.reds_at hi] at this⟩
theorem Pln.mk {t : Fml} (h : t.kind ≠ 7 ∧ ∀ i, i < t.cnt → Pln (t.kid i)) : Pln t := by
  unfold Pln
  rw [Fml.red_eq]
  exact ⟨h.1, fun i hi => by rw [Fml.reds_at hi]; exact h.2 i hi⟩

/-- The places of a word with letters that come twice, told by the places of the word: each step goes on by one or stays, and all places are met. -/
structure Slow (p : Nat → Nat) : Prop where
  zero : p 0 = 0
  step : ∀ i, p (i + 1) = p i ∨ p (i + 1) = p i + 1
  far : ∀ j, ∃ i, p i = j

theorem Slow.mono {p : Nat → Nat} (h : Slow p) {i j : Nat} (hij : i ≤ j) : p i ≤ p j := by
  induction j with
  | zero =>
    obtain rfl : i = 0 := by omega
    exact Nat.le_refl _
  | succ j ih =>
    by_cases e : i = j + 1
    · rw [e]; exact Nat.le_refl _
    · have := ih (by omega)
      rcases h.step j with h1 | h1 <;> omega

/-- The first place from i on that tells j. -/
theorem Slow.first {p : Nat → Nat} (h : Slow p) {i j : Nat} (hij : p i ≤ j) : ∃ k, i ≤ k ∧ p k = j ∧ ∀ l, i ≤ l → l < k → p l < j := by
  obtain ⟨n, hn⟩ := h.far j
  have hex : ∃ n, i ≤ n ∧ p n = j := by
    by_cases e : i ≤ n
    · exact ⟨n, e, hn⟩
    · have := h.mono (i := n) (j := i) (by omega)
      exact ⟨i, Nat.le_refl _, by omega⟩
  obtain ⟨n, h1, h2⟩ := hex
  induction n using Nat.strongRecOn with
  | ind n ih =>
    by_cases e : ∃ l, i ≤ l ∧ l < n ∧ p l = j
    · obtain ⟨l, a, b, c⟩ := e
      exact ih l b a c
    · refine ⟨n, h1, h2, fun l a b => ?_⟩
      have := h.mono (i := l) (j := n) (by omega)
      have : p l ≠ j := fun hc => e ⟨l, a, b, hc⟩
      omega

theorem Slow.between {p : Nat → Nat} (h : Slow p) {i j k : Nat} (_hij : i ≤ j) (h1 : p i ≤ k) (h2 : k < p j) : ∃ l, i ≤ l ∧ l < j ∧ p l = k := by
  obtain ⟨l, a, b, _⟩ := h.first h1
  refine ⟨l, a, ?_, b⟩
  by_cases e : l < j
  · exact e
  · have := h.mono (i := j) (j := l) (by omega)
    omega

theorem Slow.until {p : Nat → Nat} (h : Slow p) (P Q : Nat → Prop) (i : Nat) : (∃ j, i ≤ j ∧ Q (p j) ∧ ∀ k, i ≤ k → k < j → P (p k)) ↔ ∃ j, p i ≤ j ∧ Q j ∧ ∀ k, p i ≤ k → k < j → P k := by
  constructor
  · rintro ⟨j, h1, h2, h3⟩
    refine ⟨p j, h.mono h1, h2, fun k a b => ?_⟩
    obtain ⟨l, c, d, rfl⟩ := h.between h1 a b
    exact h3 l c d
  · rintro ⟨j, h1, h2, h3⟩
    obtain ⟨k, a, b, c⟩ := h.first h1
    refine ⟨k, a, by rw [b]; exact h2, fun l d e => h3 (p l) (h.mono d) (c l d e)⟩

theorem Slow.some {p : Nat → Nat} (h : Slow p) (Q : Nat → Prop) (i : Nat) : (∃ j, i ≤ j ∧ Q (p j)) ↔ ∃ j, p i ≤ j ∧ Q j := by
  have := h.until (fun _ => True) Q i
  simpa using this

theorem holdF_slow {p : Nat → Nat} (hp : Slow p) {A : Nat → Int → Bool} (t : Fml) (h7 : t.kind ≠ 7) {r q : Nat → Nat → Prop} (h : ∀ k i, r k i ↔ q k (p i)) (i : Nat) : holdF (fun i n => A (p i) n) t r i ↔ holdF A t q (p i) := by
  obtain rfl : r = fun k i => q k (p i) := funext fun k => funext fun i => propext (h k i)
  unfold holdF
  by_cases h1 : t.kind = 1
  · rw [if_pos h1, if_pos h1]
  rw [if_neg h1, if_neg h1]
  by_cases h1 : t.kind = 3
  · rw [if_pos h1, if_pos h1]
  rw [if_neg h1, if_neg h1]
  by_cases h1 : t.kind = 4
  · rw [if_pos h1, if_pos h1]
  rw [if_neg h1, if_neg h1]
  by_cases h1 : t.kind = 5
  · rw [if_pos h1, if_pos h1]
  rw [if_neg h1, if_neg h1]
  by_cases h1 : t.kind = 6
  · rw [if_pos h1, if_pos h1]
  rw [if_neg h1, if_neg h1, if_neg h7, if_neg h7]
  by_cases h1 : t.kind = 8
  · rw [if_pos h1, if_pos h1]; exact hp.until (q 0) (q 1) i
  rw [if_neg h1, if_neg h1]
  by_cases h1 : t.kind = 9
  · rw [if_pos h1, if_pos h1]; exact not_congr (hp.until (fun k => ¬ q 0 k) (fun k => ¬ q 1 k) i)
  rw [if_neg h1, if_neg h1]
  by_cases h1 : t.kind = 10
  · rw [if_pos h1, if_pos h1]; exact hp.some (q 0) i
  rw [if_neg h1, if_neg h1]
  by_cases h1 : t.kind = 11
  · rw [if_pos h1, if_pos h1]; exact not_congr (hp.some (fun k => ¬ q 0 k) i)
  rw [if_neg h1, if_neg h1]

theorem hold_slow {p : Nat → Nat} (hp : Slow p) {A : Nat → Int → Bool} : ∀ t, Pln t → ∀ i, hold (fun i n => A (p i) n) t i ↔ hold A t (p i) := by
  intro t
  induction t using Fml.ind with
  | h t ih =>
    intro ht i
    rw [hold_eq, hold_eq]
    refine holdF_slow hp t ht.out.1 (fun k i => ?_) i
    by_cases hk : k < t.cnt
    · rw [hold_kid hk, hold_kid hk]; exact ih k hk (ht.out.2 k hk) i
    · rw [hold_none hk, hold_none hk]

/-- A list with its letter k twice. -/
def dbl (k : Nat) (S : Nat → Int) (i : Nat) : Int := if i ≤ k then S i else S (i - 1)

/-- Letter k of the Stem twice. -/
def slS (k i : Nat) : Nat := if i ≤ k then i else i - 1
/-- Letter k of the Loop twice, each time round. -/
def slL (s m k i : Nat) : Nat := if i < s then i else s + (i - s) / (m + 1) * m + slS k ((i - s) % (m + 1))

theorem slS_slow (k : Nat) : Slow (slS k) := by
  refine ⟨by simp [slS], fun i => ?_, fun j => ?_⟩
  · unfold slS
    by_cases h1 : i ≤ k
    · by_cases h2 : i + 1 ≤ k
      · rw [if_pos h1, if_pos h2]; exact Or.inr rfl
      · rw [if_pos h1, if_neg h2]; left; omega
    · rw [if_neg h1, if_neg (by omega)]; right; omega
  · by_cases h : j ≤ k
    · exact ⟨j, if_pos h⟩
    · refine ⟨j + 1, ?_⟩
      unfold slS
      rw [if_neg (by omega)]; omega

theorem slS_ltr {s m k : Nat} {S L : Nat → Int} (hk : k < s) (i : Nat) : ltr (s + 1) m (dbl k S) L i = ltr s m S L (slS k i) := by
  by_cases h1 : i ≤ k
  · have e : slS k i = i := if_pos h1
    have d : dbl k S i = S i := if_pos h1
    rw [e]
    unfold ltr
    rw [if_pos (by omega), if_pos (by omega), d]
  · have e : slS k i = i - 1 := if_neg h1
    have d : dbl k S i = S (i - 1) := if_neg h1
    rw [e]
    unfold ltr
    by_cases h2 : i < s + 1
    · rw [if_pos h2, if_pos (by omega), d]
    · rw [if_neg h2, if_neg (by omega), show i - (s + 1) = i - 1 - s by omega]

theorem slL_at (s m k q r : Nat) (hr : r < m + 1) : slL s m k (s + (q * (m + 1) + r)) = s + q * m + slS k r := by
  unfold slL
  rw [if_neg (by omega), show s + (q * (m + 1) + r) - s = r + (m + 1) * q by rw [Nat.mul_comm q]; omega, Nat.add_mul_div_left _ _ (by omega), Nat.div_eq_of_lt hr, Nat.add_mul_mod_self_left, Nat.mod_eq_of_lt hr, Nat.zero_add]

theorem sl_split (s m i : Nat) (h : ¬ i < s) : ∃ q r, r < m + 1 ∧ i = s + (q * (m + 1) + r) :=
  ⟨(i - s) / (m + 1), (i - s) % (m + 1), Nat.mod_lt _ (by omega), by have := Nat.mod_add_div (i - s) (m + 1); rw [Nat.mul_comm ((i - s) / (m + 1))]; omega⟩

theorem slL_slow {s m k : Nat} (hk : k < m) : Slow (slL s m k) := by
  refine ⟨?_, fun i => ?_, fun j => ?_⟩
  · by_cases h : 0 < s
    · exact if_pos h
    · obtain rfl : s = 0 := by omega
      have := slL_at 0 m k 0 0 (by omega)
      simpa [slS] using this
  · by_cases h : i < s
    · by_cases h2 : i + 1 < s
      · right; unfold slL; rw [if_pos h, if_pos h2]
      · right
        obtain rfl : s = i + 1 := by omega
        have e := slL_at (i + 1) m k 0 0 (by omega)
        simp only [Nat.zero_mul, Nat.add_zero] at e
        rw [e]
        unfold slL
        rw [if_pos h]
        simp [slS]
    · obtain ⟨q, r, hr, rfl⟩ := sl_split s m i h
      rw [slL_at s m k q r hr]
      by_cases e : r + 1 < m + 1
      · have e1 := slL_at s m k q (r + 1) e
        rw [show s + (q * (m + 1) + r) + 1 = s + (q * (m + 1) + (r + 1)) by omega, e1]
        rcases (slS_slow k).step r with h1 | h1 <;> omega
      · obtain rfl : r = m := by omega
        have e1 := slL_at s r k (q + 1) 0 (by omega)
        rw [show s + (q * (r + 1) + r) + 1 = s + ((q + 1) * (r + 1) + 0) by rw [Nat.succ_mul]; omega, e1]
        have e2 : slS k 0 = 0 := by simp [slS]
        have e3 : slS k r = r - 1 := by unfold slS; rw [if_neg (by omega)]
        rw [e2, e3, Nat.succ_mul]
        right; omega
  · by_cases h : j < s
    · exact ⟨j, if_pos h⟩
    · obtain ⟨r, hr1, hr2⟩ : ∃ r, r < m + 1 ∧ slS k r = (j - s) % m := by
        have hlt := Nat.mod_lt (j - s) (show 0 < m by omega)
        obtain ⟨r, hr⟩ := (slS_slow k).far ((j - s) % m)
        refine ⟨r, ?_, hr⟩
        unfold slS at hr
        split at hr <;> omega
      refine ⟨s + ((j - s) / m * (m + 1) + r), ?_⟩
      rw [slL_at s m k _ r hr1, hr2]
      have := Nat.mod_add_div (j - s) m
      rw [Nat.mul_comm ((j - s) / m)]
      omega

theorem slL_ltr {s m k : Nat} {S L : Nat → Int} (hk : k < m) (i : Nat) : ltr s (m + 1) S (dbl k L) i = ltr s m S L (slL s m k i) := by
  by_cases h : i < s
  · unfold slL
    rw [if_pos h, ltr_stem h, ltr_stem h]
  · obtain ⟨q, r, hr, rfl⟩ := sl_split s m i h
    have hb : slS k r < m := by
      unfold slS
      split <;> omega
    rw [slL_at s m k q r hr, ltr_far (by omega), ltr_far (by omega), show s + (q * (m + 1) + r) - s = r + (m + 1) * q by rw [Nat.mul_comm q]; omega, Nat.add_mul_mod_self_left, Nat.mod_eq_of_lt hr, show s + q * m + slS k r - s = slS k r + m * q by rw [Nat.mul_comm q]; omega, Nat.add_mul_mod_self_left, Nat.mod_eq_of_lt hb]
    unfold dbl slS
    split <;> rfl

/-- Where it can be told of both words, it is told alike. -/
theorem stut_tells {f : Fml} (hf : Pln f) {s m s' m' : Nat} {S L S' L' : Nat → Int} (hm : 0 < m) (hm' : 0 < m') {p : Nat → Nat} (hp : Slow p) (he : ∀ i, ltr s' m' S' L' i = ltr s m S L (p i)) : hb (s' + m') (atm s' m' S' L') f 0 = hb (s + m) (atm s m S L) f 0 := by
  rw [Bool.eq_iff_iff, hb_hold hm' (atm_per _ _ _ _), hb_hold hm (atm_per _ _ _ _)]
  have e : atm s' m' S' L' = fun i n => atm s m S L (p i) n := by
    funext i n
    unfold atm
    rw [he]
  rw [e]
  have := hold_slow hp (A := atm s m S L) f hf 0
  rw [hp.zero] at this
  exact this

end Go.Proofs.YtejombhfkobcbaaDoor
