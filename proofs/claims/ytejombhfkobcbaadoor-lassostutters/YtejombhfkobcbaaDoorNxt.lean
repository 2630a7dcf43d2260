/- A word without its first letter. -/
import Derived.Test.YtejombhfkobcbaaDoorNow2
import Derived.Test.YtejombhfkobcbaaDoorUnr2
namespace Go.Proofs.YtejombhfkobcbaaDoor
open Go.RowKit

theorem chkAll_mono {f g : Nat → Nat → Int × Nat} {m m' : Nat} (hm : m' ≤ m) : ∀ n, (∀ i, i < n → ∀ x x', x' ≤ x → (f i x).1 = 0 → (g i x').1 = 0 ∧ (g i x').2 + x = (f i x).2 + x') → (chkAll f m n).1 = 0 → (chkAll g m' n).1 = 0 ∧ (chkAll g m' n).2 + m = (chkAll f m n).2 + m'
  | 0, _, _ => ⟨rfl, by simp only [chkAll]; omega⟩
  | n + 1, hf, h => by
    have h0 : (chkAll f m n).1 = 0 := chkAll_ok h (Nat.le_succ n)
    obtain ⟨h1, h2⟩ := chkAll_mono hm n (fun i hi => hf i (by omega)) h0
    simp only [chkAll, if_pos h0, if_pos h1] at h ⊢
    obtain ⟨h3, h4⟩ := hf n (by omega) _ (chkAll g m' n).2 (by omega) h
    exact ⟨h3, by omega⟩

theorem chk_mono : ∀ (t : Fml) (d m d' m' : Nat), d' ≤ d → m' ≤ m → (chk t d m).1 = 0 → (chk t d' m').1 = 0 ∧ (chk t d' m').2 + m = (chk t d m).2 + m' := by
  intro t
  induction t using Fml.ind with
  | h t ih =>
    intro d m d' m' hd hm h
    rw [chk_eq] at h
    rw [chk_eq t d' m', chk_eq t d m]
    by_cases h1 : 60 < m + 1
    · rw [if_pos h1] at h; cases h
    rw [if_neg h1] at h ⊢
    by_cases h2 : 20 < d
    · rw [if_pos h2] at h; cases h
    rw [if_neg h2] at h ⊢
    by_cases h3 : fit t = false
    · rw [if_pos h3] at h; cases h
    rw [if_neg h3] at h ⊢
    rw [if_neg (by omega), if_neg (by omega), if_neg h3]
    have := chkAll_mono (f := fun i x => chk (t.kid i) (d + 1) x) (g := fun i x => chk (t.kid i) (d' + 1) x) (m := m + 1) (m' := m' + 1) (by omega) t.cnt (fun i hi x x' hx hh => ih i hi (d + 1) x (d' + 1) x' (by omega) hx hh) h
    exact ⟨this.1, by omega⟩

theorem chk_of_on {k : Int} {t : Fml} (h : (chk (on k t) 1 0).1 = 0) : (chk t 1 0).1 = 0 := by
  rw [chk_eq] at h
  by_cases h3 : fit (on k t) = false
  · rw [if_neg (by omega), if_neg (by omega), if_pos h3] at h; cases h
  rw [if_neg (by omega), if_neg (by omega), if_neg h3] at h
  have e : chkAll (fun i x => chk ((on k t).kid i) (1 + 1) x) (0 + 1) (on k t).cnt = chk t 2 1 := by
    show chkAll (fun i x => chk ((on k t).kid i) (1 + 1) x) (0 + 1) 1 = chk t 2 1
    simp only [chkAll, if_true, on_kid]
  rw [e] at h
  exact (chk_mono t 2 1 1 0 (by omega) (by omega) h).1

theorem holdF_shift {A : Nat → Int → Bool} (t : Fml) {r q : Nat → Nat → Prop} (h : ∀ k i, r k i ↔ q k (i + 1)) (i : Nat) : holdF (fun i n => A (i + 1) n) t r i ↔ holdF A t q (i + 1) := by
  have he : ∀ (P : Nat → Prop), (∃ j, i ≤ j ∧ P (j + 1)) ↔ ∃ j, i + 1 ≤ j ∧ P j := fun P => by
    constructor
    · rintro ⟨j, h1, h2⟩; exact ⟨j + 1, by omega, h2⟩
    · rintro ⟨j, h1, h2⟩
      refine ⟨j - 1, by omega, ?_⟩
      rw [show j - 1 + 1 = j by omega]; exact h2
  have ha : ∀ (j : Nat) (P : Nat → Prop), (∀ k, i ≤ k → k < j → P (k + 1)) ↔ ∀ k, i + 1 ≤ k → k < j + 1 → P k := fun j P => by
    constructor
    · intro hh k h1 h2
      have := hh (k - 1) (by omega) (by omega)
      rwa [show k - 1 + 1 = k by omega] at this
    · intro hh k h1 h2
      exact hh (k + 1) (by omega) (by omega)
  unfold holdF
  by_cases h1 : t.kind = 1
  · rw [if_pos h1, if_pos h1]
  rw [if_neg h1, if_neg h1]
  by_cases h1 : t.kind = 3
  · rw [if_pos h1, if_pos h1]
  rw [if_neg h1, if_neg h1]
  by_cases h1 : t.kind = 4
  · rw [if_pos h1, if_pos h1, h]
  rw [if_neg h1, if_neg h1]
  by_cases h1 : t.kind = 5
  · rw [if_pos h1, if_pos h1, h, h]
  rw [if_neg h1, if_neg h1]
  by_cases h1 : t.kind = 6
  · rw [if_pos h1, if_pos h1, h, h]
  rw [if_neg h1, if_neg h1]
  by_cases h1 : t.kind = 7
  · rw [if_pos h1, if_pos h1, h]
  rw [if_neg h1, if_neg h1]
  by_cases h1 : t.kind = 8
  · rw [if_pos h1, if_pos h1, ← he (fun j => q 1 j ∧ ∀ k, i + 1 ≤ k → k < j → q 0 k)]
    simp only [h]
    constructor
    · rintro ⟨j, a, b, c⟩; exact ⟨j, a, b, (ha j (q 0)).1 c⟩
    · rintro ⟨j, a, b, c⟩; exact ⟨j, a, b, (ha j (q 0)).2 c⟩
  rw [if_neg h1, if_neg h1]
  by_cases h1 : t.kind = 9
  · rw [if_pos h1, if_pos h1, ← he (fun j => ¬ q 1 j ∧ ∀ k, i + 1 ≤ k → k < j → ¬ q 0 k)]
    simp only [h]
    refine not_congr ⟨?_, ?_⟩
    · rintro ⟨j, a, b, c⟩; exact ⟨j, a, b, (ha j (fun k => ¬ q 0 k)).1 c⟩
    · rintro ⟨j, a, b, c⟩; exact ⟨j, a, b, (ha j (fun k => ¬ q 0 k)).2 c⟩
  rw [if_neg h1, if_neg h1]
  by_cases h1 : t.kind = 10
  · rw [if_pos h1, if_pos h1, ← he (fun j => q 0 j)]
    simp only [h]
  rw [if_neg h1, if_neg h1]
  by_cases h1 : t.kind = 11
  · rw [if_pos h1, if_pos h1, ← he (fun j => ¬ q 0 j)]
    simp only [h]
  rw [if_neg h1, if_neg h1]

theorem hold_shift {A : Nat → Int → Bool} : ∀ t i, hold (fun i n => A (i + 1) n) t i ↔ hold A t (i + 1) := by
  intro t
  induction t using Fml.ind with
  | h t ih =>
    intro i
    rw [hold_eq, hold_eq]
    refine holdF_shift t (fun k i => ?_) i
    by_cases hk : k < t.cnt
    · rw [hold_kid hk, hold_kid hk]; exact ih k hk i
    · rw [hold_none hk, hold_none hk]

/-- The next place, told of the word without its first letter. -/
theorem next_tells {f : Fml} {s m s' m' : Nat} {S L S' L' : Nat → Int} (hm : 0 < m) (hm' : 0 < m') (he : ∀ i, ltr s' m' S' L' i = ltr s m S L (i + 1)) : hb (s' + m') (atm s' m' S' L') f 0 = hb (s + m) (atm s m S L) (on 7 f) 0 := by
  rw [Bool.eq_iff_iff, hb_hold hm' (atm_per _ _ _ _), hb_hold hm (atm_per _ _ _ _), hold_next]
  have e : atm s' m' S' L' = fun i n => atm s m S L (i + 1) n := by
    funext i n
    unfold atm
    rw [he]
  rw [e]
  exact hold_shift f 0

theorem ltr_tail {s m : Nat} {S L : Nat → Int} (i : Nat) : ltr s m (fun i => S (1 + i)) L i = ltr (s + 1) m S L (i + 1) := by
  unfold ltr
  by_cases h : i < s
  · rw [if_pos h, if_pos (by omega), Nat.add_comm]
  · rw [if_neg h, if_neg (by omega), show i + 1 - (s + 1) = i - s by omega]

theorem ltr_tail0 {m : Nat} (_hm : 0 < m) {S L S' : Nat → Int} (i : Nat) : ltr 0 m S' (fun i => L ((1 + i) % m)) i = ltr 0 m S L (i + 1) := by
  unfold ltr
  rw [if_neg (by omega), if_neg (by omega), Nat.sub_zero, Nat.sub_zero]
  show L ((1 + i % m) % m) = L ((i + 1) % m)
  rw [Nat.add_mod_mod, Nat.add_comm]

end Go.Proofs.YtejombhfkobcbaaDoor
