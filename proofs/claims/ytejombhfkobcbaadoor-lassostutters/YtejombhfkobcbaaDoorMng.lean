/- What composed formulas mean. -/
import Derived.Test.YtejombhfkobcbaaDoorMkf
namespace Go.Proofs.YtejombhfkobcbaaDoor
open Go.RowKit

theorem hold_red_on (A : Nat → Int → Bool) (k : Int) (t : Fml) : (on k t).reds (fun _ => False) (holdF A) 0 = hold A t := by rw [hold_kid (show 0 < 1 by decide), on_kid]
theorem hold_red_tw0 (A : Nat → Int → Bool) (k : Int) (t t2 : Fml) : (tw k t t2).reds (fun _ => False) (holdF A) 0 = hold A t := by rw [hold_kid (show 0 < 2 by decide), tw_kid0]
theorem hold_red_tw1 (A : Nat → Int → Bool) (k : Int) (t t2 : Fml) : (tw k t t2).reds (fun _ => False) (holdF A) 1 = hold A t2 := by rw [hold_kid (show 1 < 2 by decide), tw_kid1]

section
variable (A : Nat → Int → Bool) (f g : Fml) (i : Nat)
theorem hold_true (n : Int) : hold A (nd 1 n) i = True := by rw [hold_eq]; simp [holdF, nd]
theorem hold_not : hold A (on 4 f) i = ¬ hold A f i := by
  have e := hold_red_on A 4 f
  rw [hold_eq]
  generalize (on 4 f).reds (fun _ => False) (holdF A) = r at e ⊢
  unfold holdF
  rw [e]
  simp [on]
theorem hold_and : hold A (tw 5 f g) i = (hold A f i ∧ hold A g i) := by
  have e := hold_red_tw0 A 5 f g
  have e1 := hold_red_tw1 A 5 f g
  rw [hold_eq]
  generalize (tw 5 f g).reds (fun _ => False) (holdF A) = r at e e1 ⊢
  unfold holdF
  rw [e, e1]
  simp [tw]
theorem hold_or : hold A (tw 6 f g) i = (hold A f i ∨ hold A g i) := by
  have e := hold_red_tw0 A 6 f g
  have e1 := hold_red_tw1 A 6 f g
  rw [hold_eq]
  generalize (tw 6 f g).reds (fun _ => False) (holdF A) = r at e e1 ⊢
  unfold holdF
  rw [e, e1]
  simp [tw]
theorem hold_next : hold A (on 7 f) i = hold A f (i + 1) := by
  have e := hold_red_on A 7 f
  rw [hold_eq]
  generalize (on 7 f).reds (fun _ => False) (holdF A) = r at e ⊢
  unfold holdF
  rw [e]
  simp [on]
theorem hold_until : hold A (tw 8 f g) i = ∃ j, i ≤ j ∧ hold A g j ∧ ∀ k, i ≤ k → k < j → hold A f k := by
  have e := hold_red_tw0 A 8 f g
  have e1 := hold_red_tw1 A 8 f g
  rw [hold_eq]
  generalize (tw 8 f g).reds (fun _ => False) (holdF A) = r at e e1 ⊢
  unfold holdF
  rw [e, e1]
  simp [tw]
theorem hold_release : hold A (tw 9 f g) i = ¬ ∃ j, i ≤ j ∧ ¬ hold A g j ∧ ∀ k, i ≤ k → k < j → ¬ hold A f k := by
  have e := hold_red_tw0 A 9 f g
  have e1 := hold_red_tw1 A 9 f g
  rw [hold_eq]
  generalize (tw 9 f g).reds (fun _ => False) (holdF A) = r at e e1 ⊢
  unfold holdF
  rw [e, e1]
  simp [tw]
theorem hold_finally : hold A (on 10 f) i = ∃ j, i ≤ j ∧ hold A f j := by
  have e := hold_red_on A 10 f
  rw [hold_eq]
  generalize (on 10 f).reds (fun _ => False) (holdF A) = r at e ⊢
  unfold holdF
  rw [e]
  simp [on]
theorem hold_globally : hold A (on 11 f) i = ¬ ∃ j, i ≤ j ∧ ¬ hold A f j := by
  have e := hold_red_on A 11 f
  rw [hold_eq]
  generalize (on 11 f).reds (fun _ => False) (holdF A) = r at e ⊢
  unfold holdF
  rw [e]
  simp [on]

theorem ex_step (F G : Nat → Prop) (i : Nat) : (∃ j, i ≤ j ∧ G j ∧ ∀ k, i ≤ k → k < j → F k) ↔ G i ∨ (F i ∧ ∃ j, i + 1 ≤ j ∧ G j ∧ ∀ k, i + 1 ≤ k → k < j → F k) := by
  constructor
  · rintro ⟨j, h1, h2, h3⟩
    by_cases e : j = i
    · subst e; exact Or.inl h2
    · exact Or.inr ⟨h3 i (Nat.le_refl _) (by omega), j, by omega, h2, fun k a b => h3 k (by omega) b⟩
  · rintro (h | ⟨h, j, h1, h2, h3⟩)
    · exact ⟨i, Nat.le_refl _, h, fun k a b => by omega⟩
    · refine ⟨j, by omega, h2, fun k a b => ?_⟩
      by_cases e : k = i
      · rw [e]; exact h
      · exact h3 k (by omega) b

theorem law_until : hold A (tw 8 f g) i ↔ hold A (tw 6 g (tw 5 f (on 7 (tw 8 f g)))) i := by
  rw [hold_or, hold_and, hold_next, hold_until, hold_until]
  exact ex_step _ _ i
theorem law_release : hold A (tw 9 f g) i ↔ hold A (tw 5 g (tw 6 f (on 7 (tw 9 f g)))) i := by
  rw [hold_and, hold_or, hold_next, hold_release, hold_release, ex_step (fun k => ¬ hold A f k) (fun k => ¬ hold A g k) i]
  constructor
  · intro h
    refine ⟨Classical.byContradiction fun h1 => h (Or.inl h1), ?_⟩
    by_cases hf : hold A f i
    · exact Or.inl hf
    · exact Or.inr fun h2 => h (Or.inr ⟨hf, h2⟩)
  · rintro ⟨h1, h2⟩ (h3 | ⟨h3, h4⟩)
    · exact h3 h1
    · rcases h2 with h2 | h2
      · exact h3 h2
      · exact h2 h4
theorem law_not : hold A (on 4 (tw 8 f g)) i ↔ hold A (tw 9 (on 4 f) (on 4 g)) i := by
  rw [hold_not, hold_until, hold_release]
  refine not_congr ⟨?_, ?_⟩
  · rintro ⟨j, h1, h2, h3⟩
    exact ⟨j, h1, by rw [hold_not]; exact fun h => h h2, fun k a b => by rw [hold_not]; exact fun h => h (h3 k a b)⟩
  · rintro ⟨j, h1, h2, h3⟩
    refine ⟨j, h1, ?_, fun k a b => ?_⟩
    · rw [hold_not] at h2; exact Classical.byContradiction h2
    · have := h3 k a b
      rw [hold_not] at this; exact Classical.byContradiction this
theorem law_finally : hold A (on 10 g) i ↔ hold A (tw 8 (nd 1 0) g) i := by
  rw [hold_finally, hold_until]
  constructor
  · rintro ⟨j, h1, h2⟩
    exact ⟨j, h1, h2, fun k _ _ => by rw [hold_true]; trivial⟩
  · rintro ⟨j, h1, h2, _⟩
    exact ⟨j, h1, h2⟩
theorem law_never : hold A (on 4 (on 10 g)) i ↔ hold A (on 11 (on 4 g)) i := by
  rw [hold_not, hold_finally, hold_globally]
  refine not_congr ⟨?_, ?_⟩
  · rintro ⟨j, h1, h2⟩
    exact ⟨j, h1, by rw [hold_not]; exact fun h => h h2⟩
  · rintro ⟨j, h1, h2⟩
    rw [hold_not] at h2
    exact ⟨j, h1, Classical.byContradiction h2⟩
theorem law_next : hold A (on 7 (tw 5 f g)) i ↔ hold A (tw 5 (on 7 f) (on 7 g)) i := by
  rw [hold_next, hold_and, hold_and, hold_next, hold_next]
theorem law_always : hold A (on 11 (on 11 f)) i ↔ hold A (on 11 f) i := by
  rw [hold_globally, hold_globally]
  refine not_congr ⟨?_, ?_⟩
  · rintro ⟨j, h1, h2⟩
    rw [hold_globally] at h2
    obtain ⟨j', h3, h4⟩ := Classical.byContradiction h2
    exact ⟨j', by omega, h4⟩
  · rintro ⟨j, h1, h2⟩
    exact ⟨j, h1, by rw [hold_globally]; exact fun h => h ⟨j, Nat.le_refl _, h2⟩⟩
end

/-- The same truth, where both can be told. -/
theorem tr_same {t t2 : Fml} {s m : Nat} {S L : Nat → Int} (h : ∀ A, hold A t 0 ↔ hold A t2 0) : (trV t s m S L).2 = true → (trV t2 s m S L).2 = true → (trV t s m S L).1 = (trV t2 s m S L).1 := by
  intro h1 h2
  unfold trV at h1 h2 ⊢
  by_cases a : hchk t s m = 0
  · by_cases b : hchk t2 s m = 0
    · rw [if_pos a, if_pos b]
      have hm : 0 < m := by
        unfold hchk at a
        by_cases hc : (chk t 1 0).1 = 0
        · rw [if_neg (by rw [hc]; decide)] at a
          exact (wchk_ok a).2
        · rw [if_pos hc] at a
          exact absurd a hc
      show hb (s + m) (atm s m S L) t 0 = hb (s + m) (atm s m S L) t2 0
      rw [Bool.eq_iff_iff, hb_hold hm (atm_per s m S L), hb_hold hm (atm_per s m S L)]
      exact h _
    · rw [if_neg b] at h2; cases h2
  · rw [if_neg a] at h1; cases h1

end Go.Proofs.YtejombhfkobcbaaDoor
