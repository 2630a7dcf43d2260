/- A path written otherwise: pure. -/
import Derived.Test.YtgahdclbaifcbaaPth
import Derived.Test.YtgahdclbaifcbaaLst
namespace Go.Proofs.Ytgahdclbaifcbaa
open Go.RowKit

theorem pw_ltr {s m : Nat} (hm : 0 < m) (P Q : Nat → Int) {i : Nat} (h : i ≤ s + m) : pw s m P Q i = ltr s m P Q i := by
  unfold pw ltr
  by_cases e : i < s
  · rw [if_pos e, if_pos e]
  · rw [if_neg e, if_neg e]
    by_cases e2 : i < s + m
    · rw [if_pos e2, Nat.mod_eq_of_lt (by omega)]
    · rw [if_neg e2, show i - s = m by omega, Nat.mod_self]

theorem ltr_add {s m : Nat} (P Q : Nat → Int) (k : Nat) : ltr s m P Q (s + k) = Q (k % m) := by
  unfold ltr
  rw [if_neg (by omega), show s + k - s = k by omega]

theorem gd_of {A : Wx} {s m : Nat} {P Q : Nat → Int} (hm : 0 < m) {N : Nat} (hN : s ≤ N) : gdB A s m P Q = true ↔
    ((∀ i, 0 ≤ ltr s m P Q i ∧ ltr s m P Q i < A.G) ∧ has A.sn A.S (ltr s m P Q 0) = true ∧ (∀ i, has (A.L (ltr s m P Q i).toNat) (A.Z (ltr s m P Q i).toNat) (ltr s m P Q (i + 1)) = true) ∧ ∀ k, k < A.K → ∃ i, i < A.FL k ∧ ∃ j, N ≤ j ∧ ltr s m P Q j = A.FZ k i) := by
  unfold gdB wyB mtB
  simp only [Bool.and_eq_true, decide_eq_true_eq]
  constructor
  · rintro ⟨⟨⟨⟨_, h1⟩, h2⟩, h3, h4⟩, h5⟩
    have hp := allIn_all h1
    have hq := allIn_all h2
    refine ⟨fun i => ?_, ?_, fun i => ?_, fun k hk => ?_⟩
    · unfold ltr
      by_cases e : i < s
      · rw [if_pos e]; exact hp i e
      · rw [if_neg e]; exact hq _ (Nat.mod_lt _ hm)
    · rw [← pw_ltr hm P Q (Nat.zero_le _)]; exact h3
    · by_cases e : i < s + m
      · have := h4 i e
        rw [pw_ltr hm P Q (by omega), pw_ltr hm P Q (by omega)] at this
        exact this
      · obtain ⟨k, rfl⟩ : ∃ k, i = s + k := ⟨i - s, by omega⟩
        have := h4 (s + k % m) (by have := Nat.mod_lt k hm; omega)
        have hl := Nat.mod_lt k hm
        rw [pw_ltr hm P Q (by omega), pw_ltr hm P Q (by omega), Nat.add_assoc, ltr_add, ltr_add, Nat.mod_mod, show (k % m + 1) % m = (k + 1) % m by rw [Nat.mod_add_mod]] at this
        rw [Nat.add_assoc, ltr_add, ltr_add]
        exact this
    · obtain ⟨i, hi, h6⟩ := h5 k hk
      obtain ⟨j, hj, e⟩ := has_iff.1 h6
      refine ⟨i, hi, s + (j + m * N), ?_, ?_⟩
      · have : N ≤ m * N := Nat.le_mul_of_pos_left N hm
        omega
      · rw [ltr_add, Nat.add_mul_mod_self_left, Nat.mod_eq_of_lt hj, e]
  · rintro ⟨h1, h2, h3, h4⟩
    refine ⟨⟨⟨⟨hm, allIn_yes fun i hi => ?_⟩, allIn_yes fun i hi => ?_⟩, ?_, fun i hi => ?_⟩, fun k hk => ?_⟩
    · have := h1 i
      unfold ltr at this
      rw [if_pos hi] at this
      exact this
    · have := h1 (s + i)
      rw [ltr_add, Nat.mod_eq_of_lt hi] at this
      exact this
    · rw [pw_ltr hm P Q (Nat.zero_le _)]; exact h2
    · rw [pw_ltr hm P Q (by omega), pw_ltr hm P Q (by omega)]; exact h3 i
    · obtain ⟨i, hi, j, hj, e⟩ := h4 k hk
      obtain ⟨q, rfl⟩ : ∃ q, j = s + q := ⟨j - s, by omega⟩
      rw [ltr_add] at e
      exact ⟨i, hi, has_iff.2 ⟨q % m, Nat.mod_lt _ hm, e⟩⟩

/-- The Loop begun at another place. -/
def rotQ (m n : Nat) (Q : Nat → Int) (i : Nat) : Int := if i < m - n then Q (n + i) else Q (i - (m - n))
/-- The Stem with what of the Loop has gone by. -/
def stmP (s : Nat) (P Q : Nat → Int) (i : Nat) : Int := if i < s then P i else Q (i - s)

theorem ltr_turn {s m n : Nat} (hn : n ≤ m) (hm : 0 < m) (P Q : Nat → Int) (i : Nat) : ltr (s + n) m (stmP s P Q) (rotQ m n Q) i = ltr s m P Q i := by
  unfold ltr
  by_cases e : i < s
  · rw [if_pos (by omega), if_pos e, stmP, if_pos e]
  · rw [if_neg e]
    by_cases e2 : i < s + n
    · rw [if_pos e2, stmP, if_neg e, Nat.mod_eq_of_lt (by omega)]
    · rw [if_neg e2]
      obtain ⟨k, rfl⟩ : ∃ k, i = s + n + k := ⟨i - (s + n), by omega⟩
      rw [show s + n + k - (s + n) = k by omega, show s + n + k - s = n + k by omega]
      have hl := Nat.mod_lt k hm
      rw [show (n + k) % m = (n + k % m) % m by rw [Nat.add_mod_mod]]
      unfold rotQ
      by_cases e3 : k % m < m - n
      · rw [if_pos e3, Nat.mod_eq_of_lt (show n + k % m < m by omega)]
      · rw [if_neg e3]
        congr 1
        have : (n + k % m) % m = n + k % m - m := by
          rw [Nat.mod_eq_sub_mod (by omega), Nat.mod_eq_of_lt (by omega)]
        omega

theorem gd_turn {A : Wx} {s m n : Nat} (hn : n ≤ m) (hm : 0 < m) (P Q : Nat → Int) : gdB A (s + n) m (stmP s P Q) (rotQ m n Q) = gdB A s m P Q := by
  have h1 := gd_of (A := A) (P := stmP s P Q) (Q := rotQ m n Q) hm (Nat.le_refl (s + n))
  have h2 := gd_of (A := A) (s := s) (P := P) (Q := Q) hm (show s ≤ s + n by omega)
  simp only [ltr_turn hn hm P Q] at h1
  rw [Bool.eq_iff_iff, h1, h2]

end Go.Proofs.Ytgahdclbaifcbaa
