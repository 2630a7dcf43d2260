/- What composed formulas mean. -/
import Derived.Test.YtinacgkiigbmjaaDoorMkf
import Derived.Test.YtinacgkiigbmjaaDoorWrd
namespace Go.Proofs.YtinacgkiigbmjaaDoor
open Go.RowKit

theorem hold_red_on (A : Nat → Int → Bool) (k : Int) (t : Fml) : (on k t).reds (fun _ => False) (holdF A) 0 = hold A t := by rw [hold_kid (show 0 < 1 by decide), on_kid]
theorem hold_red_tw0 (A : Nat → Int → Bool) (k : Int) (t t2 : Fml) : (tw k t t2).reds (fun _ => False) (holdF A) 0 = hold A t := by rw [hold_kid (show 0 < 2 by decide), tw_kid0]
theorem hold_red_tw1 (A : Nat → Int → Bool) (k : Int) (t t2 : Fml) : (tw k t t2).reds (fun _ => False) (holdF A) 1 = hold A t2 := by rw [hold_kid (show 1 < 2 by decide), tw_kid1]

section
variable (A : Nat → Int → Bool) (f g : Fml) (i : Nat)
theorem hold_true (n : Int) : hold A (nd 1 n) i = True := by rw [hold_eq]; simp [holdF, nd]
theorem hold_not : hold A (on 4 f) i = ¬ hold A f i := by
  have e := hold_red_on A 4 f
  rw [hold_eq]
  generalize (on 4 f).reds (fun _ => False) (holdF A) = r at e ⊢
  unfold holdF
  rw [e]
  simp [on]
theorem hold_and : hold A (tw 5 f g) i = (hold A f i ∧ hold A g i) := by
  have e := hold_red_tw0 A 5 f g
  have e1 := hold_red_tw1 A 5 f g
  rw [hold_eq]
  generalize (tw 5 f g).reds (fun _ => False) (holdF A) = r at e e1 ⊢
  unfold holdF
  rw [e, e1]
  simp [tw]
theorem hold_or : hold A (tw 6 f g) i = (hold A f i ∨ hold A g i) := by
  have e := hold_red_tw0 A 6 f g
  have e1 := hold_red_tw1 A 6 f g
  rw [hold_eq]
  generalize (tw 6 f g).reds (fun _ => False) (holdF A) = r at e e1 ⊢
  unfold holdF
  rw [e, e1]
  simp [tw]
theorem hold_next : hold A (on 7 f) i = hold A f (i + 1) := by
  have e := hold_red_on A 7 f
  rw [hold_eq]
  generalize (on 7 f).reds (fun _ => False) (holdF A) = r at e ⊢
  unfold holdF
  rw [e]
  simp [on]
theorem hold_until : hold A (tw 8 f g) i = ∃ j, i ≤ j ∧ hold A g j ∧ ∀ k, i ≤ k → k < j → hold A f k := by
  have e := hold_red_tw0 A 8 f g
  have e1 := hold_red_tw1 A 8 f g
  rw [hold_eq]
  generalize (tw 8 f g).reds (fun _ => False) (holdF A) = r at e e1 ⊢
  unfold holdF
  rw [e, e1]
  simp [tw]
theorem hold_release : hold A (tw 9 f g) i = ¬ ∃ j, i ≤ j ∧ ¬ hold A g j ∧ ∀ k, i ≤ k → k < j → ¬ hold A f k := by
  have e := hold_red_tw0 A 9 f g
  have e1 := hold_red_tw1 A 9 f g
  rw [hold_eq]
  generalize (tw 9 f g).reds (fun _ => False) (holdF A) = r at e e1 ⊢
  unfold holdF
  rw [e, e1]
  simp [tw]
theorem hold_finally : hold A (on 10 f) i = ∃ j, i ≤ j ∧ hold A f j := by
  have e := hold_red_on A 10 f
  rw [hold_eq]
  generalize (on 10 f).reds (fun _ => False) (holdF A) = r at e ⊢
  unfold holdF
  rw [e]
  simp [on]
theorem hold_globally : hold A (on 11 f) i = ¬ ∃ j, i ≤ j ∧ ¬ hold A f j := by
  have e := hold_red_on A 11 f
  rw [hold_eq]
  generalize (on 11 f).reds (fun _ => False) (holdF A) = r at e ⊢
  unfold holdF
  rw [e]
  simp [on]
end

end Go.Proofs.YtinacgkiigbmjaaDoor
