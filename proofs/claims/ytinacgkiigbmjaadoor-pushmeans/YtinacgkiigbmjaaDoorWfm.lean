/- Formulas that are checked: every node fits. -/
import Derived.Test.YtinacgkiigbmjaaDoorFml
namespace Go.Proofs.YtinacgkiigbmjaaDoor
open Go.RowKit

/-- All nodes fit. -/
def Wf (t : Fml) : Prop := t.red True fun t r => fit t = true ∧ ∀ i, i < t.cnt → r i

theorem Wf.out {t : Fml} (h : Wf t) : fit t = true ∧ ∀ i, i < t.cnt → Wf (t.kid i) := by
  unfold Wf at h
  rw [Fml.red_eq] at h
  exact ⟨h.1, fun i hi => by have := h.2 i hi; rwa [Fml.reds_at hi] at this⟩
theorem Wf.mk {t : Fml} (h : fit t = true ∧ ∀ i, i < t.cnt → Wf (t.kid i)) : Wf t := by
  unfold Wf
  rw [Fml.red_eq]
  exact ⟨h.1, fun i hi => by rw [Fml.reds_at hi]; exact h.2 i hi⟩

def sumTo (f : Nat → Nat) : Nat → Nat
  | 0 => 0
  | n + 1 => sumTo f n + f n

theorem sumTo_congr {f g : Nat → Nat} : ∀ n, (∀ i, i < n → f i = g i) → sumTo f n = sumTo g n
  | 0, _ => rfl
  | n + 1, h => by rw [sumTo, sumTo, sumTo_congr n (fun i hi => h i (by omega)), h n (by omega)]

def szF (t : Fml) (r : Nat → Nat) : Nat := 1 + sumTo r t.cnt

/-- How many nodes a formula has. -/
def sz (t : Fml) : Nat := t.red 0 szF

theorem sz_eq (t : Fml) : sz t = 1 + sumTo (fun i => sz (t.kid i)) t.cnt := by
  have e : sz t = szF t (t.reds 0 szF) := Fml.red_eq _ _ t
  rw [e, szF, sumTo_congr (f := t.reds 0 szF) (g := fun i => sz (t.kid i)) t.cnt (fun i hi => Fml.reds_at hi)]

theorem chkAll_count {f : Nat → Nat → Int × Nat} {g : Nat → Nat} {p : Nat → Prop} {m : Nat} : ∀ n, (∀ i, i < n → ∀ x, (f i x).1 = 0 → p i ∧ (f i x).2 = x + g i) → (chkAll f m n).1 = 0 → (∀ i, i < n → p i) ∧ (chkAll f m n).2 = m + sumTo g n
  | 0, _, _ => ⟨fun _ h => absurd h (Nat.not_lt_zero _), rfl⟩
  | n + 1, hf, h => by
    have h0 : (chkAll f m n).1 = 0 := chkAll_ok h (Nat.le_succ n)
    obtain ⟨h1, h2⟩ := chkAll_count n (fun i hi => hf i (by omega)) h0
    simp only [chkAll, if_pos h0] at h ⊢
    obtain ⟨h3, h4⟩ := hf n (by omega) _ h
    refine ⟨snoc_all h1 h3, ?_⟩
    rw [h4, h2, sumTo]
    omega

theorem chk_wf : ∀ (t : Fml) (d m : Nat), (chk t d m).1 = 0 → Wf t ∧ (chk t d m).2 = m + sz t := by
  intro t
  induction t using Fml.ind with
  | h t ih =>
    intro d m h
    rw [chk_eq] at h ⊢
    by_cases h1 : 60 < m + 1
    · rw [if_pos h1] at h; cases h
    rw [if_neg h1] at h ⊢
    by_cases h2 : 20 < d
    · rw [if_pos h2] at h; cases h
    rw [if_neg h2] at h ⊢
    by_cases h3 : fit t = false
    · rw [if_pos h3] at h; cases h
    rw [if_neg h3] at h ⊢
    obtain ⟨h4, h5⟩ := chkAll_count (f := fun i x => chk (t.kid i) (d + 1) x) (g := fun i => sz (t.kid i)) (p := fun i => Wf (t.kid i)) t.cnt (fun i hi x hh => ih i hi (d + 1) x hh) h
    refine ⟨Wf.mk ⟨by simpa using h3, h4⟩, ?_⟩
    rw [sz_eq, h5]
    omega

theorem fit_parts {t : Fml} (h : fit t = true) : (t.cnt : Int) = ar t.kind ∧ (t.kind = 3 → 0 ≤ t.num ∧ t.num ≤ 63) := by
  unfold fit at h
  rw [Bool.and_eq_true, decide_eq_true_eq] at h
  refine ⟨h.1, fun hk => ?_⟩
  have := h.2
  rw [if_pos hk, decide_eq_true_eq] at this
  exact this

end Go.Proofs.YtinacgkiigbmjaaDoor
