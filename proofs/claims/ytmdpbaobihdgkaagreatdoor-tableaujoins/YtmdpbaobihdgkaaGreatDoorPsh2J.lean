/- Nots and Plain: the shapes of what they make; how deep and how large a formula is. Slim on trees. SameLtl of two formulas. -/
import Derived.Test.YtmdpbaobihdgkaaGreatDoorPshJ
import Derived.Deep.RegionHeld3
import Derived.Test.YtmdpbaobihdgkaaGreatDoorLim
import Derived.Test.YtmdpbaobihdgkaaGreatDoorChkJ
namespace Go.Proofs.YtmdpbaobihdgkaaGreatDoor
open Go.RowKit

theorem fit_mk {t : Fml} (h : (t.cnt : Int) = ar t.kind) (h3 : t.kind = 3 → 0 ≤ t.num ∧ t.num ≤ 63) (hn : t.kind ≠ 3 → t.num = 0) : fit t = true := by
  unfold fit
  rw [Bool.and_eq_true, decide_eq_true_eq]
  refine ⟨h, ?_⟩
  by_cases e : t.kind = 3
  · rw [if_pos e, decide_eq_true_eq]; exact h3 e
  · rw [if_neg e, decide_eq_true_eq]; exact hn e

theorem wf_nd {k n : Int} (h : fit (nd k n) = true) : Wf (nd k n) := Wf.mk ⟨h, fun i hi => absurd hi (Nat.not_lt_zero i)⟩
theorem wf_tw {k : Int} {t u : Fml} (hk : k = 5 ∨ k = 6 ∨ k = 8 ∨ k = 9) (h : Wf t) (h2 : Wf u) : Wf (tw k t u) := by
  refine Wf.mk ⟨fit_mk ?_ (fun e => ?_) (fun _ => rfl), fun i hi => ?_⟩
  · show ((2 : Nat) : Int) = ar k
    rcases hk with rfl | rfl | rfl | rfl <;> decide
  · have e' : k = 3 := e
    omega
  · have hi1 : i < 2 := hi
    rcases (by omega : i = 0 ∨ i = 1) with rfl | rfl
    · rw [tw_kid0]; exact h
    · rw [tw_kid1]; exact h2
theorem wf_mkn {k n : Int} {c : Nat} {r : Nat → Fml} (h : (c : Int) = ar k) (h3 : k = 3 → 0 ≤ n ∧ n ≤ 63) (hn : k ≠ 3 → n = 0) (hr : ∀ i, i < c → Wf (r i)) : Wf (mkn k n c r) :=
  Wf.mk ⟨fit_mk h h3 hn, fun i hi => by
    have hi' : i < c := hi
    rw [mkn_kid hi']; exact hr i hi'⟩

theorem wf_num {t : Fml} (h : Wf t) (hk : t.kind ≠ 3) : t.num = 0 := by
  rcases fit_cases h.out.1 with h1 | h1 | h1 | h1
  · exact absurd h1.1 hk
  · exact h1.2.2
  · exact h1.2.2
  · exact h1.2.2

def pnF (t : Fml) (r : Nat → Fml) : Fml := if t.kind = 10 then tw 8 (nd 1 0) (r 0) else if t.kind = 11 then tw 9 (nd 2 0) (r 0) else mkn t.kind t.num t.cnt r

/-- Neither LFinally nor LGlobally. -/
def pn (t : Fml) : Fml := t.red Fml.leaf pnF

theorem pn_eq {t : Fml} (h : Wf t) : pn t = pnF t (fun i => pn (t.kid i)) := by
  have hfc := fit_cases h.out.1
  have e : pn t = pnF t (t.reds Fml.leaf pnF) := Fml.red_eq _ _ t
  rw [e]
  have hr : ∀ i, i < t.cnt → t.reds Fml.leaf pnF i = pn (t.kid i) := fun i hi => Fml.reds_at hi
  generalize t.reds Fml.leaf pnF = r at hr
  unfold pnF
  by_cases h1 : t.kind = 10
  · rw [if_pos h1, if_pos h1, hr 0 (by omega)]
  by_cases h2 : t.kind = 11
  · rw [if_neg h1, if_neg h1, if_pos h2, if_pos h2, hr 0 (by omega)]
  · rw [if_neg h1, if_neg h1, if_neg h2, if_neg h2]
    exact mkn_congr hr

theorem wf_true : Wf (nd 1 0) := wf_nd (by decide)
theorem wf_false : Wf (nd 2 0) := wf_nd (by decide)

theorem pn_wf : ∀ t, Wf t → Wf (pn t) := by
  intro t
  induction t using Fml.ind with
  | h t ih =>
    intro hw
    have hf := fit_parts hw.out.1
    have hfc := fit_cases hw.out.1
    rw [pn_eq hw]
    unfold pnF
    by_cases h1 : t.kind = 10
    · rw [if_pos h1]; exact wf_tw (by omega) wf_true (ih 0 (by omega) (hw.out.2 0 (by omega)))
    rw [if_neg h1]
    by_cases h2 : t.kind = 11
    · rw [if_pos h2]; exact wf_tw (by omega) wf_false (ih 0 (by omega) (hw.out.2 0 (by omega)))
    rw [if_neg h2]
    exact wf_mkn hf.1 hf.2 (fun h => wf_num hw h) (fun i hi => ih i hi (hw.out.2 i hi))

theorem pn_hold {A : Nat → Int → Bool} : ∀ t, Wf t → ∀ i, hold A (pn t) i ↔ hold A t i := by
  intro t
  induction t using Fml.ind with
  | h t ih =>
    intro hw i
    have hfc := fit_cases hw.out.1
    rw [pn_eq hw]
    unfold pnF
    by_cases h1 : t.kind = 10
    · have h0 := fun i => ih 0 (by omega) (hw.out.2 0 (by omega)) i
      rw [if_pos h1, hold_until, hold_at A t]
      simp [hk, h1, h0, hold_true]
    rw [if_neg h1]
    by_cases h2 : t.kind = 11
    · have h0 := fun i => ih 0 (by omega) (hw.out.2 0 (by omega)) i
      have hF : ∀ j, hold A (nd 2 0) j = False := fun j => by rw [hold_at]; simp [hk, nd]
      rw [if_pos h2, hold_release, hold_at A t]
      simp [hk, h2, h0, hF]
    rw [if_neg h2, hold_mkn, hold_at A t]
    have e : (fun j => if j < t.cnt then hold A (pn (t.kid j)) else fun _ => False) = fun j => hold A (t.kid j) := by
      funext j
      by_cases hj : j < t.cnt
      · rw [if_pos hj]; funext l; exact propext (ih j hj (hw.out.2 j hj) l)
      · rw [if_neg hj, kid_none hj, hold_leaf]
    rw [e]

/-- Is a Kind in a formula? -/
def Has (k : Int) (t : Fml) : Prop := t.red False fun t r => t.kind = k ∨ ∃ i, i < t.cnt ∧ r i

theorem has_eq (k : Int) (t : Fml) : Has k t ↔ (t.kind = k ∨ ∃ i, i < t.cnt ∧ Has k (t.kid i)) := by
  have e : Has k t = (t.kind = k ∨ ∃ i, i < t.cnt ∧ t.reds False (fun t r => t.kind = k ∨ ∃ i, i < t.cnt ∧ r i) i) := Fml.red_eq _ _ t
  rw [e]
  constructor
  · rintro (h | ⟨i, hi, h⟩)
    · exact Or.inl h
    · rw [Fml.reds_at hi] at h; exact Or.inr ⟨i, hi, h⟩
  · rintro (h | ⟨i, hi, h⟩)
    · exact Or.inl h
    · exact Or.inr ⟨i, hi, by rw [Fml.reds_at hi]; exact h⟩

theorem has_tw {k j : Int} {t u : Fml} (h : Has k (tw j t u)) : j = k ∨ Has k t ∨ Has k u := by
  rcases (has_eq _ _).1 h with h | ⟨i, hi, h⟩
  · exact Or.inl h
  · have hi1 : i < 2 := hi
    rcases (by omega : i = 0 ∨ i = 1) with rfl | rfl
    · rw [tw_kid0] at h; exact Or.inr (Or.inl h)
    · rw [tw_kid1] at h; exact Or.inr (Or.inr h)
theorem has_nd {k j n : Int} (h : Has k (nd j n)) : j = k := by
  rcases (has_eq _ _).1 h with h | ⟨i, hi, h⟩
  · exact h
  · exact absurd hi (Nat.not_lt_zero i)

theorem pn_has : ∀ t, Wf t → ∀ k, k = 10 ∨ k = 11 → ¬ Has k (pn t) := by
  intro t
  induction t using Fml.ind with
  | h t ih =>
    intro hw k hkk
    have hfc := fit_cases hw.out.1
    rw [pn_eq hw]
    unfold pnF
    by_cases h1 : t.kind = 10
    · rw [if_pos h1]
      intro h
      rcases has_tw h with h | h | h
      · omega
      · have := has_nd h; omega
      · exact ih 0 (by omega) (hw.out.2 0 (by omega)) k hkk h
    rw [if_neg h1]
    by_cases h2 : t.kind = 11
    · rw [if_pos h2]
      intro h
      rcases has_tw h with h | h | h
      · omega
      · have := has_nd h; omega
      · exact ih 0 (by omega) (hw.out.2 0 (by omega)) k hkk h
    rw [if_neg h2, has_eq]
    rintro (h | ⟨i, hi, h⟩)
    · have h' : t.kind = k := h
      omega
    · have hi' : i < t.cnt := hi
      rw [mkn_kid hi'] at h
      exact ih i hi' (hw.out.2 i hi') k hkk h

def maxTo (f : Nat → Nat) : Nat → Nat
  | 0 => 0
  | n + 1 => max (maxTo f n) (f n)

theorem maxTo_le {f : Nat → Nat} {b : Nat} : ∀ n, maxTo f n ≤ b ↔ ∀ i, i < n → f i ≤ b
  | 0 => ⟨fun _ i hi => absurd hi (Nat.not_lt_zero i), fun _ => Nat.zero_le _⟩
  | n + 1 => by
    rw [maxTo, Nat.max_le, maxTo_le n]
    exact ⟨fun h => snoc_all h.1 h.2, fun h => ⟨fun i hi => h i (by omega), h n (by omega)⟩⟩
theorem maxTo_congr {f g : Nat → Nat} : ∀ n, (∀ i, i < n → f i = g i) → maxTo f n = maxTo g n
  | 0, _ => rfl
  | n + 1, h => by rw [maxTo, maxTo, maxTo_congr n (fun i hi => h i (by omega)), h n (by omega)]

def dpF (t : Fml) (r : Nat → Nat) : Nat := 1 + maxTo r t.cnt
/-- How deep a formula is. -/
def dp (t : Fml) : Nat := t.red 0 dpF
theorem dp_eq (t : Fml) : dp t = 1 + maxTo (fun i => dp (t.kid i)) t.cnt := by
  have e : dp t = dpF t (t.reds 0 dpF) := Fml.red_eq _ _ t
  rw [e, dpF, maxTo_congr (f := t.reds 0 dpF) (g := fun i => dp (t.kid i)) t.cnt (fun i hi => Fml.reds_at hi)]

theorem chkAll_of {f : Nat → Nat → Int × Nat} {g : Nat → Nat} {m : Nat} : ∀ n, (∀ i, i < n → ∀ x, x + g i ≤ 60 → (f i x).1 = 0 ∧ (f i x).2 = x + g i) → m + sumTo g n ≤ 60 → (chkAll f m n).1 = 0 ∧ (chkAll f m n).2 = m + sumTo g n
  | 0, _, _ => ⟨rfl, rfl⟩
  | n + 1, hf, h => by
    rw [sumTo] at h
    obtain ⟨h1, h2⟩ := chkAll_of (m := m) n (fun i hi => hf i (by omega)) (by omega)
    simp only [chkAll, if_pos h1]
    obtain ⟨h3, h4⟩ := hf n (by omega) (chkAll f m n).2 (by omega)
    exact ⟨h3, by rw [h4, h2, sumTo]; omega⟩

theorem chk_of : ∀ (t : Fml) (d m : Nat), Wf t → m + sz t ≤ 60 → d + dp t ≤ 21 → (chk t d m).1 = 0 ∧ (chk t d m).2 = m + sz t := by
  intro t
  induction t using Fml.ind with
  | h t ih =>
    intro d m hw hs hd
    rw [chk_eq]
    have hsz := sz_eq t
    have hdp := dp_eq t
    rw [if_neg (by omega), if_neg (by omega), if_neg (by rw [hw.out.1]; decide)]
    have hmx : ∀ i, i < t.cnt → dp (t.kid i) ≤ maxTo (fun i => dp (t.kid i)) t.cnt := (maxTo_le t.cnt).1 (Nat.le_refl _)
    have := chkAll_of (f := fun i x => chk (t.kid i) (d + 1) x) (g := fun i => sz (t.kid i)) (m := m + 1) t.cnt (fun i hi x hx => ih i hi (d + 1) x (hw.out.2 i hi) hx (by have := hmx i hi; omega)) (by omega)
    exact ⟨this.1, by rw [this.2, hsz]; omega⟩

theorem chk_deep : ∀ (t : Fml) (d m : Nat), (chk t d m).1 = 0 → d + dp t ≤ 21 := by
  intro t
  induction t using Fml.ind with
  | h t ih =>
    intro d m h
    rw [chk_eq] at h
    by_cases h1 : 60 < m + 1
    · rw [if_pos h1] at h; cases h
    rw [if_neg h1] at h
    by_cases h2 : 20 < d
    · rw [if_pos h2] at h; cases h
    rw [if_neg h2] at h
    by_cases h3 : fit t = false
    · rw [if_pos h3] at h; cases h
    rw [if_neg h3] at h
    have hall : ∀ i, i < t.cnt → dp (t.kid i) ≤ 20 - d := fun i hi => by
      have h4 : (chkAll (fun i x => chk (t.kid i) (d + 1) x) (m + 1) (i + 1)).1 = 0 := chkAll_ok h (by omega)
      have h5 : (chkAll (fun i x => chk (t.kid i) (d + 1) x) (m + 1) i).1 = 0 := chkAll_ok h (by omega)
      simp only [chkAll, if_pos h5] at h4
      have := ih i hi (d + 1) _ h4
      omega
    have := (maxTo_le (f := fun i => dp (t.kid i)) t.cnt).2 hall
    rw [dp_eq]
    omega

/-- A formula is right just if all its nodes are, it is small, and not too deep. -/
theorem chk_iff (t : Fml) : (chk t 1 0).1 = 0 ↔ Wf t ∧ sz t ≤ 60 ∧ dp t ≤ 20 := by
  constructor
  · intro h
    obtain ⟨h1, h2⟩ := chk_wf t 1 0 h
    have h3 := chk_deep t 1 0 h
    have h4 := (chk_small t 1 0 (by omega)).2 h
    exact ⟨h1, by omega, by omega⟩
  · rintro ⟨h1, h2, h3⟩
    exact (chk_of t 1 0 h1 (by omega) (by omega)).1

end Go.Proofs.YtmdpbaobihdgkaaGreatDoor

namespace Go.Proofs.YtmdpbaobihdgkaaGreatDoor
open Go.RowKit

def sameF (t : Fml) (r : Nat → Fml → Bool) (u : Fml) : Bool := decide (t.kind = u.kind ∧ t.num = u.num ∧ t.cnt = u.cnt) && allTo (fun i => r i (u.kid i)) t.cnt
/-- Are two formulas the same? -/
def same (t : Fml) : Fml → Bool := t.red (fun _ => true) sameF

theorem same_eq (t u : Fml) : same t u = (decide (t.kind = u.kind ∧ t.num = u.num ∧ t.cnt = u.cnt) && allTo (fun i => same (t.kid i) (u.kid i)) t.cnt) := by
  have e : same t u = sameF t (t.reds (fun _ => true) sameF) u := congrFun (Fml.red_eq _ _ t) u
  rw [e, sameF, allTo_congr (r := fun i => t.reds (fun _ => true) sameF i (u.kid i)) (q := fun i => same (t.kid i) (u.kid i)) t.cnt (fun i hi => congrFun (Fml.reds_at hi) _)]

theorem same_iff : ∀ t u, same t u = true ↔ t = u := by
  intro t
  induction t using Fml.ind with
  | h t ih =>
    intro u
    rw [same_eq, Bool.and_eq_true, decide_eq_true_eq, allTo_iff]
    constructor
    · rintro ⟨⟨h1, h2, h3⟩, h4⟩
      exact fml_ext h1 h2 h3 (fun i hi => (ih i hi _).1 (h4 i hi))
    · rintro rfl
      exact ⟨⟨rfl, rfl, rfl⟩, fun i hi => (ih i hi _).2 rfl⟩

end Go.Proofs.YtmdpbaobihdgkaaGreatDoor

namespace Go.Proofs.YtmdpbaobihdgkaaGreatDoor
open Go.RowKit

theorem same_no {t u : Fml} (h : ¬ (t.kind = u.kind ∧ t.num = u.num ∧ t.cnt = u.cnt)) : same t u = false := by rw [same_eq]; simp [h]
theorem allTo_no {r : Nat → Bool} {n j : Nat} (hj : j < n) (h : r j = false) : allTo r n = false := by
  cases e : allTo r n
  · rfl
  · have := (allTo_iff r n).1 e j hj
    rw [h] at this; cases this

end Go.Proofs.YtmdpbaobihdgkaaGreatDoor
