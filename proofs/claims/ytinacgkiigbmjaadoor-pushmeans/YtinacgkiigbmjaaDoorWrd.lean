/- What a formula means at a place of an endless word: by all places, and by so many as a word that goes round has. -/
import Derived.Test.YtinacgkiigbmjaaDoorFml
namespace Go.Proofs.YtinacgkiigbmjaaDoor
open Go.RowKit

def holdF (A : Nat → Int → Bool) (t : Fml) (r : Nat → Nat → Prop) (i : Nat) : Prop :=
  if t.kind = 1 then True else if t.kind = 3 then A i t.num = true else if t.kind = 4 then ¬ r 0 i else if t.kind = 5 then r 0 i ∧ r 1 i else if t.kind = 6 then r 0 i ∨ r 1 i
  else if t.kind = 7 then r 0 (i + 1) else if t.kind = 8 then ∃ j, i ≤ j ∧ r 1 j ∧ ∀ k, i ≤ k → k < j → r 0 k
  else if t.kind = 9 then ¬ ∃ j, i ≤ j ∧ ¬ r 1 j ∧ ∀ k, i ≤ k → k < j → ¬ r 0 k
  else if t.kind = 10 then ∃ j, i ≤ j ∧ r 0 j else if t.kind = 11 then ¬ ∃ j, i ≤ j ∧ ¬ r 0 j else False

/-- A formula holds at a place; A tells which atoms a place has. -/
def hold (A : Nat → Int → Bool) (t : Fml) : Nat → Prop := t.red (fun _ => False) (holdF A)

/-- Does g come within d places, f holding ahead of it? -/
def unt (f g : Nat → Bool) : Nat → Nat → Bool
  | 0, _ => false
  | d + 1, i => g i || (f i && unt f g d (i + 1))

/-- The same for LRelease. -/
def rls (f g : Nat → Bool) (d i : Nat) : Bool := !unt (fun k => !f k) (fun k => !g k) d i

def hbF (d : Nat) (A : Nat → Int → Bool) (t : Fml) (r : Nat → Nat → Bool) (i : Nat) : Bool :=
  if t.kind = 1 then true else if t.kind = 3 then A i t.num else if t.kind = 4 then !r 0 i else if t.kind = 5 then r 0 i && r 1 i else if t.kind = 6 then r 0 i || r 1 i
  else if t.kind = 7 then r 0 (i + 1) else if t.kind = 8 then unt (r 0) (r 1) d i
  else if t.kind = 9 then rls (r 0) (r 1) d i
  else if t.kind = 10 then unt (fun _ => true) (r 0) d i else if t.kind = 11 then rls (fun _ => false) (r 0) d i else false

/-- The same, looking ahead d places. -/
def hb (d : Nat) (A : Nat → Int → Bool) (t : Fml) : Nat → Bool := t.red (fun _ => false) (hbF d A)

theorem unt_iff (f g : Nat → Bool) : ∀ d i, unt f g d i = true ↔ ∃ j, i ≤ j ∧ j < i + d ∧ g j = true ∧ ∀ k, i ≤ k → k < j → f k = true
  | 0, i => by simp only [unt]; exact ⟨fun h => (by cases h), fun ⟨j, h1, h2, _⟩ => by omega⟩
  | d + 1, i => by
    rw [unt, Bool.or_eq_true, Bool.and_eq_true, unt_iff f g d (i + 1)]
    constructor
    · rintro (h | ⟨h, j, h1, h2, h3, h4⟩)
      · exact ⟨i, Nat.le_refl _, by omega, h, fun k a b => by omega⟩
      · refine ⟨j, by omega, by omega, h3, fun k a b => ?_⟩
        by_cases e : k = i
        · rw [e]; exact h
        · exact h4 k (by omega) b
    · rintro ⟨j, h1, h2, h3, h4⟩
      by_cases e : j = i
      · subst e; exact Or.inl h3
      · exact Or.inr ⟨h4 i (Nat.le_refl _) (by omega), j, by omega, by omega, h3, fun k a b => h4 k (by omega) b⟩

/-- From s on it comes again every m places. -/
def Per {α : Type} (s m : Nat) (f : Nat → α) : Prop := ∀ i, s ≤ i → f (i + m) = f i

theorem unt_back {s m : Nat} (hm : 0 < m) {f g : Nat → Bool} (hg : Per s m g) (i : Nat) : ∀ j, i ≤ j → g j = true → (∀ k, i ≤ k → k < j → f k = true) → ∃ j, i ≤ j ∧ j < i + (s + m) ∧ g j = true ∧ ∀ k, i ≤ k → k < j → f k = true := by
  intro j
  induction j using Nat.strongRecOn with
  | ind j ih =>
    intro h1 h2 h3
    by_cases h : j < i + (s + m)
    · exact ⟨j, h1, h, h2, h3⟩
    · have e : g (j - m) = true := by
        have := hg (j - m) (by omega)
        rw [show j - m + m = j by omega] at this
        rw [← this]; exact h2
      exact ih (j - m) (by omega) (by omega) e (fun k a b => h3 k a (by omega))

theorem unt_all {s m : Nat} (hm : 0 < m) {f g : Nat → Bool} (hg : Per s m g) (i : Nat) : unt f g (s + m) i = true ↔ ∃ j, i ≤ j ∧ g j = true ∧ ∀ k, i ≤ k → k < j → f k = true := by
  rw [unt_iff]
  constructor
  · rintro ⟨j, h1, _, h3, h4⟩; exact ⟨j, h1, h3, h4⟩
  · rintro ⟨j, h1, h3, h4⟩; exact unt_back hm hg i j h1 h3 h4

theorem unt_step {s m : Nat} (hm : 0 < m) {f g : Nat → Bool} (hg : Per s m g) (i : Nat) : unt f g (s + m) i = (g i || (f i && unt f g (s + m) (i + 1))) := by
  rw [Bool.eq_iff_iff, Bool.or_eq_true, Bool.and_eq_true, unt_all hm hg, unt_all hm hg]
  constructor
  · rintro ⟨j, h1, h3, h4⟩
    by_cases e : j = i
    · subst e; exact Or.inl h3
    · exact Or.inr ⟨h4 i (Nat.le_refl _) (by omega), j, by omega, h3, fun k a b => h4 k (by omega) b⟩
  · rintro (h | ⟨h, j, h1, h3, h4⟩)
    · exact ⟨i, Nat.le_refl _, h, fun k a b => by omega⟩
    · refine ⟨j, by omega, h3, fun k a b => ?_⟩
      by_cases e : k = i
      · rw [e]; exact h
      · exact h4 k (by omega) b

theorem unt_per {s m : Nat} (hm : 0 < m) {f g : Nat → Bool} (hf : Per s m f) (hg : Per s m g) : Per s m (unt f g (s + m)) := by
  intro i hi
  rw [Bool.eq_iff_iff, unt_all hm hg, unt_all hm hg]
  constructor
  · rintro ⟨j, h1, h3, h4⟩
    refine ⟨j - m, by omega, ?_, fun k a b => ?_⟩
    · have := hg (j - m) (by omega)
      rw [show j - m + m = j by omega] at this
      rw [← this]; exact h3
    · have := hf k (by omega)
      rw [← this]; exact h4 (k + m) (by omega) (by omega)
  · rintro ⟨j, h1, h3, h4⟩
    refine ⟨j + m, by omega, by rw [hg j (by omega)]; exact h3, fun k a b => ?_⟩
    have := hf (k - m) (by omega)
    rw [show k - m + m = k by omega] at this
    rw [this]; exact h4 (k - m) (by omega) (by omega)

theorem per_not {s m : Nat} {f : Nat → Bool} (hf : Per s m f) : Per s m (fun k => !f k) := fun i hi => by show (!f (i + m)) = !f i; rw [hf i hi]

theorem rls_per {s m : Nat} (hm : 0 < m) {f g : Nat → Bool} (hf : Per s m f) (hg : Per s m g) : Per s m (rls f g (s + m)) := per_not (unt_per hm (per_not hf) (per_not hg))

theorem rls_step {s m : Nat} (hm : 0 < m) {f g : Nat → Bool} (hg : Per s m g) (i : Nat) : rls f g (s + m) i = (g i && (f i || rls f g (s + m) (i + 1))) := by
  unfold rls
  rw [unt_step hm (per_not hg)]
  cases g i <;> cases f i <;> simp

theorem hb_eq (d : Nat) (A : Nat → Int → Bool) (t : Fml) (i : Nat) : hb d A t i = hbF d A t (t.reds (fun _ => false) (hbF d A)) i := congrFun (Fml.red_eq _ _ t) i
theorem hold_eq (A : Nat → Int → Bool) (t : Fml) (i : Nat) : hold A t i = holdF A t (t.reds (fun _ => False) (holdF A)) i := congrFun (Fml.red_eq _ _ t) i

/-- What is reckoned of the Kids: of those that there are. -/
theorem hb_kid {d : Nat} {A : Nat → Int → Bool} {t : Fml} {i : Nat} (h : i < t.cnt) : t.reds (fun _ => false) (hbF d A) i = hb d A (t.kid i) := Fml.reds_at h
theorem hb_none {d : Nat} {A : Nat → Int → Bool} {t : Fml} {i : Nat} (h : ¬ i < t.cnt) : t.reds (fun _ => false) (hbF d A) i = fun _ => false := if_neg h
theorem hold_kid {A : Nat → Int → Bool} {t : Fml} {i : Nat} (h : i < t.cnt) : t.reds (fun _ => False) (holdF A) i = hold A (t.kid i) := Fml.reds_at h
theorem hold_none {A : Nat → Int → Bool} {t : Fml} {i : Nat} (h : ¬ i < t.cnt) : t.reds (fun _ => False) (holdF A) i = fun _ => False := if_neg h

theorem hbF_per {s m : Nat} (hm : 0 < m) {A : Nat → Int → Bool} (hA : ∀ n, Per s m (fun i => A i n)) (t : Fml) {r : Nat → Nat → Bool} (hr : ∀ k, Per s m (r k)) : Per s m (hbF (s + m) A t r) := by
  intro i hi
  have h0 := hr 0 i hi
  have h1 := hr 1 i hi
  have h2 := hr 0 (i + 1) (by omega)
  have h3 : A (i + m) t.num = A i t.num := hA t.num i hi
  unfold hbF
  rw [show i + m + 1 = i + 1 + m by omega, h0, h1, h2, h3, unt_per hm (hr 0) (hr 1) i hi, rls_per hm (hr 0) (hr 1) i hi, unt_per hm (fun _ _ => rfl) (hr 0) i hi, rls_per hm (fun _ _ => rfl) (hr 0) i hi]

theorem hb_per {s m : Nat} (hm : 0 < m) {A : Nat → Int → Bool} (hA : ∀ n, Per s m (fun i => A i n)) : ∀ t, Per s m (hb (s + m) A t) := by
  intro t
  induction t using Fml.ind with
  | h t ih =>
    intro i hi
    rw [hb_eq, hb_eq]
    refine hbF_per hm hA t (fun k => ?_) i hi
    by_cases h : k < t.cnt
    · rw [hb_kid h]; exact ih k h
    · rw [hb_none h]; exact fun _ _ => rfl

theorem hbF_hold {s m : Nat} (hm : 0 < m) {A : Nat → Int → Bool} (t : Fml) {r : Nat → Nat → Bool} (hr : ∀ k, Per s m (r k)) {q : Nat → Nat → Prop} (hq : ∀ k i, r k i = true ↔ q k i) (i : Nat) : hbF (s + m) A t r i = true ↔ holdF A t q i := by
  have hq' : ∀ k i, q k i = (r k i = true) := fun k i => propext (hq k i).symm
  obtain rfl : q = fun k i => r k i = true := funext fun k => funext fun i => hq' k i
  have n9 : ∀ {f g : Nat → Bool}, Per s m g → (rls f g (s + m) i = true ↔ ¬ ∃ j, i ≤ j ∧ ¬ g j = true ∧ ∀ k, i ≤ k → k < j → ¬ f k = true) := by
    intro f g hg
    rw [rls, Bool.not_eq_true', ← Bool.not_eq_true, unt_all hm (per_not hg)]
    simp only [Bool.not_eq_true', Bool.not_eq_true]
  unfold hbF holdF
  by_cases h1 : t.kind = 1
  · rw [if_pos h1, if_pos h1]; exact ⟨fun _ => trivial, fun _ => rfl⟩
  rw [if_neg h1, if_neg h1]
  by_cases h1 : t.kind = 3
  · rw [if_pos h1, if_pos h1]
  rw [if_neg h1, if_neg h1]
  by_cases h1 : t.kind = 4
  · rw [if_pos h1, if_pos h1]; simp
  rw [if_neg h1, if_neg h1]
  by_cases h1 : t.kind = 5
  · rw [if_pos h1, if_pos h1]; simp
  rw [if_neg h1, if_neg h1]
  by_cases h1 : t.kind = 6
  · rw [if_pos h1, if_pos h1]; simp
  rw [if_neg h1, if_neg h1]
  by_cases h1 : t.kind = 7
  · rw [if_pos h1, if_pos h1]
  rw [if_neg h1, if_neg h1]
  by_cases h1 : t.kind = 8
  · rw [if_pos h1, if_pos h1, unt_all hm (hr 1)]
  rw [if_neg h1, if_neg h1]
  by_cases h1 : t.kind = 9
  · rw [if_pos h1, if_pos h1, n9 (hr 1)]
  rw [if_neg h1, if_neg h1]
  by_cases h1 : t.kind = 10
  · rw [if_pos h1, if_pos h1, unt_all hm (hr 0)]; simp
  rw [if_neg h1, if_neg h1]
  by_cases h1 : t.kind = 11
  · rw [if_pos h1, if_pos h1, n9 (hr 0)]; simp
  rw [if_neg h1, if_neg h1]; simp

theorem hb_hold {s m : Nat} (hm : 0 < m) {A : Nat → Int → Bool} (hA : ∀ n, Per s m (fun i => A i n)) : ∀ t i, hb (s + m) A t i = true ↔ hold A t i := by
  intro t
  induction t using Fml.ind with
  | h t ih =>
    intro i
    rw [hb_eq, hold_eq]
    refine hbF_hold hm t (fun k => ?_) (fun k i => ?_) i
    · by_cases h : k < t.cnt
      · rw [hb_kid h]; exact hb_per hm hA _
      · rw [hb_none h]; exact fun _ _ => rfl
    · by_cases h : k < t.cnt
      · rw [hb_kid h, hold_kid h]; exact ih k h i
      · rw [hb_none h, hold_none h]; simp

end Go.Proofs.YtinacgkiigbmjaaDoor
