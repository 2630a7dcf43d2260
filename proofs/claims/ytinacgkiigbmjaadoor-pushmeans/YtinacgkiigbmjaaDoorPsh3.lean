/- Slim on trees. -/
import Derived.Test.YtinacgkiigbmjaaDoorPsh2
import Derived.Test.YtinacgkiigbmjaaDoorAlt
namespace Go.Proofs.YtinacgkiigbmjaaDoor
open Go.RowKit

def sameF (t : Fml) (r : Nat → Fml → Bool) (u : Fml) : Bool := decide (t.kind = u.kind ∧ t.num = u.num ∧ t.cnt = u.cnt) && allTo (fun i => r i (u.kid i)) t.cnt
/-- Are two formulas the same? -/
def same (t : Fml) : Fml → Bool := t.red (fun _ => true) sameF

theorem same_eq (t u : Fml) : same t u = (decide (t.kind = u.kind ∧ t.num = u.num ∧ t.cnt = u.cnt) && allTo (fun i => same (t.kid i) (u.kid i)) t.cnt) := by
  have e : same t u = sameF t (t.reds (fun _ => true) sameF) u := congrFun (Fml.red_eq _ _ t) u
  rw [e, sameF, allTo_congr (r := fun i => t.reds (fun _ => true) sameF i (u.kid i)) (q := fun i => same (t.kid i) (u.kid i)) t.cnt (fun i hi => congrFun (Fml.reds_at hi) _)]

theorem same_iff : ∀ t u, same t u = true ↔ t = u := by
  intro t
  induction t using Fml.ind with
  | h t ih =>
    intro u
    rw [same_eq, Bool.and_eq_true, decide_eq_true_eq, allTo_iff]
    constructor
    · rintro ⟨⟨h1, h2, h3⟩, h4⟩
      exact fml_ext h1 h2 h3 (fun i hi => (ih i hi _).1 (h4 i hi))
    · rintro rfl
      exact ⟨⟨rfl, rfl, rfl⟩, fun i hi => (ih i hi _).2 rfl⟩

/-- LTrue or LFalse. -/
def tru (t : Fml) : Prop := t.kind = 1 ∨ t.kind = 2

/-- The first rule that applies, where the Kids are slim. -/
def slm (f : Fml) : Fml :=
  if f.kind = 4 then (if (f.kid 0).kind = 1 then nd 2 0 else if (f.kid 0).kind = 2 then nd 1 0 else if (f.kid 0).kind = 4 then (f.kid 0).kid 0 else f)
  else if f.kind = 5 then (if (f.kid 0).kind = 2 ∨ (f.kid 1).kind = 2 then nd 2 0 else if (f.kid 0).kind = 1 then f.kid 1 else if (f.kid 1).kind = 1 ∨ same (f.kid 0) (f.kid 1) = true then f.kid 0 else f)
  else if f.kind = 6 then (if (f.kid 0).kind = 1 ∨ (f.kid 1).kind = 1 then nd 1 0 else if (f.kid 0).kind = 2 then f.kid 1 else if (f.kid 1).kind = 2 ∨ same (f.kid 0) (f.kid 1) = true then f.kid 0 else f)
  else if f.kind = 7 then (if (f.kid 0).kind = 1 ∨ (f.kid 0).kind = 2 then f.kid 0 else f)
  else if f.kind = 10 then (if (f.kid 0).kind = 1 ∨ (f.kid 0).kind = 2 ∨ (f.kid 0).kind = 10 then f.kid 0 else f)
  else if f.kind = 11 then (if (f.kid 0).kind = 1 ∨ (f.kid 0).kind = 2 ∨ (f.kid 0).kind = 11 then f.kid 0 else f)
  else if f.kind = 8 then (if ((f.kid 1).kind = 1 ∨ (f.kid 1).kind = 2) ∨ (f.kid 0).kind = 2 then f.kid 1 else if (f.kid 0).kind = 1 then (if (f.kid 1).kind = 10 then f.kid 1 else on 10 (f.kid 1)) else if same (f.kid 0) (f.kid 1) = true then f.kid 1 else f)
  else if f.kind = 9 then (if ((f.kid 1).kind = 1 ∨ (f.kid 1).kind = 2) ∨ (f.kid 0).kind = 1 then f.kid 1 else if (f.kid 0).kind = 2 then (if (f.kid 1).kind = 11 then f.kid 1 else on 11 (f.kid 1)) else if same (f.kid 0) (f.kid 1) = true then f.kid 1 else f)
  else f

theorem hold_1 {A : Nat → Int → Bool} {t : Fml} (h : t.kind = 1) (i : Nat) : hold A t i = True := by rw [hold_at]; simp [hk, h]
theorem hold_2 {A : Nat → Int → Bool} {t : Fml} (h : t.kind = 2) (i : Nat) : hold A t i = False := by rw [hold_at]; simp [hk, h]
theorem hold_10 {A : Nat → Int → Bool} {t : Fml} (h : t.kind = 10) (i : Nat) : hold A t i = ∃ j, i ≤ j ∧ hold A (t.kid 0) j := by rw [hold_at]; simp [hk, h]
theorem hold_11 {A : Nat → Int → Bool} {t : Fml} (h : t.kind = 11) (i : Nat) : hold A t i = ∀ j, i ≤ j → hold A (t.kid 0) j := by rw [hold_at]; simp [hk, h]
theorem hold_4 {A : Nat → Int → Bool} {t : Fml} (h : t.kind = 4) (i : Nat) : hold A t i = ¬ hold A (t.kid 0) i := by rw [hold_at]; simp [hk, h]
theorem hold_5 {A : Nat → Int → Bool} {t : Fml} (h : t.kind = 5) (i : Nat) : hold A t i = (hold A (t.kid 0) i ∧ hold A (t.kid 1) i) := by rw [hold_at]; simp [hk, h]
theorem hold_6 {A : Nat → Int → Bool} {t : Fml} (h : t.kind = 6) (i : Nat) : hold A t i = (hold A (t.kid 0) i ∨ hold A (t.kid 1) i) := by rw [hold_at]; simp [hk, h]
theorem hold_7 {A : Nat → Int → Bool} {t : Fml} (h : t.kind = 7) (i : Nat) : hold A t i = hold A (t.kid 0) (i + 1) := by rw [hold_at]; simp [hk, h]
theorem hold_8 {A : Nat → Int → Bool} {t : Fml} (h : t.kind = 8) (i : Nat) : hold A t i = ∃ j, i ≤ j ∧ hold A (t.kid 1) j ∧ ∀ l, i ≤ l → l < j → hold A (t.kid 0) l := by rw [hold_at]; simp [hk, h]
theorem hold_9 {A : Nat → Int → Bool} {t : Fml} (h : t.kind = 9) (i : Nat) : hold A t i = ¬ ∃ j, i ≤ j ∧ ¬ hold A (t.kid 1) j ∧ ∀ l, i ≤ l → l < j → ¬ hold A (t.kid 0) l := by rw [hold_at]; simp [hk, h]

/-- Until and its kin, of plain predicates. -/
theorem unt_no {P Q : Nat → Prop} (h : ∀ l, ¬ P l) (i : Nat) : (∃ j, i ≤ j ∧ Q j ∧ ∀ l, i ≤ l → l < j → P l) ↔ Q i := by
  constructor
  · rintro ⟨j, h1, h2, h3⟩
    by_cases e : j = i
    · rw [← e]; exact h2
    · exact absurd (h3 i (Nat.le_refl _) (by omega)) (h i)
  · exact fun hq => ⟨i, Nat.le_refl _, hq, fun l a b => by omega⟩
theorem unt_same {P : Nat → Prop} (i : Nat) : (∃ j, i ≤ j ∧ P j ∧ ∀ l, i ≤ l → l < j → P l) ↔ P i := by
  constructor
  · rintro ⟨j, h1, h2, h3⟩
    by_cases e : j = i
    · rw [← e]; exact h2
    · exact h3 i (Nat.le_refl _) (by omega)
  · exact fun hq => ⟨i, Nat.le_refl _, hq, fun l a b => by omega⟩
theorem unt_never {P Q : Nat → Prop} (h : ∀ l, ¬ Q l) (i : Nat) : ¬ ∃ j, i ≤ j ∧ Q j ∧ ∀ l, i ≤ l → l < j → P l := fun ⟨j, _, h2, _⟩ => h j h2
theorem unt_now {P Q : Nat → Prop} {i : Nat} (h : Q i) : ∃ j, i ≤ j ∧ Q j ∧ ∀ l, i ≤ l → l < j → P l := ⟨i, Nat.le_refl _, h, fun l a b => by omega⟩
theorem unt_free {P Q : Nat → Prop} (h : ∀ l, P l) (i : Nat) : (∃ j, i ≤ j ∧ Q j ∧ ∀ l, i ≤ l → l < j → P l) ↔ ∃ j, i ≤ j ∧ Q j := ⟨fun ⟨j, a, b, _⟩ => ⟨j, a, b⟩, fun ⟨j, a, b⟩ => ⟨j, a, b, fun l _ _ => h l⟩⟩

/-- What a rule makes of a right node. -/
def SlmIs (f g : Fml) : Prop := g = f ∨ (g = nd 1 0 ∧ ∀ A i, hold A f i) ∨ (g = nd 2 0 ∧ ∀ A i, ¬ hold A f i) ∨ (∃ j, j < f.cnt ∧ g = f.kid j ∧ ∀ A i, hold A f i ↔ hold A (f.kid j) i) ∨
  (f.kind = 4 ∧ (f.kid 0).kind = 4 ∧ g = (f.kid 0).kid 0) ∨ (f.kind = 8 ∧ (f.kid 0).kind = 1 ∧ ¬ ((f.kid 1).kind = 1 ∨ (f.kid 1).kind = 2 ∨ (f.kid 1).kind = 10) ∧ g = on 10 (f.kid 1)) ∨
  (f.kind = 9 ∧ (f.kid 0).kind = 2 ∧ ¬ ((f.kid 1).kind = 1 ∨ (f.kid 1).kind = 2 ∨ (f.kid 1).kind = 11) ∧ g = on 11 (f.kid 1))

theorem slm_is {f : Fml} (hw : Wf f) : SlmIs f (slm f) := by
  have hfc := fit_cases hw.out.1
  unfold slm
  by_cases k4 : f.kind = 4
  · rw [if_pos k4]
    by_cases a : (f.kid 0).kind = 1
    · rw [if_pos a]; exact Or.inr (Or.inr (Or.inl ⟨rfl, fun A i => by rw [hold_4 k4, hold_1 a]; simp⟩))
    rw [if_neg a]
    by_cases a : (f.kid 0).kind = 2
    · rw [if_pos a]; exact Or.inr (Or.inl ⟨rfl, fun A i => by rw [hold_4 k4, hold_2 a]; simp⟩)
    rw [if_neg a]
    by_cases a : (f.kid 0).kind = 4
    · rw [if_pos a]; exact Or.inr (Or.inr (Or.inr (Or.inr (Or.inl ⟨k4, a, rfl⟩))))
    rw [if_neg a]; exact Or.inl rfl
  rw [if_neg k4]
  by_cases k5 : f.kind = 5
  · rw [if_pos k5]
    by_cases a : (f.kid 0).kind = 2 ∨ (f.kid 1).kind = 2
    · rw [if_pos a]; exact Or.inr (Or.inr (Or.inl ⟨rfl, fun A i => by rw [hold_5 k5]; rcases a with a | a <;> rw [hold_2 a] <;> simp⟩))
    rw [if_neg a]
    by_cases a : (f.kid 0).kind = 1
    · rw [if_pos a]; exact Or.inr (Or.inr (Or.inr (Or.inl ⟨1, by omega, rfl, fun A i => by rw [hold_5 k5, hold_1 a]; simp⟩)))
    rw [if_neg a]
    by_cases a : (f.kid 1).kind = 1 ∨ same (f.kid 0) (f.kid 1) = true
    · rw [if_pos a]
      refine Or.inr (Or.inr (Or.inr (Or.inl ⟨0, by omega, rfl, fun A i => ?_⟩)))
      rw [hold_5 k5]
      rcases a with a | a
      · rw [hold_1 a]; simp
      · rw [← (same_iff _ _).1 a]; simp
    rw [if_neg a]; exact Or.inl rfl
  rw [if_neg k5]
  by_cases k6 : f.kind = 6
  · rw [if_pos k6]
    by_cases a : (f.kid 0).kind = 1 ∨ (f.kid 1).kind = 1
    · rw [if_pos a]; exact Or.inr (Or.inl ⟨rfl, fun A i => by rw [hold_6 k6]; rcases a with a | a <;> rw [hold_1 a] <;> simp⟩)
    rw [if_neg a]
    by_cases a : (f.kid 0).kind = 2
    · rw [if_pos a]; exact Or.inr (Or.inr (Or.inr (Or.inl ⟨1, by omega, rfl, fun A i => by rw [hold_6 k6, hold_2 a]; simp⟩)))
    rw [if_neg a]
    by_cases a : (f.kid 1).kind = 2 ∨ same (f.kid 0) (f.kid 1) = true
    · rw [if_pos a]
      refine Or.inr (Or.inr (Or.inr (Or.inl ⟨0, by omega, rfl, fun A i => ?_⟩)))
      rw [hold_6 k6]
      rcases a with a | a
      · rw [hold_2 a]; simp
      · rw [← (same_iff _ _).1 a]; simp
    rw [if_neg a]; exact Or.inl rfl
  rw [if_neg k6]
  by_cases k7 : f.kind = 7
  · rw [if_pos k7]
    by_cases a : (f.kid 0).kind = 1 ∨ (f.kid 0).kind = 2
    · rw [if_pos a]
      refine Or.inr (Or.inr (Or.inr (Or.inl ⟨0, by omega, rfl, fun A i => ?_⟩)))
      rw [hold_7 k7]
      rcases a with a | a
      · rw [hold_1 a, hold_1 a]
      · rw [hold_2 a, hold_2 a]
    rw [if_neg a]; exact Or.inl rfl
  rw [if_neg k7]
  by_cases k10 : f.kind = 10
  · rw [if_pos k10]
    by_cases a : (f.kid 0).kind = 1 ∨ (f.kid 0).kind = 2 ∨ (f.kid 0).kind = 10
    · rw [if_pos a]
      refine Or.inr (Or.inr (Or.inr (Or.inl ⟨0, by omega, rfl, fun A i => ?_⟩)))
      rw [hold_10 k10]
      rcases a with a | a | a
      · simp only [hold_1 a]; exact ⟨fun _ => trivial, fun _ => ⟨i, Nat.le_refl _, trivial⟩⟩
      · simp only [hold_2 a]; exact ⟨fun ⟨_, _, h⟩ => h, fun h => h.elim⟩
      · simp only [hold_10 a]
        exact ⟨fun ⟨j, h1, l, h2, h3⟩ => ⟨l, by omega, h3⟩, fun ⟨l, h2, h3⟩ => ⟨i, Nat.le_refl _, l, h2, h3⟩⟩
    rw [if_neg a]; exact Or.inl rfl
  rw [if_neg k10]
  by_cases k11 : f.kind = 11
  · rw [if_pos k11]
    by_cases a : (f.kid 0).kind = 1 ∨ (f.kid 0).kind = 2 ∨ (f.kid 0).kind = 11
    · rw [if_pos a]
      refine Or.inr (Or.inr (Or.inr (Or.inl ⟨0, by omega, rfl, fun A i => ?_⟩)))
      rw [hold_11 k11]
      rcases a with a | a | a
      · simp only [hold_1 a]; exact ⟨fun _ => trivial, fun _ _ _ => trivial⟩
      · simp only [hold_2 a]; exact ⟨fun h => h i (Nat.le_refl _), fun h => h.elim⟩
      · simp only [hold_11 a]
        exact ⟨fun h l h2 => h i (Nat.le_refl _) l h2, fun h j h1 l h2 => h l (by omega)⟩
    rw [if_neg a]; exact Or.inl rfl
  rw [if_neg k11]
  by_cases k8 : f.kind = 8
  · rw [if_pos k8]
    by_cases a : ((f.kid 1).kind = 1 ∨ (f.kid 1).kind = 2) ∨ (f.kid 0).kind = 2
    · rw [if_pos a]
      refine Or.inr (Or.inr (Or.inr (Or.inl ⟨1, by omega, rfl, fun A i => ?_⟩)))
      rw [hold_8 k8]
      rcases a with (a | a) | a
      · rw [hold_1 a]; exact ⟨fun _ => trivial, fun _ => unt_now (by rw [hold_1 a]; trivial)⟩
      · rw [hold_2 a]; exact ⟨fun h => unt_never (fun l => by rw [hold_2 a]; exact fun h => h) i h, fun h => h.elim⟩
      · exact unt_no (fun l => by rw [hold_2 a]; exact fun h => h) i
    rw [if_neg a]
    by_cases b : (f.kid 0).kind = 1
    · rw [if_pos b]
      by_cases c : (f.kid 1).kind = 10
      · rw [if_pos c]
        refine Or.inr (Or.inr (Or.inr (Or.inl ⟨1, by omega, rfl, fun A i => ?_⟩)))
        rw [hold_8 k8, unt_free (fun l => by rw [hold_1 b]; trivial)]
        simp only [hold_10 c]
        exact ⟨fun ⟨j, h1, l, h2, h3⟩ => ⟨l, by omega, h3⟩, fun ⟨l, h2, h3⟩ => ⟨i, Nat.le_refl _, l, h2, h3⟩⟩
      · rw [if_neg c]; exact Or.inr (Or.inr (Or.inr (Or.inr (Or.inr (Or.inl ⟨k8, b, by omega, rfl⟩)))))
    rw [if_neg b]
    by_cases c : same (f.kid 0) (f.kid 1) = true
    · rw [if_pos c]
      refine Or.inr (Or.inr (Or.inr (Or.inl ⟨1, by omega, rfl, fun A i => ?_⟩)))
      rw [hold_8 k8, (same_iff _ _).1 c]
      exact unt_same i
    rw [if_neg c]; exact Or.inl rfl
  rw [if_neg k8]
  by_cases k9 : f.kind = 9
  · rw [if_pos k9]
    by_cases a : ((f.kid 1).kind = 1 ∨ (f.kid 1).kind = 2) ∨ (f.kid 0).kind = 1
    · rw [if_pos a]
      refine Or.inr (Or.inr (Or.inr (Or.inl ⟨1, by omega, rfl, fun A i => ?_⟩)))
      rw [hold_9 k9]
      rcases a with (a | a) | a
      · rw [hold_1 a]; exact ⟨fun _ => trivial, fun _ => unt_never (Q := fun j => ¬ hold A (f.kid 1) j) (fun l => by rw [hold_1 a]; exact fun h => h trivial) i⟩
      · rw [hold_2 a]; exact ⟨fun h => h (unt_now (Q := fun j => ¬ hold A (f.kid 1) j) (by show ¬ hold A (f.kid 1) i; rw [hold_2 a]; exact fun h => h)), fun h => h.elim⟩
      · rw [unt_no (P := fun l => ¬ hold A (f.kid 0) l) (Q := fun j => ¬ hold A (f.kid 1) j) (fun l => by rw [hold_1 a]; exact fun h => h trivial) i]
        exact Classical.not_not
    rw [if_neg a]
    by_cases b : (f.kid 0).kind = 2
    · rw [if_pos b]
      by_cases c : (f.kid 1).kind = 11
      · rw [if_pos c]
        refine Or.inr (Or.inr (Or.inr (Or.inl ⟨1, by omega, rfl, fun A i => ?_⟩)))
        rw [hold_9 k9, unt_free (P := fun l => ¬ hold A (f.kid 0) l) (Q := fun j => ¬ hold A (f.kid 1) j) (fun l => by rw [hold_2 b]; exact fun h => h)]
        simp only [hold_11 c]
        refine ⟨fun h l h2 => Classical.byContradiction fun h3 => h ⟨i, Nat.le_refl _, fun h4 => h3 (h4 l h2)⟩, fun h => ?_⟩
        rintro ⟨j, h1, h2⟩
        exact h2 (fun l h3 => h l (by omega))
      · rw [if_neg c]; exact Or.inr (Or.inr (Or.inr (Or.inr (Or.inr (Or.inr ⟨k9, b, by omega, rfl⟩)))))
    rw [if_neg b]
    by_cases c : same (f.kid 0) (f.kid 1) = true
    · rw [if_pos c]
      refine Or.inr (Or.inr (Or.inr (Or.inl ⟨1, by omega, rfl, fun A i => ?_⟩)))
      rw [hold_9 k9, (same_iff _ _).1 c, unt_same (P := fun j => ¬ hold A (f.kid 1) j)]
      exact Classical.not_not
    rw [if_neg c]; exact Or.inl rfl
  rw [if_neg k9]; exact Or.inl rfl

theorem sz_kid {t : Fml} {i : Nat} (h : i < t.cnt) : sz (t.kid i) < sz t := by
  have := sumTo_le (f := fun i => sz (t.kid i)) h
  rw [sz_eq t]
  omega
theorem dp_kid {t : Fml} {i : Nat} (h : i < t.cnt) : dp (t.kid i) < dp t := by
  have := (maxTo_le (f := fun i => dp (t.kid i)) t.cnt).1 (Nat.le_refl _) i h
  rw [dp_eq t]
  omega
theorem sz_pos (t : Fml) : 0 < sz t := by rw [sz_eq]; omega
theorem dp_pos (t : Fml) : 0 < dp t := by rw [dp_eq]; omega
theorem sz_on (k : Int) (t : Fml) : sz (on k t) = 1 + sz t := by
  rw [sz_eq]
  show 1 + sumTo (fun i => sz ((on k t).kid i)) 1 = _
  simp [sumTo, on_kid]
theorem dp_on (k : Int) (t : Fml) : dp (on k t) = 1 + dp t := by
  rw [dp_eq]
  show 1 + maxTo (fun i => dp ((on k t).kid i)) 1 = _
  simp [maxTo, on_kid]
theorem sz_nd (k n : Int) : sz (nd k n) = 1 := by rw [sz_eq]; rfl
theorem dp_nd (k n : Int) : dp (nd k n) = 1 := by rw [dp_eq]; rfl

theorem slm_right {f : Fml} (hw : Wf f) : Wf (slm f) ∧ (∀ A i, hold A (slm f) i ↔ hold A f i) ∧ sz (slm f) ≤ sz f ∧ dp (slm f) ≤ dp f := by
  have hfc := fit_cases hw.out.1
  rcases slm_is hw with h | ⟨h, k⟩ | ⟨h, k⟩ | ⟨j, hj, h, k⟩ | ⟨h4, k4, h⟩ | ⟨h8, k0, _, h⟩ | ⟨h9, k0, _, h⟩
  · rw [h]; exact ⟨hw, fun _ _ => Iff.rfl, Nat.le_refl _, Nat.le_refl _⟩
  · rw [h]; exact ⟨wf_true, fun A i => by rw [hold_1 rfl]; exact ⟨fun _ => k A i, fun _ => trivial⟩, by rw [sz_nd]; exact sz_pos f, by rw [dp_nd]; exact dp_pos f⟩
  · rw [h]; exact ⟨wf_false, fun A i => by rw [hold_2 rfl]; exact ⟨fun h => h.elim, fun h => k A i h⟩, by rw [sz_nd]; exact sz_pos f, by rw [dp_nd]; exact dp_pos f⟩
  · rw [h]; exact ⟨hw.out.2 j hj, fun A i => (k A i).symm, Nat.le_of_lt (sz_kid hj), Nat.le_of_lt (dp_kid hj)⟩
  · have hw0 := hw.out.2 0 (by omega)
    have hfc0 := fit_cases hw0.out.1
    rw [h]
    refine ⟨hw0.out.2 0 (by omega), fun A i => ?_, ?_, ?_⟩
    · rw [hold_4 h4, hold_4 k4]; exact Classical.not_not.symm
    · have a := sz_kid (t := f) (i := 0) (by omega)
      have b := sz_kid (t := f.kid 0) (i := 0) (by omega)
      omega
    · have a := dp_kid (t := f) (i := 0) (by omega)
      have b := dp_kid (t := f.kid 0) (i := 0) (by omega)
      omega
  · rw [h]
    refine ⟨wf_on (by omega) (hw.out.2 1 (by omega)), fun A i => ?_, ?_, ?_⟩
    · rw [hold_finally, hold_8 h8, unt_free (fun l => by rw [hold_1 k0]; trivial)]
    · rw [sz_on]; have := sz_kid (t := f) (i := 1) (by omega); omega
    · rw [dp_on]; have := dp_kid (t := f) (i := 1) (by omega); omega
  · rw [h]
    refine ⟨wf_on (by omega) (hw.out.2 1 (by omega)), fun A i => ?_, ?_, ?_⟩
    · rw [hold_globally, hold_9 h9, unt_free (P := fun l => ¬ hold A (f.kid 0) l) (Q := fun j => ¬ hold A (f.kid 1) j) (fun l => by rw [hold_2 k0]; exact fun h => h)]
    · rw [sz_on]; have := sz_kid (t := f) (i := 1) (by omega); omega
    · rw [dp_on]; have := dp_kid (t := f) (i := 1) (by omega); omega

/-- No rule applies, anywhere. -/
def SlN (t : Fml) : Prop := t.red True fun t r => slm t = t ∧ ∀ i, i < t.cnt → r i
theorem SlN.out {t : Fml} (h : SlN t) : slm t = t ∧ ∀ i, i < t.cnt → SlN (t.kid i) := by
  unfold SlN at h
  rw [Fml.red_eq] at h
  exact ⟨h.1, fun i hi => by have := h.2 i hi; rwa [Fml.reds_at hi] at this⟩
theorem SlN.mk {t : Fml} (h : slm t = t ∧ ∀ i, i < t.cnt → SlN (t.kid i)) : SlN t := by
  unfold SlN
  rw [Fml.red_eq]
  exact ⟨h.1, fun i hi => by rw [Fml.reds_at hi]; exact h.2 i hi⟩

theorem slm_nd {k n : Int} (h : k = 1 ∨ k = 2 ∨ k = 3) : slm (nd k n) = nd k n := by
  unfold slm
  have e : (nd k n).kind = k := rfl
  rw [e, if_neg (by omega), if_neg (by omega), if_neg (by omega), if_neg (by omega), if_neg (by omega), if_neg (by omega), if_neg (by omega), if_neg (by omega)]

theorem slm_on10 {t : Fml} (h : ¬ (t.kind = 1 ∨ t.kind = 2 ∨ t.kind = 10)) : slm (on 10 t) = on 10 t := by
  unfold slm
  have e : (on 10 t).kind = 10 := rfl
  rw [e, if_neg (by omega), if_neg (by omega), if_neg (by omega), if_neg (by omega), if_pos rfl, on_kid, if_neg h]
theorem slm_on11 {t : Fml} (h : ¬ (t.kind = 1 ∨ t.kind = 2 ∨ t.kind = 11)) : slm (on 11 t) = on 11 t := by
  unfold slm
  have e : (on 11 t).kind = 11 := rfl
  rw [e, if_neg (by omega), if_neg (by omega), if_neg (by omega), if_neg (by omega), if_neg (by omega), if_pos rfl, on_kid, if_neg h]

theorem sln_on {k : Int} {t : Fml} (h : slm (on k t) = on k t) (ht : SlN t) : SlN (on k t) := SlN.mk ⟨h, fun i hi => by
  have hi1 : i < 1 := hi
  obtain rfl : i = 0 := by omega
  rw [on_kid]; exact ht⟩

theorem slm_sln {f : Fml} (hw : Wf f) (hk : ∀ i, i < f.cnt → SlN (f.kid i)) : SlN (slm f) := by
  have hfc := fit_cases hw.out.1
  rcases slm_is hw with h | ⟨h, k⟩ | ⟨h, k⟩ | ⟨j, hj, h, k⟩ | ⟨h4, k4, h⟩ | ⟨h8, k0, k1, h⟩ | ⟨h9, k0, k1, h⟩
  · refine SlN.mk ⟨by rw [h, h], ?_⟩
    rw [h]; exact hk
  · rw [h]; exact SlN.mk ⟨slm_nd (by omega), fun i hi => absurd hi (Nat.not_lt_zero i)⟩
  · rw [h]; exact SlN.mk ⟨slm_nd (by omega), fun i hi => absurd hi (Nat.not_lt_zero i)⟩
  · rw [h]; exact hk j hj
  · have hfc0 := fit_cases (hw.out.2 0 (by omega)).out.1
    rw [h]; exact (hk 0 (by omega)).out.2 0 (by omega)
  · rw [h]; exact sln_on (slm_on10 k1) (hk 1 (by omega))
  · rw [h]; exact sln_on (slm_on11 k1) (hk 1 (by omega))

def slF (t : Fml) (r : Nat → Fml) : Fml := slm (mkn t.kind t.num t.cnt r)
/-- Slim. -/
def sl (t : Fml) : Fml := t.red Fml.leaf slF
theorem sl_eq (t : Fml) : sl t = slm (mkn t.kind t.num t.cnt (fun i => sl (t.kid i))) := by
  have e : sl t = slF t (t.reds Fml.leaf slF) := Fml.red_eq _ _ t
  rw [e, slF, mkn_congr (r := t.reds Fml.leaf slF) (q := fun i => sl (t.kid i)) (fun i hi => Fml.reds_at hi)]

theorem sumTo_mono {f g : Nat → Nat} : ∀ n, (∀ i, i < n → f i ≤ g i) → sumTo f n ≤ sumTo g n
  | 0, _ => Nat.le_refl _
  | n + 1, h => by
    have := sumTo_mono n (fun i hi => h i (by omega))
    have := h n (by omega)
    rw [sumTo, sumTo]; omega
theorem maxTo_mono {f g : Nat → Nat} {n : Nat} (h : ∀ i, i < n → f i ≤ g i) : maxTo f n ≤ maxTo g n :=
  (maxTo_le n).2 (fun i hi => Nat.le_trans (h i hi) ((maxTo_le n).1 (Nat.le_refl _) i hi))

theorem sl_right : ∀ t, Wf t → Wf (sl t) ∧ (∀ A i, hold A (sl t) i ↔ hold A t i) ∧ sz (sl t) ≤ sz t ∧ dp (sl t) ≤ dp t ∧ SlN (sl t) := by
  intro t
  induction t using Fml.ind with
  | h t ih =>
    intro hw
    have hf := fit_parts hw.out.1
    have hI := fun i hi => ih i hi (hw.out.2 i hi)
    have hwm : Wf (mkn t.kind t.num t.cnt (fun i => sl (t.kid i))) := wf_mkn hf.1 hf.2 (fun h => wf_num hw h) (fun i hi => (hI i hi).1)
    obtain ⟨a1, a2, a3, a4⟩ := slm_right hwm
    have hhold : ∀ A i, hold A (mkn t.kind t.num t.cnt (fun i => sl (t.kid i))) i ↔ hold A t i := fun A i => by
      rw [hold_mkn, hold_at A t]
      have e : (fun j => if j < t.cnt then hold A (sl (t.kid j)) else fun _ => False) = fun j => hold A (t.kid j) := by
        funext j
        by_cases hj : j < t.cnt
        · rw [if_pos hj]; funext l; exact propext ((hI j hj).2.1 A l)
        · rw [if_neg hj, kid_none hj, hold_leaf]
      rw [e]
    have hs : sz (mkn t.kind t.num t.cnt (fun i => sl (t.kid i))) ≤ sz t := by
      rw [sz_eq, sz_eq t]
      have : sumTo (fun i => sz ((mkn t.kind t.num t.cnt (fun i => sl (t.kid i))).kid i)) t.cnt ≤ sumTo (fun i => sz (t.kid i)) t.cnt := sumTo_mono _ (fun i hi => by rw [mkn_kid hi]; exact (hI i hi).2.2.1)
      exact Nat.add_le_add_left this 1
    have hd : dp (mkn t.kind t.num t.cnt (fun i => sl (t.kid i))) ≤ dp t := by
      rw [dp_eq, dp_eq t]
      have : maxTo (fun i => dp ((mkn t.kind t.num t.cnt (fun i => sl (t.kid i))).kid i)) t.cnt ≤ maxTo (fun i => dp (t.kid i)) t.cnt := maxTo_mono (fun i hi => by rw [mkn_kid hi]; exact (hI i hi).2.2.2.1)
      exact Nat.add_le_add_left this 1
    rw [sl_eq]
    refine ⟨a1, fun A i => (a2 A i).trans (hhold A i), Nat.le_trans a3 hs, Nat.le_trans a4 hd, slm_sln hwm (fun i hi => ?_)⟩
    have hi' : i < t.cnt := hi
    rw [mkn_kid hi']
    exact (hI i hi').2.2.2.2

theorem sl_self : ∀ t, SlN t → sl t = t := by
  intro t
  induction t using Fml.ind with
  | h t ih =>
    intro hs
    rw [sl_eq, mkn_congr (r := fun i => sl (t.kid i)) (q := t.kid) (fun i hi => ih i hi (hs.out.2 i hi)), mkn_self]
    exact hs.out.1

theorem sl_again {t : Fml} (h : Wf t) : sl (sl t) = sl t := sl_self _ (sl_right t h).2.2.2.2

/-- Slim of a right formula is a right one. -/
theorem sl_chk {t : Fml} (h : (chk t 1 0).1 = 0) : (chk (sl t) 1 0).1 = 0 := by
  obtain ⟨h1, h2, h3⟩ := (chk_iff t).1 h
  obtain ⟨a1, _, a3, a4, _⟩ := sl_right t h1
  exact (chk_iff _).2 ⟨a1, by omega, by omega⟩

end Go.Proofs.YtinacgkiigbmjaaDoor
