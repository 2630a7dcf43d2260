/-  The automaton of a formula: what is true at a state, and what it means along a fair row of states.    -/
import Derived.Test.YtmdpbaobihdgkaaGreatDoorTrr
/- tableau: the elements of a formula (pure). -/
/- tableau: what truths answers is what the pure text calls true at a state. -/
/- tableau: what Make's lists hold (pure). -/
/- Turn and Turned, each by its contract: both make the graph turned round, in new memory. -/
namespace Go.Proofs.YtmdpbaobihdgkaaGreatDoor
open Go.RowKit
theorem srtN_mem (l : List Fml) (x : Fml) : x ∈ srtN l ↔ x ∈ l := by simp [srtN]
theorem els_mem (t x : Fml) : x ∈ els t ↔ x ∈ pts t ∧ (x.kind = 3 ∨ x.kind = 7 ∨ x.kind = 8 ∨ x.kind = 9) := by
 have h := el2_is t
 unfold els
 rw [List.mem_append, srtN_mem, h.m1, h.m2]
 constructor
 ·rintro (⟨a, b⟩ | ⟨a, b⟩)
  ·exact ⟨a, Or.inl b⟩
  ·exact ⟨a, Or.inr b⟩
 ·rintro ⟨a, b | b⟩
  ·exact Or.inl ⟨a, b⟩
  ·exact Or.inr ⟨a, b⟩
theorem ine_els (t : Fml) : InE (els t) t := fun x hx hk => (els_mem t x).2 ⟨hx, hk⟩
theorem els_len (t : Fml) : (els t).length ≤ (pts t).length := by
 have := el2_len t
 unfold els
 rw [List.length_append, srtN_len]
 exact this
theorem els_nodup (t : Fml) : (els t).Nodup := by
 have h := el2_is t
 unfold els
 rw [List.nodup_append]
 refine ⟨?_, h.n2, fun a ha b hb e => ?_⟩
 ·exact (List.mergeSort_perm _ _).nodup_iff.2 h.n1
 ·rw [srtN_mem] at ha
  subst e
  have h1 := ((h.m1 a).1 ha).2
  have h2 := ((h.m2 a).1 hb).2
  omega
theorem catF_sum {r : Nat → List Fml} {q : Nat → Nat} : ∀ n, (∀ i, i < n → (r i).length = q i) → (catF r n).length = sumTo q n
 | 0, _ => rfl
 | n + 1, h => by
  rw [catF, List.length_append, catF_sum n (fun i hi => h i (by omega)), h n (by omega)]
  rfl
theorem pts_len : ∀ t, (pts t).length = sz t := by
 intro t
 induction t using Fml.ind with
 | h t ih =>
  rw [pts_eq, List.length_cons, sz_eq, catF_sum (q := fun i => sz (t.kid i)) t.cnt ih]
  omega
end Go.Proofs.YtmdpbaobihdgkaaGreatDoor
namespace Go.Proofs.YtmdpbaobihdgkaaGreatDoor
open Go.RowKit
theorem hold_8 {A : Nat → Int → Bool} {t : Fml} (h : t.kind = 8) (i : Nat) : hold A t i = ∃ j, i ≤ j ∧ hold A (t.kid 1) j ∧ ∀ l, i ≤ l → l < j → hold A (t.kid 0) l := by rw [hold_at]; simp [hk, h]
theorem hold_9 {A : Nat → Int → Bool} {t : Fml} (h : t.kind = 9) (i : Nat) : hold A t i = ¬ ∃ j, i ≤ j ∧ ¬ hold A (t.kid 1) j ∧ ∀ l, i ≤ l → l < j → ¬ hold A (t.kid 0) l := by rw [hold_at]; simp [hk, h]
theorem ex_step (F G : Nat → Prop) (i : Nat) : (∃ j, i ≤ j ∧ G j ∧ ∀ k, i ≤ k → k < j → F k) ↔ G i ∨ (F i ∧ ∃ j, i + 1 ≤ j ∧ G j ∧ ∀ k, i + 1 ≤ k → k < j → F k) := by
 constructor
 ·rintro ⟨j, h1, h2, h3⟩
  by_cases e : j = i
  ·subst e; exact Or.inl h2
  ·exact Or.inr ⟨h3 i jq0 (by omega), j, by omega, h2, fun k a b => h3 k (by omega) b⟩
 ·rintro (h | ⟨h, j, h1, h2, h3⟩)
  ·exact ⟨i, Nat.le_refl _, h, fun k a b => by omega⟩
  ·refine ⟨j, by omega, h2, fun k a b => ?_⟩
   by_cases e : k = i
   ·rw [e]; exact h
   ·exact h3 k (by omega) b
def Prt (f g : Fml) : Prop := f.red (fun _ => False) (fun t r g => g = t ∨ ∃ i, i < t.cnt ∧ r i g) g
theorem prt_eq (f g : Fml) : Prt f g ↔ (g = f ∨ ∃ i, i < f.cnt ∧ Prt (f.kid i) g) := by
 have e : Prt f g = (g = f ∨ ∃ i, i < f.cnt ∧ f.reds (fun _ => False) (fun t r g => g = t ∨ ∃ i, i < t.cnt ∧ r i g) i g) := congrFun (Fml.red_eq _ _ f) g
 rw [e]
 constructor
 ·rintro (h | ⟨i, hi, h⟩)
  ·exact Or.inl h
  ·rw [Fml.reds_at hi] at h; exact Or.inr ⟨i, hi, h⟩
 ·rintro (h | ⟨i, hi, h⟩)
  ·exact Or.inl h
  ·exact Or.inr ⟨i, hi, by rw [Fml.reds_at hi]; exact h⟩
theorem Prt.refl (f : Fml) : Prt f f := (prt_eq f f).2 (Or.inl rfl)
theorem Prt.kid {f g : Fml} : Prt f g → ∀ {i}, i < g.cnt → Prt f (g.kid i) := by
 induction f using Fml.ind with
 | h f ih =>
  intro h i hi
  rcases (prt_eq f g).1 h with rfl | ⟨j, hj, h⟩
  ·exact (prt_eq _ _).2 (Or.inr ⟨i, hi, Prt.refl _⟩)
  ·exact (prt_eq _ _).2 (Or.inr ⟨j, hj, ih j hj h hi⟩)
theorem Prt.all {P : Fml → Prop} (hP : ∀ t, P t → ∀ i, i < t.cnt → P (t.kid i)) : ∀ f, P f → ∀ g, Prt f g → P g := by
 intro f
 induction f using Fml.ind with
 | h f ih =>
  intro hf g hg
  rcases (prt_eq f g).1 hg with rfl | ⟨j, hj, h⟩
  ·exact hf
  ·exact ih j hj (hP f hf j hj) g h
theorem Prt.wf {f g : Fml} (h : Prt f g) (hw : Wf f) : Wf g := Prt.all (fun _ ht i hi => ht.out.2 i hi) f hw g h
theorem Prt.hasn {k : Int} {f g : Fml} (h : Prt f g) (hw : ¬ Has k f) : ¬ Has k g := Prt.all (P := fun t => ¬ Has k t) (fun t ht i hi hk => ht ((has_eq k t).2 (Or.inr ⟨i, hi, hk⟩))) f hw g h
def isF (c : Fml → Prop) (t : Fml) (r : Nat → Prop) : Prop :=
 if t.kind = 1 then True else if t.kind = 2 then False else if t.kind = 4 then ¬ r 0 else if t.kind = 5 then r 0 ∧ r 1 else if t.kind = 6 then r 0 ∨ r 1
 else if t.kind = 8 then r 1 ∨ (r 0 ∧ c t) else if t.kind = 9 then r 1 ∧ (r 0 ∨ c t) else c t
def isT (c : Fml → Prop) (t : Fml) : Prop := t.red False (isF c)
theorem isT_eq {t : Fml} (h : Wf t) (c : Fml → Prop) : isT c t = isF c t (fun i => isT c (t.kid i)) := by
 have hfc := fit_cases h.out.1
 have e : isT c t = isF c t (t.reds False (isF c)) := Fml.red_eq _ _ t
 rw [e]
 have hr : ∀ i, i < t.cnt → t.reds False (isF c) i = isT c (t.kid i) := fun i hi => Fml.reds_at hi
 generalize t.reds False (isF c) = r at hr
 rcases hfc with ⟨hz, hc, _⟩ | ⟨hz, hc, _⟩ | ⟨hz, hc, _⟩ | ⟨hz, hc, _⟩
 ·simp [isF, hz]
 ·rcases hz with hz | hz <;> simp [isF, hz]
 ·have h0 := hr 0 (by omega)
  rcases hz with hz | hz | hz | hz <;> simp [isF, hz, h0]
 ·have h0 := hr 0 (by omega)
  have h1 := hr 1 (by omega)
  rcases hz with hz | hz | hz | hz <;> simp [isF, hz, h0, h1]
structure RowT (A : Nat → Int → Bool) (f : Fml) (c : Nat → Fml → Prop) : Prop where
 atom : ∀ g, Prt f g → g.kind = 3 → ∀ j, c j g ↔ A j g.num = true
 next : ∀ g, Prt f g → g.kind = 7 → ∀ j, c j g ↔ isT (c (j + 1)) (g.kid 0)
 self : ∀ g, Prt f g → (g.kind = 8 ∨ g.kind = 9) → ∀ j, c j g ↔ isT (c (j + 1)) g
 unt : ∀ g, Prt f g → g.kind = 8 → ∀ j, ∃ l, j ≤ l ∧ (¬ isT (c l) g ∨ isT (c l) (g.kid 1))
 rel : ∀ g, Prt f g → g.kind = 9 → ∀ j, ∃ l, j ≤ l ∧ (isT (c l) g ∨ ¬ isT (c l) (g.kid 1))
theorem least_from {Q : Nat → Prop} {j l : Nat} (h1 : j ≤ l) (h2 : Q l) : ∃ k, j ≤ k ∧ Q k ∧ ∀ i, j ≤ i → i < k → ¬ Q i := by
 induction l using Nat.strongRecOn with
 | ind l ih =>
  by_cases h : ∃ i, j ≤ i ∧ i < l ∧ Q i
  ·obtain ⟨i, a, b, c⟩ := h
   exact ih i b a c
  ·exact ⟨l, h1, h2, fun i a b hq => h ⟨i, a, b, hq⟩⟩
theorem until_of {X P Q : Nat → Prop} (h : ∀ j, X j ↔ (Q j ∨ (P j ∧ X (j + 1)))) (hf : ∀ j, ∃ l, j ≤ l ∧ (¬ X l ∨ Q l)) (j : Nat) : X j ↔ ∃ l, j ≤ l ∧ Q l ∧ ∀ k, j ≤ k → k < l → P k := by
 constructor
 ·intro hx
  obtain ⟨l, h1, h2⟩ := hf j
  obtain ⟨k, a, b, c⟩ := least_from (Q := fun l => ¬ X l ∨ Q l) h1 h2
  have hX : ∀ i, j ≤ i → i ≤ k → X i := by
   intro i hi
   induction i with
   | zero => intro _; rw [show (0 : Nat) = j by omega]; exact hx
   | succ i ih =>
    intro hik
    by_cases e : j = i + 1
    ·rw [← e]; exact hx
    ·have h3 := ih (by omega) (by omega)
     rcases (h i).1 h3 with h4 | ⟨_, h4⟩
     ·exact absurd (Or.inr h4) (c i (by omega) (by omega))
     ·exact h4
  have hQ : Q k := by
   rcases b with b | b
   ·exact absurd (hX k a jq0) b
   ·exact b
  refine ⟨k, a, hQ, fun i hi hik => ?_⟩
  rcases (h i).1 (hX i hi (by omega)) with h4 | ⟨h4, _⟩
  ·exact absurd (Or.inr h4) (c i hi hik)
  ·exact h4
 ·rintro ⟨l, h1, h2, h3⟩
  have go : ∀ d i, i + d = l → j ≤ i → X i := by
   intro d
   induction d with
   | zero => intro i hi _; rw [show i = l by omega]; exact (h l).2 (Or.inl h2)
   | succ d ih => intro i hi hj; exact (h i).2 (Or.inr ⟨h3 i hj (by omega), ih (i + 1) (by omega) (by omega)⟩)
  exact go (l - j) j (by omega) jq0
theorem release_of {X P Q : Nat → Prop} (h : ∀ j, X j ↔ (Q j ∧ (P j ∨ X (j + 1)))) (hf : ∀ j, ∃ l, j ≤ l ∧ (X l ∨ ¬ Q l)) (j : Nat) : X j ↔ ¬ ∃ l, j ≤ l ∧ ¬ Q l ∧ ∀ k, j ≤ k → k < l → ¬ P k := by
 have hn : ∀ j, ¬ X j ↔ (¬ Q j ∨ (¬ P j ∧ ¬ X (j + 1))) := fun j => by
  rw [h j]
  by_cases a : Q j <;> by_cases b : P j <;> simp [a, b]
 have := until_of (X := fun j => ¬ X j) (P := fun j => ¬ P j) (Q := fun j => ¬ Q j) hn (fun j => by
  obtain ⟨l, h1, h2⟩ := hf j
  exact ⟨l, h1, h2.imp (fun h => fun hh => hh h) id⟩) j
 rw [← this]
 exact Classical.not_not.symm
theorem row_hold {A : Nat → Int → Bool} {f : Fml} {c : Nat → Fml → Prop} (hw : Wf f) (h10 : ¬ Has 10 f) (h11 : ¬ Has 11 f) (h : RowT A f c) : ∀ g, Prt f g → ∀ j, isT (c j) g ↔ hold A g j := by
 intro g
 induction g using Fml.ind with
 | h g ih =>
  intro hp j
  have hg := hp.wf hw
  have k10 : g.kind ≠ 10 := fun e => hp.hasn h10 ((has_eq 10 g).2 (Or.inl e))
  have k11 : g.kind ≠ 11 := fun e => hp.hasn h11 ((has_eq 11 g).2 (Or.inl e))
  rcases fit_cases hg.out.1 with ⟨hz, hc, _⟩ | ⟨hz, hc, _⟩ | ⟨hz, hc, _⟩ | ⟨hz, hc, _⟩
  ·rw [isT_eq hg, hold_at]
   simp [isF, hk, hz, h.atom g hp hz]
  ·rw [isT_eq hg, hold_at]
   rcases hz with hz | hz <;> simp [isF, hk, hz]
  ·have h0 := ih 0 (by omega) (hp.kid (by omega))
   rcases hz with hz | hz | hz | hz
   ·rw [isT_eq hg, hold_at]; simp [isF, hk, hz, h0]
   ·rw [isT_eq hg, hold_at]; simp [isF, hk, hz, h.next g hp hz, h0]
   ·exact absurd hz k10
   ·exact absurd hz k11
  ·have h0 := ih 0 (by omega) (hp.kid (by omega))
   have h1 := ih 1 (by omega) (hp.kid (by omega))
   rcases hz with hz | hz | hz | hz
   ·rw [isT_eq hg, hold_at]; simp [isF, hk, hz, h0, h1]
   ·rw [isT_eq hg, hold_at]; simp [isF, hk, hz, h0, h1]
   ·have hx : ∀ j, isT (c j) g ↔ (hold A (g.kid 1) j ∨ (hold A (g.kid 0) j ∧ isT (c (j + 1)) g)) := fun j => by
     rw [← h.self g hp (Or.inl hz) j, ← h0 j, ← h1 j]
     conv => lhs; rw [isT_eq hg]
     simp [isF, hz]
    rw [hold_8 hz]
    refine until_of hx (fun j => ?_) j
    obtain ⟨l, a, b⟩ := h.unt g hp hz j
    exact ⟨l, a, b.imp id (fun hh => (h1 l).1 hh)⟩
   ·have hx : ∀ j, isT (c j) g ↔ (hold A (g.kid 1) j ∧ (hold A (g.kid 0) j ∨ isT (c (j + 1)) g)) := fun j => by
     rw [← h.self g hp (Or.inr hz) j, ← h0 j, ← h1 j]
     conv => lhs; rw [isT_eq hg]
     simp [isF, hz]
    rw [hold_9 hz]
    refine release_of hx (fun j => ?_) j
    obtain ⟨l, a, b⟩ := h.rel g hp hz j
    exact ⟨l, a, b.imp id (fun hh hq => hh ((h1 l).2 hq))⟩
def own (A : Nat → Int → Bool) (j : Nat) (g : Fml) : Prop := if g.kind = 3 then A j g.num = true else if g.kind = 7 then hold A (g.kid 0) (j + 1) else hold A g (j + 1)
theorem own_hold {A : Nat → Int → Bool} : ∀ g, Wf g → ¬ Has 10 g → ¬ Has 11 g → ∀ j, isT (own A j) g ↔ hold A g j := by
 intro g
 induction g using Fml.ind with
 | h g ih =>
  intro hg h10 h11 j
  have k10 : g.kind ≠ 10 := fun e => h10 ((has_eq 10 g).2 (Or.inl e))
  have k11 : g.kind ≠ 11 := fun e => h11 ((has_eq 11 g).2 (Or.inl e))
  have ih' := fun i hi => ih i hi (hg.out.2 i hi) (fun hh => h10 ((has_eq 10 g).2 (Or.inr ⟨i, hi, hh⟩))) (fun hh => h11 ((has_eq 11 g).2 (Or.inr ⟨i, hi, hh⟩)))
  rcases fit_cases hg.out.1 with ⟨hz, hc, _⟩ | ⟨hz, hc, _⟩ | ⟨hz, hc, _⟩ | ⟨hz, hc, _⟩
  ·rw [isT_eq hg, hold_at]
   simp [isF, hk, hz, own]
  ·rw [isT_eq hg, hold_at]
   rcases hz with hz | hz <;> simp [isF, hk, hz]
  ·have h0 := ih' 0 (by omega)
   rcases hz with hz | hz | hz | hz
   ·rw [isT_eq hg, hold_at]; simp [isF, hk, hz, h0]
   ·rw [isT_eq hg, hold_at]; simp [isF, hk, hz, own]
   ·exact absurd hz k10
   ·exact absurd hz k11
  ·have h0 := ih' 0 (by omega)
   have h1 := ih' 1 (by omega)
   rcases hz with hz | hz | hz | hz
   ·rw [isT_eq hg, hold_at]; simp [isF, hk, hz, h0, h1]
   ·rw [isT_eq hg, hold_at]; simp [isF, hk, hz, h0, h1]
   ·rw [isT_eq hg]
    have e : own A j g = hold A g (j + 1) := by unfold own; rw [if_neg (by omega), if_neg (by omega)]
    simp only [isF, hz, h0, h1, e]
    have := ex_step (fun k => hold A (g.kid 0) k) (fun k => hold A (g.kid 1) k) j
    rw [← hold_8 hz, ← hold_8 hz] at this
    simpa using this.symm
   ·rw [isT_eq hg]
    have e : own A j g = hold A g (j + 1) := by unfold own; rw [if_neg (by omega), if_neg (by omega)]
    simp only [isF, hz, h0, h1, e]
    have := ex_step (fun k => ¬ hold A (g.kid 0) k) (fun k => ¬ hold A (g.kid 1) k) j
    rw [hold_9 hz, hold_9 hz, this]
    by_cases a : hold A (g.kid 1) j <;> by_cases b : hold A (g.kid 0) j <;> simp [a, b]
theorem own_row {A : Nat → Int → Bool} {f : Fml} (hw : Wf f) (h10 : ¬ Has 10 f) (h11 : ¬ Has 11 f) : RowT A f (own A) := by
 have T := fun g (hp : Prt f g) j => own_hold (A := A) g (hp.wf hw) (hp.hasn h10) (hp.hasn h11) j
 have fc := fun g (hp : Prt f g) => fit_cases (hp.wf hw).out.1
 refine ⟨fun g _ hz j => ?_, fun g hp hz j => ?_, fun g hp hz j => ?_, fun g hp hz j => ?_, fun g hp hz j => ?_⟩
 ·unfold own; rw [if_pos hz]
 ·have := fc g hp
  rw [T (g.kid 0) (hp.kid (by omega)) (j + 1)]
  unfold own; rw [if_neg (by omega), if_pos hz]
 ·rw [T g hp (j + 1)]
  unfold own; rw [if_neg (by omega), if_neg (by omega)]
 ·have := fc g hp
  refine Classical.byContradiction fun hno => ?_
  have hall : ∀ l, j ≤ l → hold A g l ∧ ¬ hold A (g.kid 1) l := fun l hl => by
   have h1 : ¬ (¬ isT (own A l) g ∨ isT (own A l) (g.kid 1)) := fun hh => hno ⟨l, hl, hh⟩
   rw [T g hp l, T (g.kid 1) (hp.kid (by omega)) l] at h1
   exact ⟨Classical.byContradiction fun a => h1 (Or.inl a), fun a => h1 (Or.inr a)⟩
  have h2 := (hall j jq0).1
  rw [hold_8 hz] at h2
  obtain ⟨l, a, b, _⟩ := h2
  exact (hall l a).2 b
 ·have := fc g hp
  refine Classical.byContradiction fun hno => ?_
  have hall : ∀ l, j ≤ l → ¬ hold A g l ∧ hold A (g.kid 1) l := fun l hl => by
   have h1 : ¬ (isT (own A l) g ∨ ¬ isT (own A l) (g.kid 1)) := fun hh => hno ⟨l, hl, hh⟩
   rw [T g hp l, T (g.kid 1) (hp.kid (by omega)) l] at h1
   exact ⟨fun a => h1 (Or.inl a), Classical.byContradiction fun a => h1 (Or.inr a)⟩
  have h2 := (hall j jq0).1
  rw [hold_9 hz] at h2
  obtain ⟨l, a, b, _⟩ := Classical.byContradiction h2
  exact b (hall l a).2
end Go.Proofs.YtmdpbaobihdgkaaGreatDoor
namespace Go.Proofs.YtmdpbaobihdgkaaGreatDoor
open Go.RowKit
theorem prt_pts : ∀ t x, x ∈ pts t ↔ Prt t x := by
 intro t
 induction t using Fml.ind with
 | h t ih =>
  intro x
  rw [pts_eq, List.mem_cons, catF_mem, prt_eq]
  constructor
  ·rintro (h | ⟨i, hi, h⟩)
   ·exact Or.inl h
   ·exact Or.inr ⟨i, hi, (ih i hi x).1 h⟩
  ·rintro (h | ⟨i, hi, h⟩)
   ·exact Or.inl h
   ·exact Or.inr ⟨i, hi, (ih i hi x).2 h⟩
theorem trv_isT (E : List Fml) (s : Nat) : ∀ t, Wf t → ¬ Has 10 t → ¬ Has 11 t → (trv E t s = true ↔ isT (fun g => bt s (pl E g) = true) t) := by
 intro t
 induction t using Fml.ind with
 | h t ih =>
  intro hw h10 h11
  have k10 : t.kind ≠ 10 := fun e => h10 ((has_eq 10 t).2 (Or.inl e))
  have k11 : t.kind ≠ 11 := fun e => h11 ((has_eq 11 t).2 (Or.inl e))
  have ih' : ∀ i, i < t.cnt → (t.reds (fun _ => false) (trF E) i s = true ↔ isT (fun g => bt s (pl E g) = true) (t.kid i)) := fun i hi => by
   rw [trv_kid hi]
   exact ih i hi (hw.out.2 i hi) (fun h => h10 ((has_eq 10 t).2 (Or.inr ⟨i, hi, h⟩))) (fun h => h11 ((has_eq 11 t).2 (Or.inr ⟨i, hi, h⟩)))
  obtain ⟨q1, q2, q3⟩ := fit_kind hw.out.1
  rw [trv_eq, isT_eq hw]
  generalize t.reds (fun _ => false) (trF E) = rr at *
  unfold trF isF
  have hk : t.kind = 1 ∨ t.kind = 2 ∨ t.kind = 3 ∨ t.kind = 4 ∨ t.kind = 5 ∨ t.kind = 6 ∨ t.kind = 7 ∨ t.kind = 8 ∨ t.kind = 9 := by omega
  have ar1 : ar 4 = 1 := by decide
  have ar2 : ar 5 = 2 ∧ ar 6 = 2 ∧ ar 8 = 2 ∧ ar 9 = 2 := by decide
  rcases hk with hk | hk | hk | hk | hk | hk | hk | hk | hk
  ·simp [hk]
  ·simp [hk]
  ·simp [hk]
  ·rw [hk] at q3
   have i0 := ih' 0 (by omega)
   simp [hk, ← i0]
  ·rw [hk] at q3
   have i0 := ih' 0 (by omega)
   have i1 := ih' 1 (by omega)
   simp [hk, ← i0, ← i1]
  ·rw [hk] at q3
   have i0 := ih' 0 (by omega)
   have i1 := ih' 1 (by omega)
   simp [hk, ← i0, ← i1]
  ·simp [hk]
  ·rw [hk] at q3
   have i0 := ih' 0 (by omega)
   have i1 := ih' 1 (by omega)
   simp [hk, ← i0, ← i1]
  ·rw [hk] at q3
   have i0 := ih' 0 (by omega)
   have i1 := ih' 1 (by omega)
   simp [hk, ← i0, ← i1]
end Go.Proofs.YtmdpbaobihdgkaaGreatDoor
namespace Go.Proofs.YtmdpbaobihdgkaaGreatDoor
open Go.RowKit
def orN (F : Nat → Bool) : Nat → Nat
 | 0 => 0
 | n + 1 => if F n then orN F n ||| 2 ^ n else orN F n
theorem orN_bit (F : Nat → Bool) (k : Nat) : ∀ n, (orN F n).testBit k = (decide (k < n) && F k)
 | 0 => by simp [orN]
 | n + 1 => by
  rw [orN]
  by_cases e : n = k
  ·subst e
   by_cases h : F n = true
   ·rw [if_pos h, Nat.testBit_or, orN_bit F n n, Nat.testBit_two_pow]; simp [h]
   ·rw [if_neg h, orN_bit F n n]; simp at h; simp [h]
  ·have hd : decide (k < n + 1) = decide (k < n) := decide_eq_decide.2 (by omega)
   by_cases h : F n = true
   ·rw [if_pos h, Nat.testBit_or, orN_bit F k n, Nat.testBit_two_pow, hd]; simp [e]
   ·rw [if_neg h, orN_bit F k n, hd]
theorem orN_lt (F : Nat → Bool) : ∀ n, orN F n < 2 ^ n
 | 0 => by simp [orN]
 | n + 1 => by
  have h := orN_lt F n
  have h2 : 2 ^ n < 2 ^ (n + 1) := Nat.pow_lt_pow_right (by decide) (by omega)
  rw [orN]
  split
  ·exact Nat.or_lt_two_pow (Nat.lt_trans h h2) h2
  ·exact Nat.lt_trans h h2
theorem bt_bit (s p : Nat) : bt s p = s.testBit p := by unfold bt; rw [Nat.testBit_eq_decide_div_mod_eq]
def asd (t : Fml) : Fml := if t.kind = 7 then t.kid 0 else t
def tld (E : List Fml) (n : Nat) : Nat := orN (fun k => (lf E k).kind != 3) n
def ahd (E : List Fml) (s n : Nat) : Nat := orN (fun k => (lf E k).kind != 3 && trv E (asd (lf E k)) s) n
def nxt (E : List Fml) (s : Nat) : List Int := trs (fun q => decide (ahd E q E.length = s &&& tld E E.length)) (2 ^ E.length)
theorem ahd_eq (E : List Fml) (s q : Nat) : ahd E q E.length = s &&& tld E E.length ↔ ∀ k, k < E.length → (lf E k).kind ≠ 3 → (trv E (asd (lf E k)) q = bt s k) := by
 constructor
 ·intro h k hk h3
  have := congrArg (fun x => Nat.testBit x k) h
  simp only [ahd, tld, Nat.testBit_and, orN_bit] at this
  have hb : ((lf E k).kind != 3) = true := bne_iff_ne.2 h3
  rw [bt_bit]
  rw [hb, decide_eq_true hk] at this
  simpa using this
 ·intro h
  refine Nat.eq_of_testBit_eq fun k => ?_
  simp only [ahd, tld, Nat.testBit_and, orN_bit]
  by_cases hk : k < E.length
  ·by_cases h3 : (lf E k).kind = 3
   ·simp [h3]
   ·have := h k hk h3
    rw [bt_bit] at this
    have hb : ((lf E k).kind != 3) = true := bne_iff_ne.2 h3
    rw [hb, this, decide_eq_true hk]
    simp
  ·simp [hk]
def ltM (E : List Fml) (b : Bool) (s : Nat) : Nat → Nat
 | 0 => 0
 | k + 1 => if (lf E k).kind = 3 ∧ bt s k = b then ltM E b s k ||| 2 ^ (lf E k).num.toNat else ltM E b s k
theorem ltM_bit (E : List Fml) (b : Bool) (s i : Nat) : ∀ n, (ltM E b s n).testBit i = true ↔ ∃ k, k < n ∧ (lf E k).kind = 3 ∧ (lf E k).num.toNat = i ∧ bt s k = b
 | 0 => by simp [ltM]
 | n + 1 => by
  have ih := ltM_bit E b s i n
  have hx : (∃ k, k < n + 1 ∧ (lf E k).kind = 3 ∧ (lf E k).num.toNat = i ∧ bt s k = b) ↔ ((∃ k, k < n ∧ (lf E k).kind = 3 ∧ (lf E k).num.toNat = i ∧ bt s k = b) ∨ ((lf E n).kind = 3 ∧ (lf E n).num.toNat = i ∧ bt s n = b)) := by
   constructor
   ·rintro ⟨k, hk, h⟩
    by_cases e : k = n
    ·subst e; exact Or.inr h
    ·exact Or.inl ⟨k, by omega, h⟩
   ·rintro (⟨k, hk, h⟩ | h)
    ·exact ⟨k, by omega, h⟩
    ·exact ⟨n, by omega, h⟩
  rw [hx, ltM]
  by_cases h : (lf E n).kind = 3 ∧ bt s n = b
  ·rw [if_pos h, Nat.testBit_or, Nat.testBit_two_pow, Bool.or_eq_true, ih, decide_eq_true_eq]
   constructor
   ·rintro (h1 | h1)
    ·exact Or.inl h1
    ·exact Or.inr ⟨h.1, h1, h.2⟩
   ·rintro (h1 | h1)
    ·exact Or.inl h1
    ·exact Or.inr h1.2.1
  ·rw [if_neg h, ih]
   constructor
   ·exact Or.inl
   ·rintro (h1 | h1)
    ·exact h1
    ·exact absurd ⟨h1.1, h1.2.2⟩ h
theorem ltM_lt (E : List Fml) (b : Bool) (s : Nat) (hE : ∀ x ∈ E, x.kind = 3 → 0 ≤ x.num ∧ x.num ≤ 63) : ∀ n, n ≤ E.length → ltM E b s n < 18446744073709551616
 | 0, _ => by simp [ltM]
 | n + 1, h => by
  have ih := ltM_lt E b s hE n (by omega)
  rw [ltM]
  split
  ·rename_i hk
   have hm := hE _ (mem_lf (by omega)) hk.1
   have : 2 ^ (lf E n).num.toNat < 2 ^ 64 := Nat.pow_lt_pow_right (by decide) (by omega)
   exact Nat.or_lt_two_pow (n := 64) ih this
  ·exact ih
def isFr (t : Fml) : Bool := t.kind == 8 || t.kind == 9
def frT (E : List Fml) : List Fml := E.filter isFr
def frF (E : List Fml) (t : Fml) (s : Nat) : Bool := if t.kind = 8 then !trv E t s || trv E (t.kid 1) s else trv E t s || !trv E (t.kid 1) s
end Go.Proofs.YtmdpbaobihdgkaaGreatDoor
namespace Go.Proofs.YtmdpbaobihdgkaaGreatDoor
open Go.RowKit
theorem check_ok (ga : Option Addr) (G gc : Nat) (L : Nat → Nat) (Z : Nat → Nat → Int) (w : World) (hL : ∀ r, r < G → L r ≤ 140737488355328) (h : Gr w ga G L Z) (h0 : errG G L Z = 0) :
  Calls Tryz.prog 68 #[.slice ga G gc] w fun e w' => e = .returned (.int .i64 0) ∧ w' = w := by
 have := a_check_any ga G gc L Z w hL h
 rwa [h0] at this
theorem errG_zero {G : Nat} {L : Nat → Nat} {Z : Nat → Nat → Int} (h : errG G L Z = 0) : G ≤ 20000 ∧ ∀ r, r < G → ∀ i, i < L r → 0 ≤ Z r i ∧ Z r i < G := by
 unfold errG at h
 by_cases h1 : 20000 < G
 ·rw [if_pos h1] at h; cases h
 ·rw [if_neg h1] at h
  by_cases h2 : okG G L Z = true
  ·exact ⟨by omega, okG_all h2⟩
  ·rw [if_neg h2] at h; cases h
end Go.Proofs.YtmdpbaobihdgkaaGreatDoor
