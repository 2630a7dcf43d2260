/- Formulas as trees; a formula in memory; what Check tells. -/
import Derived.Test.YtinacgkiigbmjaaDoorBase
namespace Go.Proofs.YtinacgkiigbmjaaDoor
open Go.RowKit

/-- A formula: its Kind, its N, how many Kids it has, and these. -/
structure Fml where
  kind : Int
  num : Int
  cnt : Nat
  kids : Fin cnt → Fml

def Fml.leaf : Fml := ⟨0, 0, 0, fun i => i.elim0⟩

/-- The Kid of a number. -/
def Fml.kid (t : Fml) (i : Nat) : Fml := if h : i < t.cnt then t.kids ⟨i, h⟩ else Fml.leaf

theorem Fml.ind {P : Fml → Prop} (h : ∀ t : Fml, (∀ i, i < t.cnt → P (t.kid i)) → P t) : ∀ t, P t := by
  intro t
  induction t with
  | mk k n c kids ih =>
    refine h _ (fun i hi => ?_)
    have e : (Fml.mk k n c kids).kid i = kids ⟨i, hi⟩ := dif_pos hi
    rw [e]
    exact ih ⟨i, hi⟩

/-- What is reckoned from a node and from what is reckoned of its Kids. -/
def Fml.red {α : Type} (z : α) (f : Fml → (Nat → α) → α) : Fml → α
  | ⟨k, n, c, kids⟩ => f ⟨k, n, c, kids⟩ (fun i => if h : i < c then Fml.red z f (kids ⟨i, h⟩) else z)

/-- .. of the Kids. -/
def Fml.reds {α : Type} (z : α) (f : Fml → (Nat → α) → α) (t : Fml) (i : Nat) : α := if i < t.cnt then (t.kid i).red z f else z

theorem Fml.red_eq {α : Type} (z : α) (f : Fml → (Nat → α) → α) (t : Fml) : t.red z f = f t (t.reds z f) := by
  cases t with
  | mk k n c kids =>
    show f _ _ = f _ _
    congr 1
    funext i
    unfold Fml.reds
    by_cases h : i < c
    · have e : (Fml.mk k n c kids).kid i = kids ⟨i, h⟩ := dif_pos h
      rw [dif_pos h, if_pos (show i < (Fml.mk k n c kids).cnt from h), e]
    · rw [dif_neg h, if_neg (show ¬ i < (Fml.mk k n c kids).cnt from h)]

theorem Fml.reds_at {α : Type} {z : α} {f : Fml → (Nat → α) → α} {t : Fml} {i : Nat} (h : i < t.cnt) : t.reds z f i = (t.kid i).red z f := if_pos h

/-- The Kids of a formula lie at a. -/
def Kds (w : World) (t : Fml) : Option Addr → Prop := t.red (fun _ => True) fun t r a => ∃ b o, (0 < t.cnt → a = some ⟨b, o, none⟩) ∧ ∀ i, i < t.cnt → ∃ ai ci,
      w.cell? ⟨b, o + i * 3, none⟩ = some (.int .i64 (t.kid i).kind) ∧ w.cell? ⟨b, o + i * 3 + 1, none⟩ = some (.int .i64 (t.kid i).num) ∧
      w.cell? ⟨b, o + i * 3 + 2, none⟩ = some (.slice ai (t.kid i).cnt ci) ∧ (t.kid i).cnt ≤ 9223372036854775807 ∧ r i ai

theorem Kds.out {w : World} {t : Fml} {a : Option Addr} (h : Kds w t a) : ∃ b o, (0 < t.cnt → a = some ⟨b, o, none⟩) ∧ ∀ i, i < t.cnt → ∃ ai ci,
      w.cell? ⟨b, o + i * 3, none⟩ = some (.int .i64 (t.kid i).kind) ∧ w.cell? ⟨b, o + i * 3 + 1, none⟩ = some (.int .i64 (t.kid i).num) ∧
      w.cell? ⟨b, o + i * 3 + 2, none⟩ = some (.slice ai (t.kid i).cnt ci) ∧ (t.kid i).cnt ≤ 9223372036854775807 ∧ Kds w (t.kid i) ai := by
  unfold Kds at h
  rw [Fml.red_eq] at h
  obtain ⟨b, o, h1, h2⟩ := h
  refine ⟨b, o, h1, fun i hi => ?_⟩
  obtain ⟨ai, ci, e1, e2, e3, e4, e5⟩ := h2 i hi
  rw [Fml.reds_at hi] at e5
  exact ⟨ai, ci, e1, e2, e3, e4, e5⟩

theorem Kds.mk {w : World} {t : Fml} {a : Option Addr} (h : ∃ b o, (0 < t.cnt → a = some ⟨b, o, none⟩) ∧ ∀ i, i < t.cnt → ∃ ai ci,
      w.cell? ⟨b, o + i * 3, none⟩ = some (.int .i64 (t.kid i).kind) ∧ w.cell? ⟨b, o + i * 3 + 1, none⟩ = some (.int .i64 (t.kid i).num) ∧
      w.cell? ⟨b, o + i * 3 + 2, none⟩ = some (.slice ai (t.kid i).cnt ci) ∧ (t.kid i).cnt ≤ 9223372036854775807 ∧ Kds w (t.kid i) ai) : Kds w t a := by
  unfold Kds
  rw [Fml.red_eq]
  obtain ⟨b, o, h1, h2⟩ := h
  refine ⟨b, o, h1, fun i hi => ?_⟩
  obtain ⟨ai, ci, e1, e2, e3, e4, e5⟩ := h2 i hi
  rw [Fml.reds_at hi]
  exact ⟨ai, ci, e1, e2, e3, e4, e5⟩

theorem Kds.keep {w w' : World} (hk : ∀ p v, w.cell? p = some v → w'.cell? p = some v) : ∀ (t : Fml) (a : Option Addr), Kds w t a → Kds w' t a := by
  intro t
  induction t using Fml.ind with
  | h t ih =>
    intro a h
    obtain ⟨b, o, h1, h2⟩ := h.out
    refine Kds.mk ⟨b, o, h1, fun i hi => ?_⟩
    obtain ⟨ai, ci, e1, e2, e3, e4, e5⟩ := h2 i hi
    exact ⟨ai, ci, hk _ _ e1, hk _ _ e2, hk _ _ e3, e4, ih i hi ai e5⟩

theorem Kds.below {w w' : World} {t : Fml} {a : Option Addr} (h : Kds w t a) (hb : Below w.heap.size w w') : Kds w' t a :=
  Kds.keep (fun _ _ hv => below_cell hb (Nat.le_refl _) hv) t a h

/-- How many Kids a Kind has; -1: it is none. -/
def ar (k : Int) : Int :=
  if k = 1 ∨ k = 2 ∨ k = 3 then 0 else if k = 4 ∨ k = 7 ∨ k = 10 ∨ k = 11 then 1 else if k = 5 ∨ k = 6 ∨ k = 8 ∨ k = 9 then 2 else -1

/-- Does a node have the Kids and the N that its Kind asks for? -/
def fit (t : Fml) : Bool := decide ((t.cnt : Int) = ar t.kind) && (if t.kind = 3 then decide (0 ≤ t.num ∧ t.num ≤ 63) else decide (t.num = 0))

theorem fit_kind {t : Fml} (h : fit t = true) : 1 ≤ t.kind ∧ t.kind ≤ 11 ∧ (t.cnt : Int) = ar t.kind := by
  unfold fit at h
  rw [Bool.and_eq_true, decide_eq_true_eq] at h
  have h1 := h.1
  unfold ar at h1
  have : 1 ≤ t.kind ∧ t.kind ≤ 11 := by
    split at h1
    · omega
    · split at h1
      · omega
      · split at h1 <;> omega
  exact ⟨this.1, this.2, h.1⟩

/-- The first i of them, one behind the other, until one is wrong. -/
def chkAll (f : Nat → Nat → Int × Nat) (m : Nat) : Nat → Int × Nat
  | 0 => (0, m)
  | i + 1 => if (chkAll f m i).1 = 0 then f i (chkAll f m i).2 else chkAll f m i

theorem chkAll_congr {f g : Nat → Nat → Int × Nat} {m : Nat} : ∀ n, (∀ i, i < n → ∀ x, f i x = g i x) → chkAll f m n = chkAll g m n
  | 0, _ => rfl
  | n + 1, h => by
    have e := chkAll_congr (f := f) (g := g) (m := m) n (fun i hi => h i (by omega))
    simp only [chkAll, e, h n (by omega)]

def chkF (t : Fml) (r : Nat → Nat → Nat → Int × Nat) (d m : Nat) : Int × Nat := if 60 < m + 1 then (2, m + 1) else if 20 < d then (5, m + 1) else if fit t = false then (1, m + 1)
      else chkAll (fun i x => r i (d + 1) x) (m + 1) t.cnt

/-- What is wrong with a formula, so deep, behind so many nodes; and how many there are then. -/
def chk (t : Fml) : Nat → Nat → Int × Nat := t.red (fun _ m => (0, m)) chkF

theorem chk_eq (t : Fml) (d m : Nat) : chk t d m = if 60 < m + 1 then (2, m + 1) else if 20 < d then (5, m + 1) else if fit t = false then (1, m + 1)
      else chkAll (fun i x => chk (t.kid i) (d + 1) x) (m + 1) t.cnt := by
  have e : chk t d m = chkF t (t.reds (fun _ m => (0, m)) chkF) d m := congrFun (congrFun (Fml.red_eq _ _ t) d) m
  rw [e, chkF, chkAll_congr (f := fun i x => t.reds (fun _ m => (0, m)) chkF i (d + 1) x) (g := fun i x => chk (t.kid i) (d + 1) x) t.cnt (fun i hi x => congrFun (congrFun (Fml.reds_at hi) (d + 1)) x)]

theorem chkAll_stay {f : Nat → Nat → Int × Nat} {m k : Nat} (h : (chkAll f m k).1 ≠ 0) : ∀ n, k ≤ n → chkAll f m n = chkAll f m k
  | 0, hn => by
    obtain rfl : k = 0 := by omega
    rfl
  | n + 1, hn => by
    by_cases e : k = n + 1
    · subst e; rfl
    · have := chkAll_stay h n (by omega)
      simp only [chkAll, this, if_neg h]

theorem chkAll_ok {f : Nat → Nat → Int × Nat} {m n : Nat} (h : (chkAll f m n).1 = 0) {k : Nat} (hk : k ≤ n) : (chkAll f m k).1 = 0 := by
  by_cases e : (chkAll f m k).1 = 0
  · exact e
  · rw [chkAll_stay e n hk] at h
    exact h

theorem chkAll_small {f : Nat → Nat → Int × Nat} {m : Nat} (hm : m ≤ 60) : ∀ n, (∀ i, i < n → ∀ x, x ≤ 60 → (f i x).2 ≤ 61 ∧ ((f i x).1 = 0 → (f i x).2 ≤ 60)) → (chkAll f m n).2 ≤ 61 ∧ ((chkAll f m n).1 = 0 → (chkAll f m n).2 ≤ 60)
  | 0, _ => ⟨Nat.le_succ_of_le hm, fun _ => hm⟩
  | n + 1, hf => by
    have h := chkAll_small hm n (fun i hi => hf i (by omega))
    simp only [chkAll]
    by_cases e : (chkAll f m n).1 = 0
    · rw [if_pos e]
      exact hf n (by omega) _ (h.2 e)
    · rw [if_neg e]
      exact h

theorem chk_small : ∀ (t : Fml) (d m : Nat), m ≤ 60 → (chk t d m).2 ≤ 61 ∧ ((chk t d m).1 = 0 → (chk t d m).2 ≤ 60) := by
  intro t
  induction t using Fml.ind with
  | h t ih =>
    intro d m hm
    rw [chk_eq]
    by_cases h1 : 60 < m + 1
    · rw [if_pos h1]
      exact ⟨by show m + 1 ≤ 61; omega, fun h => by cases h⟩
    rw [if_neg h1]
    by_cases h2 : 20 < d
    · rw [if_pos h2]
      exact ⟨by show m + 1 ≤ 61; omega, fun h => by cases h⟩
    rw [if_neg h2]
    by_cases h3 : fit t = false
    · rw [if_pos h3]
      exact ⟨by show m + 1 ≤ 61; omega, fun h => by cases h⟩
    rw [if_neg h3]
    exact chkAll_small (by omega) t.cnt (fun i hi x hx => ih i hi (d + 1) x hx)

/-- The table of how many Kids there are, as the program's text lays it. -/
def kcAt (w : World) : Prop := ∀ k : Nat, 1 ≤ k → k ≤ 11 → w.cell? ⟨2, k, none⟩ = some (.int .i64 (ar k))

theorem kcAt.below {B : Nat} {w w' : World} (h : kcAt w) (hb : Below B w w') (hB : 2 < B) : kcAt w' := fun k h1 h2 => below_cell' hb hB (h k h1 h2)
theorem kcAt.pos {w : World} (h : kcAt w) : 2 < w.heap.size := World.block_lt_of_cell? _ _ (h 1 (by omega) (by omega))

end Go.Proofs.YtinacgkiigbmjaaDoor
