/- Formulas as trees; a formula in memory; what Check tells. -/
import Derived.Test.YtgahdclbaifcbaaLaBase
import Derived.Test.YtgahdclbaifcbaaRws
import Derived.Test.YtgahdclbaifcbaaLst
import Derived.Test.YtgahdclbaifcbaaLea
import Derived.Test.YtgahdclbaifcbaaApp
import Derived.Test.YtgahdclbaifcbaaWck
import Derived.Test.YtgahdclbaifcbaaHeld
import Derived.Test.YtgahdclbaifcbaaUnr
import Derived.Test.YtgahdclbaifcbaaSgl
import Derived.Test.YtgahdclbaifcbaaGth
namespace Go.Proofs.Ytgahdclbaifcbaa
open Go.RowKit

/-- A formula: its Kind, its N, how many Kids it has, and these. -/
structure Fml where
  kind : Int
  num : Int
  cnt : Nat
  kids : Fin cnt → Fml

def Fml.leaf : Fml := ⟨0, 0, 0, fun i => i.elim0⟩

/-- The Kid of a number. -/
def Fml.kid (t : Fml) (i : Nat) : Fml := if h : i < t.cnt then t.kids ⟨i, h⟩ else Fml.leaf

theorem Fml.ind {P : Fml → Prop} (h : ∀ t : Fml, (∀ i, i < t.cnt → P (t.kid i)) → P t) : ∀ t, P t := by
  intro t
  induction t with
  | mk k n c kids ih =>
    refine h _ (fun i hi => ?_)
    have e : (Fml.mk k n c kids).kid i = kids ⟨i, hi⟩ := dif_pos hi
    rw [e]
    exact ih ⟨i, hi⟩

/-- What is reckoned from a node and from what is reckoned of its Kids. -/
def Fml.red {α : Type} (z : α) (f : Fml → (Nat → α) → α) : Fml → α
  | ⟨k, n, c, kids⟩ => f ⟨k, n, c, kids⟩ (fun i => if h : i < c then Fml.red z f (kids ⟨i, h⟩) else z)

/-- .. of the Kids. -/
def Fml.reds {α : Type} (z : α) (f : Fml → (Nat → α) → α) (t : Fml) (i : Nat) : α := if i < t.cnt then (t.kid i).red z f else z

theorem Fml.red_eq {α : Type} (z : α) (f : Fml → (Nat → α) → α) (t : Fml) : t.red z f = f t (t.reds z f) := by
  cases t with
  | mk k n c kids =>
    show f _ _ = f _ _
    congr 1
    funext i
    unfold Fml.reds
    by_cases h : i < c
    · have e : (Fml.mk k n c kids).kid i = kids ⟨i, h⟩ := dif_pos h
      rw [dif_pos h, if_pos (show i < (Fml.mk k n c kids).cnt from h), e]
    · rw [dif_neg h, if_neg (show ¬ i < (Fml.mk k n c kids).cnt from h)]

theorem Fml.reds_at {α : Type} {z : α} {f : Fml → (Nat → α) → α} {t : Fml} {i : Nat} (h : i < t.cnt) : t.reds z f i = (t.kid i).red z f := if_pos h

/-- The Kids of a formula lie at a. -/
def Kds (w : World) (t : Fml) : Option Addr → Prop := t.red (fun _ => True) fun t r a => ∃ b o, (0 < t.cnt → a = some ⟨b, o, none⟩) ∧ ∀ i, i < t.cnt → ∃ ai ci,
      w.cell? ⟨b, o + i * 3, none⟩ = some (.int .i64 (t.kid i).kind) ∧ w.cell? ⟨b, o + i * 3 + 1, none⟩ = some (.int .i64 (t.kid i).num) ∧
      w.cell? ⟨b, o + i * 3 + 2, none⟩ = some (.slice ai (t.kid i).cnt ci) ∧ (t.kid i).cnt ≤ 9223372036854775807 ∧ r i ai

theorem Kds.out {w : World} {t : Fml} {a : Option Addr} (h : Kds w t a) : ∃ b o, (0 < t.cnt → a = some ⟨b, o, none⟩) ∧ ∀ i, i < t.cnt → ∃ ai ci,
      w.cell? ⟨b, o + i * 3, none⟩ = some (.int .i64 (t.kid i).kind) ∧ w.cell? ⟨b, o + i * 3 + 1, none⟩ = some (.int .i64 (t.kid i).num) ∧
      w.cell? ⟨b, o + i * 3 + 2, none⟩ = some (.slice ai (t.kid i).cnt ci) ∧ (t.kid i).cnt ≤ 9223372036854775807 ∧ Kds w (t.kid i) ai := by
  unfold Kds at h
  rw [Fml.red_eq] at h
  obtain ⟨b, o, h1, h2⟩ := h
  refine ⟨b, o, h1, fun i hi => ?_⟩
  obtain ⟨ai, ci, e1, e2, e3, e4, e5⟩ := h2 i hi
  rw [Fml.reds_at hi] at e5
  exact ⟨ai, ci, e1, e2, e3, e4, e5⟩

theorem Kds.mk {w : World} {t : Fml} {a : Option Addr} (h : ∃ b o, (0 < t.cnt → a = some ⟨b, o, none⟩) ∧ ∀ i, i < t.cnt → ∃ ai ci,
      w.cell? ⟨b, o + i * 3, none⟩ = some (.int .i64 (t.kid i).kind) ∧ w.cell? ⟨b, o + i * 3 + 1, none⟩ = some (.int .i64 (t.kid i).num) ∧
      w.cell? ⟨b, o + i * 3 + 2, none⟩ = some (.slice ai (t.kid i).cnt ci) ∧ (t.kid i).cnt ≤ 9223372036854775807 ∧ Kds w (t.kid i) ai) : Kds w t a := by
  unfold Kds
  rw [Fml.red_eq]
  obtain ⟨b, o, h1, h2⟩ := h
  refine ⟨b, o, h1, fun i hi => ?_⟩
  obtain ⟨ai, ci, e1, e2, e3, e4, e5⟩ := h2 i hi
  rw [Fml.reds_at hi]
  exact ⟨ai, ci, e1, e2, e3, e4, e5⟩

theorem Kds.keep {w w' : World} (hk : ∀ p v, w.cell? p = some v → w'.cell? p = some v) : ∀ (t : Fml) (a : Option Addr), Kds w t a → Kds w' t a := by
  intro t
  induction t using Fml.ind with
  | h t ih =>
    intro a h
    obtain ⟨b, o, h1, h2⟩ := h.out
    refine Kds.mk ⟨b, o, h1, fun i hi => ?_⟩
    obtain ⟨ai, ci, e1, e2, e3, e4, e5⟩ := h2 i hi
    exact ⟨ai, ci, hk _ _ e1, hk _ _ e2, hk _ _ e3, e4, ih i hi ai e5⟩

theorem Kds.below {w w' : World} {t : Fml} {a : Option Addr} (h : Kds w t a) (hb : Below w.heap.size w w') : Kds w' t a :=
  Kds.keep (fun _ _ hv => below_cell hb (Nat.le_refl _) hv) t a h

/-- How many Kids a Kind has; -1: it is none. -/
def ar (k : Int) : Int :=
  if k = 1 ∨ k = 2 ∨ k = 3 then 0 else if k = 4 ∨ k = 7 ∨ k = 10 ∨ k = 11 then 1 else if k = 5 ∨ k = 6 ∨ k = 8 ∨ k = 9 then 2 else -1

/-- The table of how many Kids there are, as the program's text lays it. -/
def kcAt (w : World) : Prop := ∀ k : Nat, 1 ≤ k → k ≤ 11 → w.cell? ⟨0, k, none⟩ = some (.int .i64 (ar k))

theorem kcAt.below {B : Nat} {w w' : World} (h : kcAt w) (hb : Below B w w') (hB : 0 < B) : kcAt w' := fun k h1 h2 => below_cell' hb hB (h k h1 h2)

end Go.Proofs.Ytgahdclbaifcbaa

