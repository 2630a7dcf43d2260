/- Nots, Plain, Slim on trees: what they make, and that it means the same. -/
import Derived.Test.YtinacgkiigbmjaaDoorMng
import Derived.Test.YtinacgkiigbmjaaDoorWfm
namespace Go.Proofs.YtinacgkiigbmjaaDoor
open Go.RowKit

/-- A node with these Kids. -/
def mkn (k n : Int) (c : Nat) (r : Nat → Fml) : Fml := ⟨k, n, c, fun i => r i.val⟩

theorem mkn_kid {k n : Int} {c : Nat} {r : Nat → Fml} {i : Nat} (h : i < c) : (mkn k n c r).kid i = r i := dif_pos h
theorem kid_none {t : Fml} {i : Nat} (h : ¬ i < t.cnt) : t.kid i = Fml.leaf := dif_neg h
theorem mkn_self (t : Fml) : mkn t.kind t.num t.cnt t.kid = t := by
  cases t with
  | mk k n c kids =>
    show (⟨k, n, c, fun i => (Fml.mk k n c kids).kid i.val⟩ : Fml) = ⟨k, n, c, kids⟩
    congr 1
    funext i
    exact dif_pos i.isLt
theorem mkn_congr {k n : Int} {c : Nat} {r q : Nat → Fml} (h : ∀ i, i < c → r i = q i) : mkn k n c r = mkn k n c q := by
  unfold mkn
  congr 1
  funext i
  exact h i.val i.isLt
theorem fml_ext {t u : Fml} (h1 : t.kind = u.kind) (h2 : t.num = u.num) (h3 : t.cnt = u.cnt) (h4 : ∀ i, i < t.cnt → t.kid i = u.kid i) : t = u := by
  rw [← mkn_self t, ← mkn_self u, ← h1, ← h2, ← h3]
  exact mkn_congr h4
theorem on_mkn (k : Int) (t : Fml) : on k t = mkn k 0 1 (fun _ => t) := rfl
theorem nd_ext {t : Fml} (h : t.cnt = 0) : t = nd t.kind t.num := fml_ext rfl rfl h (fun i hi => by omega)
theorem on_ext {t : Fml} (h : t.cnt = 1) (hn : t.num = 0) : t = on t.kind (t.kid 0) := fml_ext rfl hn h (fun i hi => by
  obtain rfl : i = 0 := by omega
  rw [on_kid])
theorem tw_ext {t : Fml} (h : t.cnt = 2) (hn : t.num = 0) : t = tw t.kind (t.kid 0) (t.kid 1) := fml_ext rfl hn h (fun i hi => by
  rcases (by omega : i = 0 ∨ i = 1) with rfl | rfl
  · rw [tw_kid0]
  · rw [tw_kid1])

/-- What a node means, told by what its Kids mean. -/
def hk (A : Nat → Int → Bool) (k n : Int) (r : Nat → Nat → Prop) (i : Nat) : Prop :=
  if k = 1 then True else if k = 3 then A i n = true else if k = 4 then ¬ r 0 i else if k = 5 then r 0 i ∧ r 1 i else if k = 6 then r 0 i ∨ r 1 i
  else if k = 7 then r 0 (i + 1) else if k = 8 then ∃ j, i ≤ j ∧ r 1 j ∧ ∀ l, i ≤ l → l < j → r 0 l
  else if k = 9 then ¬ ∃ j, i ≤ j ∧ ¬ r 1 j ∧ ∀ l, i ≤ l → l < j → ¬ r 0 l
  else if k = 10 then ∃ j, i ≤ j ∧ r 0 j else if k = 11 then ¬ ∃ j, i ≤ j ∧ ¬ r 0 j else False

theorem hold_leaf (A : Nat → Int → Bool) : hold A Fml.leaf = fun _ => False := by
  funext i
  rw [hold_eq]
  simp [holdF, Fml.leaf]

theorem hold_at (A : Nat → Int → Bool) (t : Fml) (i : Nat) : hold A t i = hk A t.kind t.num (fun j => hold A (t.kid j)) i := by
  rw [hold_eq]
  have e : t.reds (fun _ => False) (holdF A) = fun j => hold A (t.kid j) := by
    funext j
    by_cases h : j < t.cnt
    · exact hold_kid h
    · rw [hold_none h, kid_none h, hold_leaf]
  rw [e]
  rfl

theorem hold_mkn (A : Nat → Int → Bool) {k n : Int} {c : Nat} {r : Nat → Fml} (i : Nat) : hold A (mkn k n c r) i = hk A k n (fun j => if j < c then hold A (r j) else fun _ => False) i := by
  rw [hold_at]
  have e : (fun j => hold A ((mkn k n c r).kid j)) = fun j => if j < c then hold A (r j) else fun _ => False := by
    funext j
    by_cases h : j < c
    · rw [if_pos h, mkn_kid h]
    · rw [if_neg h, kid_none h, hold_leaf]
  rw [e]
  rfl

/-- A right node: which Kind, and how many Kids. -/
theorem fit_cases {t : Fml} (h : fit t = true) : (t.kind = 3 ∧ t.cnt = 0 ∧ 0 ≤ t.num ∧ t.num ≤ 63) ∨ ((t.kind = 1 ∨ t.kind = 2) ∧ t.cnt = 0 ∧ t.num = 0) ∨ ((t.kind = 4 ∨ t.kind = 7 ∨ t.kind = 10 ∨ t.kind = 11) ∧ t.cnt = 1 ∧ t.num = 0) ∨ ((t.kind = 5 ∨ t.kind = 6 ∨ t.kind = 8 ∨ t.kind = 9) ∧ t.cnt = 2 ∧ t.num = 0) := by
  have hc := fit_parts h
  unfold fit at h
  rw [Bool.and_eq_true] at h
  have h2 := h.2
  have h1 := hc.1
  unfold ar at h1
  by_cases k3 : t.kind = 3
  · have := hc.2 k3
    rw [if_pos (by omega)] at h1
    exact Or.inl ⟨k3, by omega, this⟩
  rw [if_neg k3, decide_eq_true_eq] at h2
  by_cases a : t.kind = 1 ∨ t.kind = 2 ∨ t.kind = 3
  · rw [if_pos a] at h1
    exact Or.inr (Or.inl ⟨by omega, by omega, h2⟩)
  rw [if_neg a] at h1
  by_cases b : t.kind = 4 ∨ t.kind = 7 ∨ t.kind = 10 ∨ t.kind = 11
  · rw [if_pos b] at h1
    exact Or.inr (Or.inr (Or.inl ⟨b, by omega, h2⟩))
  rw [if_neg b] at h1
  by_cases c : t.kind = 5 ∨ t.kind = 6 ∨ t.kind = 8 ∨ t.kind = 9
  · rw [if_pos c] at h1
    exact Or.inr (Or.inr (Or.inr ⟨c, by omega, h2⟩))
  · rw [if_neg c] at h1
    omega

/-- The opposite Kind. -/
def opp (k : Int) : Int := if k = 1 then 2 else if k = 2 then 1 else if k = 5 then 6 else if k = 6 then 5 else if k = 7 then 7 else if k = 8 then 9 else if k = 9 then 8 else if k = 10 then 11 else if k = 11 then 10 else 0

def ntF (t : Fml) (r : Nat → Bool → Fml) (b : Bool) : Fml :=
  if t.kind = 4 then r 0 (!b) else if b = false then mkn t.kind t.num t.cnt (fun i => r i false) else if t.kind = 3 then on 4 (nd 3 t.num) else mkn (opp t.kind) 0 t.cnt (fun i => r i true)

/-- The nots pushed inward: of a formula, or of its not. -/
def nt (t : Fml) : Bool → Fml := t.red (fun _ => Fml.leaf) ntF

theorem ntF_congr {t : Fml} {r q : Nat → Bool → Fml} (h : t.kind = 4 → 0 < t.cnt) (hr : ∀ i, i < t.cnt → r i = q i) (b : Bool) : ntF t r b = ntF t q b := by
  unfold ntF
  by_cases h4 : t.kind = 4
  · rw [if_pos h4, if_pos h4, hr 0 (h h4)]
  · rw [if_neg h4, if_neg h4, mkn_congr (r := fun i => r i false) (q := fun i => q i false) (fun i hi => congrFun (hr i hi) _), mkn_congr (r := fun i => r i true) (q := fun i => q i true) (fun i hi => congrFun (hr i hi) _)]

theorem nt_eq {t : Fml} (h : t.kind = 4 → 0 < t.cnt) (b : Bool) : nt t b = ntF t (fun i => nt (t.kid i)) b := by
  have e : nt t b = ntF t (t.reds (fun _ => Fml.leaf) ntF) b := congrFun (Fml.red_eq _ _ t) b
  rw [e]
  exact ntF_congr h (fun i hi => Fml.reds_at hi) b

theorem nt_wfeq {t : Fml} (h : Wf t) (b : Bool) : nt t b = ntF t (fun i => nt (t.kid i)) b := nt_eq (fun h4 => by
  have := fit_cases h.out.1
  omega) b

theorem nt_hold {A : Nat → Int → Bool} : ∀ t, Wf t → ∀ i, (hold A (nt t false) i ↔ hold A t i) ∧ (hold A (nt t true) i ↔ ¬ hold A t i) := by
  intro t
  induction t using Fml.ind with
  | h t ih =>
    intro hw i
    rw [nt_wfeq hw, nt_wfeq hw]
    rcases fit_cases hw.out.1 with ⟨hz, hc, _⟩ | ⟨hz, hc, _⟩ | ⟨hz, hc, _⟩ | ⟨hz, hc, _⟩
    · refine ⟨?_, ?_⟩
      · rw [ntF, if_neg (by omega), if_pos rfl, hold_mkn, hold_at A t]
        simp [hk, hz]
      · rw [ntF, if_neg (by omega), if_neg (by decide), if_pos hz, hold_not, hold_at A (nd 3 t.num), hold_at A t]
        simp [hk, hz, nd]
    · refine ⟨?_, ?_⟩
      · rw [ntF, if_neg (by omega), if_pos rfl, hold_mkn, hold_at A t]
        rcases hz with hz | hz <;> simp [hk, hz]
      · rw [ntF, if_neg (by omega), if_neg (by decide), if_neg (by omega), hold_mkn, hold_at A t]
        rcases hz with hz | hz <;> simp [hk, hz, opp]
    · have h0 := fun i => ih 0 (by omega) (hw.out.2 0 (by omega)) i
      have ha := fun i => (h0 i).1
      have hb := fun i => (h0 i).2
      refine ⟨?_, ?_⟩
      · rw [ntF]
        by_cases h4 : t.kind = 4
        · rw [if_pos h4, hold_at A t]
          simp [hk, h4, hb]
        · rw [if_neg h4, if_pos rfl, hold_mkn, hold_at A t, hc]
          rcases hz with hz | hz | hz | hz <;> first | exact absurd hz h4 | simp [hk, hz, ha]
      · rw [ntF]
        by_cases h4 : t.kind = 4
        · rw [if_pos h4, hold_at A t]
          simp [hk, h4, ha]
        · rw [if_neg h4, if_neg (by decide), if_neg (by omega), hold_mkn, hold_at A t, hc]
          rcases hz with hz | hz | hz | hz <;> first | exact absurd hz h4 | simp [hk, hz, opp, hb]
    · have ha := fun i => (ih 0 (by omega) (hw.out.2 0 (by omega)) i).1
      have hb := fun i => (ih 0 (by omega) (hw.out.2 0 (by omega)) i).2
      have ha1 := fun i => (ih 1 (by omega) (hw.out.2 1 (by omega)) i).1
      have hb1 := fun i => (ih 1 (by omega) (hw.out.2 1 (by omega)) i).2
      refine ⟨?_, ?_⟩
      · rw [ntF, if_neg (by omega), if_pos rfl, hold_mkn, hold_at A t, hc]
        rcases hz with hz | hz | hz | hz <;> simp [hk, hz, ha, ha1]
      · rw [ntF, if_neg (by omega), if_neg (by decide), if_neg (by omega), hold_mkn, hold_at A t, hc]
        rcases hz with hz | hz | hz | hz <;> simp [hk, hz, opp, hb, hb1]
        by_cases h : hold A (t.kid 0) i <;> simp [h]

end Go.Proofs.YtinacgkiigbmjaaDoor
