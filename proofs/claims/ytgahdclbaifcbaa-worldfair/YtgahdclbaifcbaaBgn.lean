/- Where fair ways begin: one step on; without fair sets; in the world of two states. -/
import Derived.Test.YtgahdclbaifcbaaFrp
import Derived.Test.YtgahdclbaifcbaaTns
namespace Go.Proofs.Ytgahdclbaifcbaa
open Go.RowKit

theorem Rch.head {E : Nat → Nat → Prop} {a b : Nat} (h : Rch E a b) : a = b ∨ ∃ c, E a c ∧ Rch E c b := by
  obtain ⟨k, hk⟩ := h
  have : ∀ k b, Wk (fun x => x = a) E k b → a = b ∨ ∃ c, E a c ∧ Rch E c b := by
    intro k
    induction k with
    | zero => intro b hb; exact Or.inl (Eq.symm hb)
    | succ k ih =>
      rintro b ⟨y, hy, e⟩
      rcases ih y hy with rfl | ⟨c, h1, h2⟩
      · exact Or.inr ⟨b, e, Rch.refl b⟩
      · exact Or.inr ⟨c, h1, h2.on e⟩
  exact this k b hk

theorem ego_to {G : Nat} {L : Nat → Nat} {Z : Nat → Nat → Int} {x i : Nat} (hx : x < G) (hi : i < L x) (hz : 0 ≤ Z x i) : Ego G L Z x (Z x i).toNat := ⟨hx, i, hi, by omega⟩

theorem begins_step {A : Wx} (h0 : chkW A = 0) {x : Nat} (hx : x < A.G) : Begins A x ↔ ∃ i, i < A.L x ∧ Begins A (A.Z x i).toNat := by
  obtain ⟨-, -, -, -, -, hz, -⟩ := chkW_ok h0
  constructor
  · rintro ⟨s, hs, hf, hr⟩
    have key : ∃ c, Ego A.G A.L A.Z x c ∧ ∃ s, s < A.G ∧ FairS A s ∧ Rch (Ego A.G A.L A.Z) c s := by
      rcases hr.head with rfl | ⟨c, h1, h2⟩
      · obtain ⟨⟨y, hy, i, hi, hm1, hm2⟩, hk⟩ := hf
        have hf : FairS A x := ⟨⟨y, hy, i, hi, hm1, hm2⟩, hk⟩
        rcases hm2.2.head with e | ⟨c, h1, h2⟩
        · have e' : y = x := e.symm
          subst e'
          exact ⟨_, ego_to hy hi (hz y hy i hi).1, y, hx, hf, hm1.1⟩
        · exact ⟨c, h1, x, hx, hf, h2.trans hm2.1⟩
      · exact ⟨c, h1, s, hs, hf, h2⟩
    obtain ⟨c, ⟨_, i, hi, e⟩, s, h1, h2, h3⟩ := key
    refine ⟨i, hi, s, h1, h2, ?_⟩
    have : (A.Z x i).toNat = c := by omega
    rw [this]
    exact h3
  · rintro ⟨i, hi, s, h1, h2, h3⟩
    exact ⟨s, h1, h2, (Rch.edge (ego_to hx hi (hz x hx i hi).1)).trans h3⟩

/-- The drawers: more things than places. -/
theorem drawers : ∀ (n : Nat) (f : Nat → Nat), (∀ i, i ≤ n → f i < n) → ∃ i j, i < j ∧ j ≤ n ∧ f i = f j := by
  intro n
  induction n with
  | zero => intro f h; have := h 0 (Nat.le_refl _); omega
  | succ n ih =>
    intro f h
    by_cases hc : ∃ i, i ≤ n ∧ f i = f (n + 1)
    · obtain ⟨i, hi, e⟩ := hc
      exact ⟨i, n + 1, by omega, Nat.le_refl _, e⟩
    · have hne : ∀ i, i ≤ n → f i ≠ f (n + 1) := fun i hi e => hc ⟨i, hi, e⟩
      obtain ⟨i, j, h1, h2, h3⟩ := ih (fun i => if f i = n then f (n + 1) else f i) (fun i hi => by
        have a1 := h i (by omega)
        have a2 := h (n + 1) (Nat.le_refl _)
        have a3 := hne i hi
        show (if f i = n then f (n + 1) else f i) < n
        split <;> omega)
      refine ⟨i, j, h1, by omega, ?_⟩
      have b1 := hne i (by omega)
      have b2 := hne j h2
      split at h3 <;> split at h3 <;> omega

def onW (Z : Nat → Nat → Int) (x : Nat) : Nat → Nat
  | 0 => x
  | n + 1 => (Z (onW Z x n) 0).toNat

theorem begins_all {A : Wx} (h0 : chkW A = 0) (hK : A.K = 0) {x : Nat} (hx : x < A.G) : Begins A x := by
  obtain ⟨-, -, -, -, hon, hz, -⟩ := chkW_ok h0
  have lt : ∀ n, onW A.Z x n < A.G := by
    intro n
    induction n with
    | zero => exact hx
    | succ n ih =>
      have h1 := hon _ ih
      have h2 := hz _ ih 0 (by omega)
      show (A.Z (onW A.Z x n) 0).toNat < A.G
      omega
  have ed : ∀ n, Ego A.G A.L A.Z (onW A.Z x n) (onW A.Z x (n + 1)) := fun n => by
    have h1 := hon _ (lt n)
    exact ego_to (lt n) (by omega) (hz _ (lt n) 0 (by omega)).1
  have wy : ∀ k n, Rch (Ego A.G A.L A.Z) (onW A.Z x n) (onW A.Z x (n + k)) := by
    intro k n
    induction k with
    | zero => exact Rch.refl _
    | succ k ih => exact ih.on (ed (n + k))
  obtain ⟨i, j, h1, h2, h3⟩ := drawers A.G (onW A.Z x) (fun i _ => lt i)
  refine ⟨onW A.Z x i, lt i, ⟨⟨onW A.Z x i, lt i, 0, by have := hon _ (lt i); omega, ⟨?_, Rch.edge (ed i)⟩, Rch.refl _, Rch.refl _⟩, fun k hk => by omega⟩, by have := wy i 0; rw [Nat.zero_add] at this; exact this⟩
  have := wy (j - (i + 1)) (i + 1)
  rw [show i + 1 + (j - (i + 1)) = j by omega, ← h3] at this
  exact this

theorem begins_tn (z x : Nat) (hx : x < 2) : Begins (tnA z) x := by
  have e : ∀ a b, a < 2 → b < 2 → Ego (tnA z).G (tnA z).L (tnA z).Z a b := fun a b ha hb => by
    refine ⟨ha, if a = b then (if a = 0 then 1 else 1) else 0, ?_, ?_⟩
    · show (if a = b then (if a = 0 then 1 else 1) else 0) < 2
      split <;> simp
    · show (if a = (if a = b then (if a = 0 then 1 else 1) else 0) then (1 : Int) else 0) = b
      rcases lt2 ha with rfl | rfl <;> rcases lt2 hb with rfl | rfl <;> simp
  have m : ∀ a b, a < 2 → b < 2 → Mut (Ego (tnA z).G (tnA z).L (tnA z).Z) a b := fun a b ha hb => ⟨Rch.edge (e a b ha hb), Rch.edge (e b a hb ha)⟩
  refine ⟨x, hx, ⟨⟨x, hx, 0, (by decide : 0 < 2), m _ _ ?_ hx, Rch.refl _, Rch.refl _⟩, fun k hk => ⟨0, (by decide : 0 < 1), m _ _ ?_ hx⟩⟩, Rch.refl _⟩
  · show ((if x = 0 then (1 : Int) else 0)).toNat < 2
    split <;> decide
  · show ((k : Int)).toNat < 2
    have : k < 2 := hk
    omega

end Go.Proofs.Ytgahdclbaifcbaa
