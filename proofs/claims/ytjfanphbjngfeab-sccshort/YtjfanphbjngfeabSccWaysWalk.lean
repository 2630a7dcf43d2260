/- The law SccWays, by the contracts of what it calls. -/
import Derived.Test.YtjfanphbjngfeabRefWay
namespace Go.Proofs.Ytjfanphbjngfeab
open Go.RowKit

theorem Near.same {G : Nat} {L : Nat → Nat} {Z : Nat → Nat → Int} {T : Nat → Bool} {n : Nat} {Y : Nat → Int} {F F' : Nat → Int} {len len' : Nat} (h : Near G L Z T n Y F len) (h' : Near G L Z T n Y F' len') : len = len' := by
  have one : ∀ {F F' : Nat → Int} {len len' : Nat}, Near G L Z T n Y F len → Near G L Z T n Y F' len' → len' ≤ len := fun {F F' len len'} h h' => by
    obtain ⟨t, ht, hT, hF⟩ := h.tgt
    obtain ⟨h0, _, hw⟩ := h.snd t ht (by omega)
    obtain ⟨h1, h2⟩ := h'.all _ t ht hw
    have := h'.min t ht hT h1
    omega
  have a := one h h'
  have b := one h' h
  omega

theorem Near.comes {G : Nat} {L : Nat → Nat} {Z : Nat → Nat → Int} {T : Nat → Bool} {n : Nat} {Y : Nat → Int} {F : Nat → Int} {len : Nat} (h : Near G L Z T n Y F len) : ∃ t, t < G ∧ T t = true ∧ Comes G L Z n Y t := by
  obtain ⟨t, ht, hT, hF⟩ := h.tgt
  obtain ⟨_, _, hw⟩ := h.snd t ht (by omega)
  exact ⟨t, ht, hT, _, by rw [src_eq, ed_ego]; exact hw⟩

theorem WayIs.either {G : Nat} {L : Nat → Nat} {Z : Nat → Nat → Int} {T : Nat → Bool} {n : Nat} {Y : Nat → Int} {w w' : World} {v : Value} {is : Bool} (h : WayIs G L Z T n Y w w' v is) : (∀ x, x < G → T x = true → ¬ Comes G L Z n Y x) ∨ ∃ (F : Nat → Int) (len : Nat), Near G L Z T n Y F len := by
  rcases h with ⟨_, _, h⟩ | ⟨_, F, len, h, _⟩
  · exact Or.inl h
  · exact Or.inr ⟨F, len, h⟩

/-- What a way is in memory: a slice that holds just the nodes of the way. -/
theorem WayIs.row {G : Nat} {L : Nat → Nat} {Z : Nat → Nat → Int} {T : Nat → Bool} {n : Nat} {Y : Nat → Int} {w w' : World} {v : Value} {is : Bool} (h : WayIs G L Z T n Y w w' v is) : ∃ (a : Option Addr) (k c : Nat) (R : Nat → Int), v = .slice a k c ∧ Row w' a k R ∧
    ((is = false ∧ k = 0 ∧ ∀ x, x < G → T x = true → ¬ Comes G L Z n Y x) ∨ (is = true ∧ ∃ (F : Nat → Int) (len : Nat), Near G L Z T n Y F len ∧ k = len + 1 ∧ ∀ i, i < len + 1 → R i = nd L Z n Y (byLev G L Z T len) i)) := by
  rcases h with ⟨h1, rfl, h2⟩ | ⟨h1, F, len, h2, h3⟩
  · exact ⟨none, 0, 0, fun _ => 0, rfl, row_zero _ _ _, Or.inl ⟨h1, rfl, h2⟩⟩
  · have hl := wayL_len L Z n Y (byLev G L Z T len) (len + 1)
    obtain ⟨a, c, e, hr⟩ := owns_row (l := wayL L Z n Y (byLev G L Z T len) (len + 1)) (by rw [hl]; exact h3)
    rw [hl] at e hr
    refine ⟨a, len + 1, c, _, e, hr, Or.inr ⟨h1, F, len, h2, rfl, fun i hi => ?_⟩⟩
    simp [wayL, hi]

/-- Two ways of one question are the same. -/
theorem WayIs.twice {G : Nat} {L : Nat → Nat} {Z : Nat → Nat → Int} {T : Nat → Bool} {n : Nat} {Y : Nat → Int} {w1 w1' w2 w2' : World} {v v' : Value} {is is' : Bool} (h : WayIs G L Z T n Y w1 w1' v is) (h' : WayIs G L Z T n Y w2 w2' v' is') (hb : Below w1'.heap.size w1' w2') :
    is = is' ∧ ∃ (a : Option Addr) (c : Nat) (a' : Option Addr) (c' : Nat) (k : Nat) (R R' : Nat → Int), v = .slice a k c ∧ v' = .slice a' k c' ∧ Row w2' a k R ∧ Row w2' a' k R' ∧ k ≤ G ∧ ∀ i, i < k → R i = R' i := by
  obtain ⟨a, k, c, R, rfl, hr, hk⟩ := h.row
  obtain ⟨a', k', c', R', rfl, hr', hk'⟩ := h'.row
  rcases hk with ⟨e, rfl, hno⟩ | ⟨e, F, len, hN, rfl, hR⟩
  · rcases hk' with ⟨e', rfl, _⟩ | ⟨_, F', len', hN', _⟩
    · exact ⟨by rw [e, e'], a, c, a', c', 0, R, R', rfl, rfl, hr.below hb, hr', Nat.zero_le _, fun i hi => by omega⟩
    · obtain ⟨t, ht, hT, hc⟩ := hN'.comes
      exact absurd hc (hno t ht hT)
  · rcases hk' with ⟨_, _, hno⟩ | ⟨e', F', len', hN', rfl, hR'⟩
    · obtain ⟨t, ht, hT, hc⟩ := hN.comes
      exact absurd hc (hno t ht hT)
    · have hs := hN.same hN'
      subst hs
      exact ⟨by rw [e, e'], a, c, a', c', len + 1, R, R', rfl, rfl, hr.below hb, hr', hN.lenG, fun i hi => by rw [hR i hi, hR' i hi]⟩

theorem errF_of_bad {G : Nat} {L : Nat → Nat} {Z : Nat → Nat → Int} {n : Nat} {Y : Nat → Int} {tn : Nat} (h : errG G L Z ≠ 0) : errW G L Z n Y tn = errG G L Z := by
  unfold errW errF
  rw [if_neg h, if_neg h]

end Go.Proofs.Ytjfanphbjngfeab
