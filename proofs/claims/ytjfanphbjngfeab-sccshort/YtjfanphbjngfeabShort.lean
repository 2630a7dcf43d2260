/- The way from each of its nodes on: facts without a program. -/
import Derived.Test.YtjfanphbjngfeabSccWaysWalk
namespace Go.Proofs.Ytjfanphbjngfeab
open Go.RowKit

section
variable {G : Nat} {L : Nat → Nat} {Z : Nat → Nat → Int} {T : Nat → Bool} {n : Nat} {Y : Nat → Int} {F : Nat → Int} {len : Nat}

theorem byLev_rest {i j : Nat} (hi : i ≤ len) (x : Nat) : byLev G L Z T (len - i) j x = byLev G L Z T len (i + j) x := by
  unfold byLev
  rw [show (((len - i : Nat) : Int) + 1 - (j : Nat)) = (len : Int) + 1 - ((i + j : Nat) : Int) from by omega]

/-- From the i-th node on the way is the rest of the way. -/
theorem Near.rest (h : Near G L Z T n Y F len) {i x : Nat} (hi : i ≤ len) (hx : nd L Z n Y (byLev G L Z T len) i = x) : ∀ j, i + j ≤ len → nd L Z 1 (fun _ => (x : Int)) (byLev G L Z T (len - i)) j = nd L Z n Y (byLev G L Z T len) (i + j)
  | 0, _ => by
    obtain ⟨_, y, hy, _, _, hl⟩ := h.nodes i hi
    have e : x = y := by omega
    subst e
    have hb : byLev G L Z T (len - i) 0 x = true := by
      rw [byLev_rest hi]
      unfold byLev
      rw [decide_eq_true_eq]
      exact hl
    rw [Nat.add_zero, hx]
    simp only [nd, best]
    rw [if_pos ⟨by simpa using hb, Or.inl trivial⟩]
  | j + 1, hj => by
    have ih := Near.rest h hi hx j (by omega)
    show best (byLev G L Z T (len - i) (j + 1)) (Z (nd L Z 1 (fun _ => (x : Int)) (byLev G L Z T (len - i)) j).toNat) (L (nd L Z 1 (fun _ => (x : Int)) (byLev G L Z T (len - i)) j).toNat) = best (byLev G L Z T len (i + j + 1)) (Z (nd L Z n Y (byLev G L Z T len) (i + j)).toNat) (L (nd L Z n Y (byLev G L Z T len) (i + j)).toNat)
    rw [ih]
    exact best_congr _ (fun k _ => byLev_rest hi _)

/-- How long the way from the i-th node on is. -/
theorem Near.restLen (h : Near G L Z T n Y F len) {i x : Nat} (hi : i ≤ len) (hx : nd L Z n Y (byLev G L Z T len) i = x) {F' : Nat → Int} {len' : Nat} (h' : Near G L Z T 1 (fun _ => (x : Int)) F' len') : len' = len - i := by
  obtain ⟨_, y, hy, _, _, hl⟩ := h.nodes i hi
  have e : x = y := by omega
  subst e
  obtain ⟨_, z, _, hz, hF, hl'⟩ := h'.nodes 0 (Nat.zero_le _)
  have hF0 : F' z = 0 := by simpa using hF
  obtain ⟨_, _, hw⟩ := h'.snd z hz (by omega)
  rw [hF0] at hw
  obtain ⟨_, _, e⟩ := hw
  have e2 : x = z := by omega
  subst e2
  omega

/-- From the i-th node one comes to a target. -/
theorem Near.restComes (h : Near G L Z T n Y F len) {i x : Nat} (hi : i ≤ len) (hx : nd L Z n Y (byLev G L Z T len) i = x) : ∃ t, t < G ∧ T t = true ∧ Comes G L Z 1 (fun _ => (x : Int)) t := by
  obtain ⟨_, y, hy, hyG, hF, hl⟩ := h.nodes i hi
  have e : x = y := by omega
  subst e
  have hb : Bk T (Ego G L Z) (len - i) x := (h.on hyG (by omega) (m := len - i) (by omega)).1 (by omega)
  obtain ⟨t, ht, hT, hw⟩ := wk_bk (P := fun y : Nat => ∃ i, i < 1 ∧ (x : Int) = (y : Int)) (k := 0) ⟨0, by omega, rfl⟩ hb hyG h.hZ
  exact ⟨t, ht, hT, _, by rw [src_eq, ed_ego]; exact hw⟩

/-- Just the last one is a target. -/
theorem Near.last (h : Near G L Z T n Y F len) {i x : Nat} (hi : i ≤ len) (hx : nd L Z n Y (byLev G L Z T len) i = x) : x < G ∧ T x = decide (i = len) := by
  obtain ⟨_, y, hy, hyG, hF, hl⟩ := h.nodes i hi
  have e : x = y := by omega
  subst e
  refine ⟨hyG, ?_⟩
  rw [Bool.eq_iff_iff, decide_eq_true_eq]
  constructor
  · intro hT
    have := h.min x hyG hT (by omega)
    omega
  · intro e
    have hb : Bk T (Ego G L Z) 0 x := (h.on hyG (by omega) (m := 0) (by omega)).1 (by omega)
    exact hb

theorem best_in {p : Nat → Bool} {Y : Nat → Int} : ∀ n, best p Y n ≠ -1 → ∃ k, k < n ∧ Y k = best p Y n
  | 0, h => absurd rfl h
  | n + 1, h => by
    simp only [best] at h ⊢
    split
    · exact ⟨n, by omega, rfl⟩
    · next hc =>
      rw [if_neg hc] at h
      obtain ⟨k, hk, e⟩ := best_in n h
      exact ⟨k, by omega, e⟩

/-- One may go from each node of the way to the next one; the first one stands in the list. -/
theorem nd_edge {i x y : Nat} (hx : nd L Z n Y (byLev G L Z T len) i = x) (hy : nd L Z n Y (byLev G L Z T len) (i + 1) = y) : has (L x) (Z x) y = true := by
  have e : nd L Z n Y (byLev G L Z T len) (i + 1) = best (byLev G L Z T len (i + 1)) (Z x) (L x) := by simp only [nd, hx, Int.toNat_natCast]
  rw [e] at hy
  obtain ⟨k, hk, ek⟩ := best_in (L x) (by rw [hy]; omega)
  exact has_iff.2 ⟨k, hk, by rw [ek, hy]⟩
theorem nd_first {x : Nat} (hx : nd L Z n Y (byLev G L Z T len) 0 = x) : has n Y x = true := by
  have e : best (byLev G L Z T len 0) Y n = x := hx
  obtain ⟨k, hk, ek⟩ := best_in n (by rw [e]; omega)
  exact has_iff.2 ⟨k, hk, by rw [ek, e]⟩
end

end Go.Proofs.Ytjfanphbjngfeab
