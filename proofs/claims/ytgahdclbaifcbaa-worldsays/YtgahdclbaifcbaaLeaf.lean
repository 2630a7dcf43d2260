/- The leaves: In, areNodes, endsWith, Index, Contains, Goes, Equal, each by its contract. -/
import Derived.Test.YtgahdclbaifcbaaBase
namespace Go.Proofs.Ytgahdclbaifcbaa
open Go.RowKit


def allIn (n : Nat) (Z : Nat → Int) (m : Int) : Bool := decide (∀ i, i < n → 0 ≤ Z i ∧ Z i < m)

theorem allIn_no {n : Nat} {Z : Nat → Int} {m : Int} (k : Nat) (hk : k < n) (h : Z k < 0 ∨ m ≤ Z k) : allIn n Z m = false := by
  unfold allIn
  rw [decide_eq_false_iff_not]
  intro hall
  have := hall k hk
  omega

theorem allIn_yes {n : Nat} {Z : Nat → Int} {m : Int} (h : ∀ i, i < n → 0 ≤ Z i ∧ Z i < m) : allIn n Z m = true := by
  unfold allIn
  rw [decide_eq_true_eq]
  exact h

theorem allIn_all {n : Nat} {Z : Nat → Int} {m : Int} (h : allIn n Z m = true) : ∀ i, i < n → 0 ≤ Z i ∧ Z i < m := by
  unfold allIn at h
  rwa [decide_eq_true_eq] at h


/-- Is x among the first n numbers? -/
def has (n : Nat) (Z : Nat → Int) (x : Int) : Bool := decide (∃ i, i < n ∧ Z i = x)

theorem has_no {n : Nat} {Z : Nat → Int} {x : Int} (h : ∀ i, i < n → Z i ≠ x) : has n Z x = false := by
  unfold has
  rw [decide_eq_false_iff_not]
  rintro ⟨i, hi, e⟩
  exact h i hi e

theorem has_yes {n : Nat} {Z : Nat → Int} {x : Int} (k : Nat) (hk : k < n) (e : Z k = x) : has n Z x = true := by
  unfold has
  rw [decide_eq_true_eq]
  exact ⟨k, hk, e⟩

/-- Are the two lists the same? -/
def same (n m : Nat) (Y Z : Nat → Int) : Bool := decide (n = m ∧ ∀ i, i < n → Y i = Z i)

/-- In w the slice at a, of n cells, holds the numbers Z. -/
def Row (w : World) (a : Option Addr) (n : Nat) (Z : Nat → Int) : Prop :=
  ∃ b o, (0 < n → a = some ⟨b, o, none⟩) ∧ ∀ i, i < n → w.cell? ⟨b, o + i, none⟩ = some (.int .i64 (Z i))


set_option maxHeartbeats 400000 in
theorem areNodes_any (ga : Option Addr) (G gc : Nat) (a : Option Addr) (n c : Nat) (Z : Nat → Int) (w : World) (hn : n ≤ 140737488355328) (h : Row w a n Z) :
    Calls Try.prog 63 #[.slice ga G gc, .slice a n c] w fun e w' => e = .returned (.bool (allIn n Z G)) ∧ w' = w := by
  obtain ⟨b, o, ha, hc⟩ := h
  go_enter Try.func63, Try.ntmps63
  go_wp2
  go_loop [9] (fun i => ∃ k : Nat, k ≤ n ∧ i = .int .i64 k ∧ Hid (∀ j, j < k → 0 ≤ Z j ∧ Z j < G)) (fun i => n - (intOf i).toNat)
  case atStart => exact ⟨0, Nat.zero_le _, rfl, hid (fun j hj => absurd hj (Nat.not_lt_zero _))⟩
  case round =>
    obtain ⟨k, hk, rfl, H⟩ := hrel
    by_cases hlt : k < n
    · obtain rfl := ha (by omega)
      have hck := hc k hlt
      by_cases h1 : Z k < 0
      · go_wp2
        go_ret
        exact ⟨ret_bool (allIn_no k hlt (Or.inl h1)).symm, rfl⟩
      · by_cases h2 : (G : Int) ≤ Z k
        · go_wp2
          go_ret
          exact ⟨ret_bool (allIn_no k hlt (Or.inr h2)).symm, rfl⟩
        · go_wp2
          go_round
          case rel => exact ⟨k + 1, by omega, by go_num, hid (snoc_all H.out ⟨by omega, by omega⟩)⟩
          case measure => simp [intOf]; omega
    · go_wp2
      go_ret
      exact ⟨ret_bool (allIn_yes (fun i hi => H.out i (by omega))).symm, rfl⟩

end Go.Proofs.Ytgahdclbaifcbaa

