/- The document's lists of numbers: Index, Contains, once. -/
import Derived.Deep.CutRange
import Derived.Great.BuildSlice
import Derived.Test.YtgahdclbaifcbaaAcf
import Derived.Test.YtgahdclbaifcbaaFai
import Derived.Test.YtgahdclbaifcbaaLst
import Derived.Test.YtgahdclbaifcbaaSte
import Derived.Test.YtgahdclbaifcbaaWck
import Derived.Test.YtgahdclbaifcbaaOnc
namespace Go.Proofs.Ytgahdclbaifcbaa
open Go.RowKit

set_option maxHeartbeats 1000000 in
theorem idxI (a : Option Addr) (n c : Nat) (Z : Nat → Int) (x : Int) (w : World) (hn : n ≤ 140737488355328) (h : Row w a n Z) :
    Calls Try.prog 59 #[.slice a n c, .int .i64 x] w fun e w' => (∃ r : Int, e = .returned (.int .i64 r) ∧ ((0 ≤ r ∧ has n Z x = true) ∨ (r = -1 ∧ has n Z x = false))) ∧ w' = w := by
  obtain ⟨b, o, ha, hc⟩ := h
  have HC := hid hc
  clear hc
  go_enter Try.func59, Try.ntmps59
  go_wp2
  go_loopw [8] (fun i wr => ∃ k : Nat, k ≤ n ∧ i = .int .i64 k ∧ wr = w ∧ Hid (∀ j, j < k → Z j ≠ x)) (fun i _ => n - (intOf i).toNat)
  case atStart => exact ⟨0, Nat.zero_le _, rfl, rfl, hid (fun j hj => absurd hj (Nat.not_lt_zero _))⟩
  case round =>
    obtain ⟨k, hk, rfl, rfl, H⟩ := hrel
    by_cases hlt : k < n
    · obtain rfl := ha (by omega)
      have hck := HC.out k hlt
      by_cases e : x = Z k
      · have hb : (x == Z k) = true := by simp [e]
        have E := hid e
        clear e
        go_wp2
        go_ret
        exact ⟨⟨_, rfl, Or.inl ⟨by omega, decide_eq_true ⟨k, hlt, E.out.symm⟩⟩⟩, rfl⟩
      · have hb : (x == Z k) = false := by simp [e]
        have E := hid e
        clear e
        go_wp2
        go_roundw
        case rel => exact ⟨k + 1, by omega, by go_num, trivial, hid (fun j hj => by
          by_cases e : j = k
          · subst e; exact fun h => E.out h.symm
          · exact H.out j (by omega))⟩
        case measure => simp [intOf]; omega
    · go_wp2
      go_ret
      exact ⟨⟨_, rfl, Or.inr ⟨rfl, has_no (fun i hi => H.out i (by omega))⟩⟩, rfl⟩

theorem conI (a : Option Addr) (n c : Nat) (Z : Nat → Int) (x : Int) (w : World) (hn : n ≤ 140737488355328) (h : Row w a n Z) :
    Calls Try.prog 42 #[.slice a n c, .int .i64 x] w fun e w' => e = .returned (.bool (has n Z x)) ∧ w' = w := by
  have C := hid (idxI a n c Z x w hn h)
  clear h
  go_enter Try.func42, Try.ntmps42
  go_wp2_with fail
  refine C.out.mono ?_
  rintro e w' ⟨⟨r, rfl, hr⟩, rfl⟩
  have HR := hid hr
  clear hr
  go_wp2
  go_ret
  refine ⟨ret_bool ?_, rfl⟩
  rcases HR.out with ⟨h1, h2⟩ | ⟨rfl, h2⟩
  · rw [h2]; simp [h1]
  · rw [h2]; rfl

end Go.Proofs.Ytgahdclbaifcbaa

