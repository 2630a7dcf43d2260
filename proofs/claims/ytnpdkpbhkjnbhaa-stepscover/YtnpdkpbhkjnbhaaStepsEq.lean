/- slices.Equal, Contains, ContainsFunc over steps. -/
import Derived.Test.YtnpdkpbhkjnbhaaStepsOf2
namespace Go.Proofs.Ytnpdkpbhkjnbhaa
open Go.RowKit

set_option maxHeartbeats 1000000 in
theorem equalSt_any (a a' : Option Addr) (n c c' : Nat) (X : Nat → St3) (w : World) (hn : n ≤ 1000) (h : Sts w a n X) (h' : Sts w a' n X) :
    Calls Try.prog 7 #[.slice a n c, .slice a' n c'] w fun e w' => e = .returned (.bool true) ∧ Below w.heap.size w w' := by
  obtain ⟨b, o, ha, hc⟩ := h
  obtain ⟨b', o', ha', hc'⟩ := h'
  go_enter Try.func7, Try.ntmps7
  go_wp2
  go_loopw [13] (fun i wr => ∃ k : Nat, k ≤ n ∧ i = .int .i64 k ∧ ∃ q, wr = w.drewN q) (fun i _ => n - (intOf i).toNat)
  case atStart => exact ⟨0, Nat.zero_le _, rfl, 0, rfl⟩
  case round =>
    obtain ⟨k, hk, rfl, q, rfl⟩ := hrel
    by_cases hlt : k < n
    · obtain rfl := ha (by omega)
      obtain rfl := ha' (by omega)
      obtain ⟨h1, h2, h3⟩ := hc k hlt
      obtain ⟨g1, g2, g3⟩ := hc' k hlt
      have hzk : (k : Int) < n := by omega
      generalize (X k).1 = x1 at *
      generalize (X k).2.1 = x2 at *
      generalize (X k).2.2 = x3 at *
      clear hc hc' ha ha'
      go_wp2
      go_quiet (fail)
      go_wp2
      go_roundw
      case rel => exact ⟨k + 1, by omega, by go_num, _, rfl⟩
      case measure => simp [intOf]; omega
    · go_wp2
      go_ret
      exact ⟨rfl, below_drewn (Below.refl _ _) q⟩

end Go.Proofs.Ytnpdkpbhkjnbhaa
