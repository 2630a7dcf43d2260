/- Turn and Turned, each by its contract: both make the graph turned round, in new memory. -/
import Derived.Test.YtgahdclbaifcbaaFam
namespace Go.Proofs.Ytgahdclbaifcbaa
open Go.RowKit

theorem check_ok (ga : Option Addr) (G gc : Nat) (L : Nat → Nat) (Z : Nat → Nat → Int) (w : World) (hL : ∀ r, r < G → L r ≤ 140737488355328) (h : Gr w ga G L Z) (h0 : errG G L Z = 0) :
    Calls Try.prog 46 #[.slice ga G gc] w fun e w' => e = .returned (.int .i64 0) ∧ w' = w := by
  have := check_any ga G gc L Z w hL h
  rwa [h0] at this

theorem errG_zero {G : Nat} {L : Nat → Nat} {Z : Nat → Nat → Int} (h : errG G L Z = 0) : G ≤ 20000 ∧ ∀ r, r < G → ∀ i, i < L r → 0 ≤ Z r i ∧ Z r i < G := by
  unfold errG at h
  by_cases h1 : 20000 < G
  · rw [if_pos h1] at h; cases h
  · rw [if_neg h1] at h
    by_cases h2 : okG G L Z = true
    · exact ⟨by omega, okG_all h2⟩
    · rw [if_neg h2] at h; cases h

end Go.Proofs.Ytgahdclbaifcbaa

