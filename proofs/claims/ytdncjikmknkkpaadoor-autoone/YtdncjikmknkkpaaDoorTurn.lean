/- Turn and Turned, each by its contract: both make the graph turned round, in new memory. -/
import Derived.Test.YtdncjikmknkkpaaDoorFam
namespace Go.Proofs.YtdncjikmknkkpaaDoor
open Go.RowKit

theorem check_ok (ga : Option Addr) (G gc : Nat) (L : Nat → Nat) (Z : Nat → Nat → Int) (w : World) (hL : ∀ r, r < G → L r ≤ 140737488355328) (h : Gr w ga G L Z) (h0 : errG G L Z = 0) :
    Calls Tryd.prog 62 #[.slice ga G gc] w fun e w' => e = .returned (.int .i64 0) ∧ w' = w := by
  have := check_any ga G gc L Z w hL h
  rwa [h0] at this

theorem errG_zero {G : Nat} {L : Nat → Nat} {Z : Nat → Nat → Int} (h : errG G L Z = 0) : G ≤ 20000 ∧ ∀ r, r < G → ∀ i, i < L r → 0 ≤ Z r i ∧ Z r i < G := by
  unfold errG at h
  by_cases h1 : 20000 < G
  · rw [if_pos h1] at h; cases h
  · rw [if_neg h1] at h
    by_cases h2 : okG G L Z = true
    · exact ⟨by omega, okG_all h2⟩
    · rw [if_neg h2] at h; cases h

/-- The rows while Turned makes them: those ahead of bb whole, row bb as far as a. -/
def tm (L : Nat → Nat) (Z : Nat → Nat → Int) (G bb a j : Nat) : List Int := if j < bb then tl L Z G j else if j = bb then tl L Z a j else []

theorem tm_start (L : Nat → Nat) (Z : Nat → Nat → Int) (G j : Nat) : tm L Z G 0 0 j = [] := by
  unfold tm
  rw [if_neg (Nat.not_lt_zero _)]
  by_cases h : j = 0
  · rw [if_pos h]; rfl
  · rw [if_neg h]

theorem tm_end (L : Nat → Nat) (Z : Nat → Nat → Int) (G j : Nat) (h : j < G) : tm L Z G G 0 j = tl L Z G j := by unfold tm; rw [if_pos h]

theorem tm_next (L : Nat → Nat) (Z : Nat → Nat → Int) (G bb j : Nat) : tm L Z G bb G j = tm L Z G (bb + 1) 0 j := by
  unfold tm
  by_cases h : j < bb
  · rw [if_pos h, if_pos (by omega)]
  · rw [if_neg h]
    by_cases e : j = bb
    · rw [if_pos e, if_pos (by omega)]
    · rw [if_neg e, if_neg (by omega)]
      by_cases e2 : j = bb + 1
      · rw [if_pos e2]; rfl
      · rw [if_neg e2]

theorem tm_at (L : Nat → Nat) (Z : Nat → Nat → Int) (G bb a : Nat) : tm L Z G bb a bb = tl L Z a bb := by unfold tm; rw [if_neg (Nat.lt_irrefl _), if_pos rfl]

theorem tm_skip (L : Nat → Nat) (Z : Nat → Nat → Int) (G bb a : Nat) (h : has (L a) (Z a) bb = false) (j : Nat) : tm L Z G bb a j = tm L Z G bb (a + 1) j := by
  unfold tm
  by_cases e : j = bb
  · subst e; simp [tl_succ, h]
  · simp [e]

theorem tm_new (L : Nat → Nat) (Z : Nat → Nat → Int) (G bb a : Nat) (h : has (L a) (Z a) bb = true) (j : Nat) :
    (if j = bb then tm L Z G bb a bb ++ [(a : Int)] else tm L Z G bb a j) = tm L Z G bb (a + 1) j := by
  unfold tm
  by_cases e : j = bb
  · subst e; simp [tl_succ, h]
  · simp [e]

end Go.Proofs.YtdncjikmknkkpaaDoor
