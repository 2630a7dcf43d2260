/- The leaves: At, next, the closures. -/
import Derived.Test.YtinacgkiigbmjaaDoorWck
namespace Go.Proofs.YtinacgkiigbmjaaDoor
open Go.RowKit

theorem ret_tup {a b : Value} {c d : Int} {k : IntKind} (h1 : a = b) (h2 : c = d) : Ending.returned (.tuple #[a, .int k c]) = .returned (.tuple #[b, .int k d]) := by rw [h1, h2]

/-- What At answers. -/
def atV (s m : Nat) (S L : Nat → Int) (i : Int) : Int × Int := if wchk s m ≠ 0 then (0, wchk s m) else if i < 0 then (0, 1) else (ltr s m S L i.toNat, 0)

/-- The place behind a place. -/
def nx (n again p : Nat) : Nat := if p + 1 < n then p + 1 else again

theorem next_any (la : Option Addr) (n lc again p : Nat) (w : World) (_hn : n ≤ 60) (hp : p < 60) :
    Calls Tryd.prog 57 #[.agg #[.slice la n lc, .int .i64 again], .int .i64 p] w fun e w' => e = .returned (.int .i64 (nx n again p)) ∧ Below w.heap.size w w' := by
  unfold nx
  by_cases h : p + 1 < n
  · rw [if_pos h]
    go_enter Tryd.func57, Tryd.ntmps57
    go_wp2
    go_ret
    exact ⟨by first | rfl | (exact ret_int (by omega)), box_below _ _⟩
  · rw [if_neg h]
    go_enter Tryd.func57, Tryd.ntmps57
    go_wp2
    go_ret
    exact ⟨rfl, box_below _ _⟩

theorem all1_any (b : Nat) (v : Bool) (p : Int) (w : World) (h : w.cell? ⟨b, 0, none⟩ = some (.bool v)) :
    Calls Tryd.prog 67 #[.int .i64 p, .pointer (some ⟨b, 0, none⟩)] w fun e w' => e = .returned (.bool v) ∧ w' = w := by
  go_enter Tryd.func67, Tryd.ntmps67
  go_wp2
  go_ret
  exact ⟨rfl, rfl⟩

/-- A list of bools for each Kid, in block kb of pointers ka. -/
structure Kb (w : World) (a : Option Addr) (c n : Nat) (K : Nat → Nat → Bool) : Prop where
  row : ∃ b o, (0 < c → a = some ⟨b, o, none⟩) ∧ ∀ i, i < c → ∃ ai ci, w.cell? ⟨b, o + i, none⟩ = some (.slice ai n ci) ∧ RowB w ai n (K i)

theorem Kb.below {w w' : World} {a : Option Addr} {c n : Nat} {K : Nat → Nat → Bool} (h : Kb w a c n K) (hb : Below w.heap.size w w') : Kb w' a c n K := by
  obtain ⟨b, o, h1, h2⟩ := h.row
  refine ⟨b, o, h1, fun i hi => ?_⟩
  obtain ⟨ai, ci, g1, g2⟩ := h2 i hi
  exact ⟨ai, ci, below_cell hb (Nat.le_refl _) g1, g2.below hb⟩

/-- The cells of the Kid i at the place p. -/
theorem Kb.at {w : World} {a : Option Addr} {c n : Nat} {K : Nat → Nat → Bool} (h : Kb w a c n K) (hc : 0 < c) : ∃ b o, a = some ⟨b, o, none⟩ ∧ ∀ i, i < c → ∃ ci ai, w.cell? ⟨b, o + i, none⟩ = some (.slice ai n ci) ∧ ∀ p, p < n → ∃ bi oi, ai = some ⟨bi, oi, none⟩ ∧ w.cell? ⟨bi, oi + p, none⟩ = some (.bool (K i p)) := by
  obtain ⟨b, o, h1, h2⟩ := h.row
  refine ⟨b, o, h1 hc, fun i hi => ?_⟩
  obtain ⟨ai, ci, g1, bi, oi, g2, g3⟩ := h2 i hi
  exact ⟨ci, ai, g1, fun p hp => ⟨bi, oi, g2 (by omega), g3 p hp⟩⟩

set_option maxHeartbeats 400000 in
theorem now2_any {w : World} {kb : Nat} {a : Option Addr} {c cc n : Nat} {K : Nat → Nat → Bool} (hk : w.cell? ⟨kb, 0, none⟩ = some (.slice a c cc)) (h : Kb w a c n K) (hc : 0 < c) (_hn : n ≤ 60) (p : Nat) (hp : p < n) :
    Calls Tryd.prog 69 #[.int .i64 p, .pointer (some ⟨kb, 0, none⟩)] w fun e w' => e = .returned (.bool (!K 0 p)) ∧ w' = w := by
  obtain ⟨b, o, rfl, h2⟩ := h.at hc
  obtain ⟨ci, ai, g1, g2⟩ := h2 0 hc
  obtain ⟨bi, oi, rfl, g3⟩ := g2 p hp
  rw [Nat.add_zero] at g1
  clear h h2 g2
  go_enter Tryd.func69, Tryd.ntmps69
  go_wp2
  go_ret
  exact ⟨rfl, rfl⟩

set_option maxHeartbeats 400000 in
theorem now3_any {w : World} {kb : Nat} {a : Option Addr} {c cc n : Nat} {K : Nat → Nat → Bool} (hk : w.cell? ⟨kb, 0, none⟩ = some (.slice a c cc)) (h : Kb w a c n K) (hc : 1 < c) (_hn : n ≤ 60) (p : Nat) (hp : p < n) :
    Calls Tryd.prog 70 #[.int .i64 p, .pointer (some ⟨kb, 0, none⟩)] w fun e w' => e = .returned (.bool (K 0 p && K 1 p)) ∧ w' = w := by
  obtain ⟨b, o, rfl, h2⟩ := h.at (by omega)
  obtain ⟨ci, ai, g1, g2⟩ := h2 0 (by omega)
  obtain ⟨bi, oi, rfl, g3⟩ := g2 p hp
  obtain ⟨ci', ai', g1', g2'⟩ := h2 1 (by omega)
  obtain ⟨bi', oi', rfl, g3'⟩ := g2' p hp
  rw [Nat.add_zero] at g1
  clear h h2 g2 g2'
  generalize K 0 p = x at *
  generalize K 1 p = y at *
  cases x <;> (go_enter Tryd.func70, Tryd.ntmps70; go_wp2; go_ret; exact ⟨rfl, rfl⟩)

set_option maxHeartbeats 400000 in
theorem now4_any {w : World} {kb : Nat} {a : Option Addr} {c cc n : Nat} {K : Nat → Nat → Bool} (hk : w.cell? ⟨kb, 0, none⟩ = some (.slice a c cc)) (h : Kb w a c n K) (hc : 1 < c) (_hn : n ≤ 60) (p : Nat) (hp : p < n) :
    Calls Tryd.prog 71 #[.int .i64 p, .pointer (some ⟨kb, 0, none⟩)] w fun e w' => e = .returned (.bool (K 0 p || K 1 p)) ∧ w' = w := by
  obtain ⟨b, o, rfl, h2⟩ := h.at (by omega)
  obtain ⟨ci, ai, g1, g2⟩ := h2 0 (by omega)
  obtain ⟨bi, oi, rfl, g3⟩ := g2 p hp
  obtain ⟨ci', ai', g1', g2'⟩ := h2 1 (by omega)
  obtain ⟨bi', oi', rfl, g3'⟩ := g2' p hp
  rw [Nat.add_zero] at g1
  clear h h2 g2 g2'
  generalize K 0 p = x at *
  generalize K 1 p = y at *
  cases x <;> (go_enter Tryd.func71, Tryd.ntmps71; go_wp2; go_ret; exact ⟨rfl, rfl⟩)

end Go.Proofs.YtinacgkiigbmjaaDoor
