/- More closures: until, release, the atom, the next place. -/
import Derived.Test.YtinacgkiigbmjaaDoorCl1
import Derived.Deep.RegionHeld3
import Derived.Laws.BitsLemmas
namespace Go.Proofs.YtinacgkiigbmjaaDoor
open Go.RowKit

theorem wraps_u64 : ∀ n : Int, 0 ≤ n → n < 2 ^ 64 → IntKind.u64.wrap n = n := fun n h0 h1 => by
  have : IntKind.u64.wrap n = n % 18446744073709551616 := by simp [IntKind.wrap, IntKind.bits, IntKind.signed]
  rw [this]
  exact Int.emod_eq_of_lt h0 h1
theorem and_one {y : Int} (h0 : 0 ≤ y) (h1 : y < 18446744073709551616) : bits .and .u64 y 1 = y % 2 := bits_mask .u64 64 (by decide) wraps_u64 1 (by decide) y h0 h1
theorem shr_u {z : Int} (h0 : 0 ≤ z) (h1 : z < 18446744073709551616) (k : Nat) : 0 ≤ z / 2 ^ k ∧ z / 2 ^ k < 18446744073709551616 :=
  ⟨Int.ediv_nonneg h0 (Int.pow_nonneg (by decide)), Int.lt_of_le_of_lt (Int.ediv_le_self _ h0) h1⟩

theorem below_of_drewB {w w' : World} (h : Below w.drew.heap.size w.drew w') : Below w.heap.size w w' := ⟨h.os, h.tape, h.output, h.size, h.block⟩

set_option maxHeartbeats 400000 in
theorem until1_any {w : World} {fb gb : Nat} {fa ga : Option Addr} {n fc gc : Nat} {F G : Nat → Bool} (hf : w.cell? ⟨fb, 0, none⟩ = some (.slice fa n fc)) (hg : w.cell? ⟨gb, 0, none⟩ = some (.slice ga n gc)) (hF : RowB w fa n F) (hG : RowB w ga n G) (p : Nat) (hp : p < n) (v : Bool) :
    Calls Tryd.prog 65 #[.int .i64 p, .bool v, .pointer (some ⟨gb, 0, none⟩), .pointer (some ⟨fb, 0, none⟩)] w fun e w' => e = .returned (.bool (G p || (F p && v))) ∧ w' = w := by
  obtain ⟨b1, o1, h1, h2⟩ := hF
  obtain ⟨b2, o2, h3, h4⟩ := hG
  obtain rfl := h1 (by omega)
  obtain rfl := h3 (by omega)
  have e1 := h2 p hp
  have e2 := h4 p hp
  clear h1 h2 h3 h4
  generalize F p = x at *
  generalize G p = y at *
  cases y <;> cases x <;> (go_enter Tryd.func65, Tryd.ntmps65; go_wp2; go_ret; exact ⟨rfl, rfl⟩)

set_option maxHeartbeats 400000 in
theorem release1_any {w : World} {fb gb : Nat} {fa ga : Option Addr} {n fc gc : Nat} {F G : Nat → Bool} (hf : w.cell? ⟨fb, 0, none⟩ = some (.slice fa n fc)) (hg : w.cell? ⟨gb, 0, none⟩ = some (.slice ga n gc)) (hF : RowB w fa n F) (hG : RowB w ga n G) (p : Nat) (hp : p < n) (v : Bool) :
    Calls Tryd.prog 66 #[.int .i64 p, .bool v, .pointer (some ⟨gb, 0, none⟩), .pointer (some ⟨fb, 0, none⟩)] w fun e w' => e = .returned (.bool (G p && (F p || v))) ∧ w' = w := by
  obtain ⟨b1, o1, h1, h2⟩ := hF
  obtain ⟨b2, o2, h3, h4⟩ := hG
  obtain rfl := h1 (by omega)
  obtain rfl := h3 (by omega)
  have e1 := h2 p hp
  have e2 := h4 p hp
  clear h1 h2 h3 h4
  generalize F p = x at *
  generalize G p = y at *
  cases y <;> cases x <;> (go_enter Tryd.func66, Tryd.ntmps66; go_wp2; go_ret; exact ⟨rfl, rfl⟩)

set_option maxHeartbeats 400000 in
theorem atom1_any {w : World} {rb fb : Nat} {la : Option Addr} {n lc : Nat} {Z : Nat → Int} {x : Int} (hr : w.cell? ⟨rb, 0, none⟩ = some (.slice la n lc)) (hx : w.cell? ⟨fb, 1, none⟩ = some (.int .i64 x)) (hZ : RowU w la n Z) (hu : ∀ i, i < n → 0 ≤ Z i ∧ Z i < 18446744073709551616) (hx0 : 0 ≤ x) (hx1 : x ≤ 63) (p : Nat) (hp : p < n) :
    Calls Tryd.prog 68 #[.int .i64 p, .pointer (some ⟨rb, 0, none⟩), .pointer (some ⟨fb, 0, none⟩)] w fun e w' => e = .returned (.bool (decide (Z p / 2 ^ x.toNat % 2 = 1))) ∧ ∃ q, w' = w.drewN q := by
  obtain ⟨b1, o1, h1, h2⟩ := hZ
  obtain rfl := h1 (by omega)
  have e1 := h2 p hp
  obtain ⟨u0, u1⟩ := hu p hp
  clear h1 h2 hu
  generalize Z p = z at *
  have HA := hid (and_one (shr_u u0 u1 x.toNat).1 (shr_u u0 u1 x.toNat).2)
  clear u0 u1
  go_enter Tryd.func68, Tryd.ntmps68
  go_wp2
  go_quiet (fail)
  go_wp2
  go_ret
  refine ⟨ret_bool ?_, _, rfl⟩
  rw [HA.out]
  rfl

set_option maxHeartbeats 400000 in
theorem next1_any {w : World} {kb rb : Nat} {a : Option Addr} {c cc n : Nat} {K : Nat → Nat → Bool} {la : Option Addr} {lc again : Nat} (hk : w.cell? ⟨kb, 0, none⟩ = some (.slice a c cc)) (h : Kb w a c n K) (hc : 0 < c) (hn : n ≤ 60)
    (hr : w.cell? ⟨rb, 0, none⟩ = some (.slice la n lc)) (hr1 : w.cell? ⟨rb, 1, none⟩ = some (.int .i64 again)) (ha : again < n) (p : Nat) (hp : p < n) :
    Calls Tryd.prog 56 #[.int .i64 p, .pointer (some ⟨kb, 0, none⟩), .pointer (some ⟨rb, 0, none⟩)] w fun e w' => e = .returned (.bool (K 0 (nx n again p))) ∧ Below w.heap.size w w' := by
  obtain ⟨b, o, rfl, h2⟩ := h.at hc
  obtain ⟨ci, ai, g1, g2⟩ := h2 0 hc
  have hq : nx n again p < n := by unfold nx; split <;> omega
  obtain ⟨bi, oi, rfl, g3⟩ := g2 _ hq
  rw [Nat.add_zero] at g1
  have C : Hid (∀ u, Calls Tryd.prog 57 #[.agg #[.slice la n lc, .int .i64 again], .int .i64 p] u fun e w' => e = .returned (.int .i64 (nx n again p)) ∧ Below u.heap.size u w') := fun u => next_any la n lc again p u hn (by omega)
  clear h h2 g2
  generalize nx n again p = q at *
  have hq0 : (q : Int) < n := by omega
  have k1 := World.block_lt_of_cell? _ _ hk
  have k2 := World.block_lt_of_cell? _ _ g1
  have k3 := World.block_lt_of_cell? _ _ g3
  have k4 := World.block_lt_of_cell? _ _ hr
  go_enter Tryd.func56, Tryd.ntmps56
  go_wp2
  go_region_held3 (fun z => z.cell? ⟨kb, 0, none⟩ = some (.slice (some ⟨b, o, none⟩) c cc) ∧ z.cell? ⟨b, o, none⟩ = some (.slice (some ⟨bi, oi, none⟩) n ci) ∧ z.cell? ⟨bi, oi + q, none⟩ = some (.bool (K 0 q)) ∧ z.cell? ⟨rb, 0, none⟩ = some (.slice la n lc) ∧ z.cell? ⟨rb, 1, none⟩ = some (.int .i64 again)) (first | go_keep)
    (first | (go_at_call 57; refine (C.out _).mono ?_; rintro e w3 ⟨rfl, hb3⟩; have f0 := below_cell hb3 (Nat.le_refl _) hk; have f1 := below_cell hb3 (Nat.le_refl _) g1; have f2 := below_cell hb3 (Nat.le_refl _) g3; have f3 := below_cell hb3 (Nat.le_refl _) hr; have f4 := below_cell hb3 (Nat.le_refl _) hr1) | fail)
  have HB := hid (below_of_drewB hb3)
  clear hb3
  go_wp2
  go_ret
  exact ⟨rfl, HB.out⟩

end Go.Proofs.YtinacgkiigbmjaaDoor
