/- Rows of letters and of bools in memory; a word; what Check says of one. Check of a word, the program's and the document's; the letter at a place, likewise. The leaves: At, next, the closures. More closures: until, release, the atom, the next place. -/
import Derived.Deep.OwnRows
import Derived.Test.YtmdpbaobihdgkaaGreatDoorTeaJ
import Derived.Deep.RegionHeld3
import Derived.Laws.BitsLemmas
namespace Go.Proofs.YtmdpbaobihdgkaaGreatDoor
open Go.RowKit

/-- In w the slice at a, of n cells, holds the letters Z. -/
def RowU (w : World) (a : Option Addr) (n : Nat) (Z : Nat → Int) : Prop :=
  ∃ b o, (0 < n → a = some ⟨b, o, none⟩) ∧ ∀ i, i < n → w.cell? ⟨b, o + i, none⟩ = some (.int .u64 (Z i))

/-- .. the bools F. -/
def RowB (w : World) (a : Option Addr) (n : Nat) (F : Nat → Bool) : Prop :=
  ∃ b o, (0 < n → a = some ⟨b, o, none⟩) ∧ ∀ i, i < n → w.cell? ⟨b, o + i, none⟩ = some (.bool (F i))

theorem RowU.below {w w' : World} {a : Option Addr} {n : Nat} {Z : Nat → Int} (h : RowU w a n Z) (hb : Below w.heap.size w w') : RowU w' a n Z := by
  obtain ⟨b, o, h1, h2⟩ := h
  exact ⟨b, o, h1, fun i hi => below_cell hb (Nat.le_refl _) (h2 i hi)⟩
theorem RowB.below {w w' : World} {a : Option Addr} {n : Nat} {F : Nat → Bool} (h : RowB w a n F) (hb : Below w.heap.size w w') : RowB w' a n F := by
  obtain ⟨b, o, h1, h2⟩ := h
  exact ⟨b, o, h1, fun i hi => below_cell hb (Nat.le_refl _) (h2 i hi)⟩
theorem RowU.congr {w : World} {a : Option Addr} {n : Nat} {Z Y : Nat → Int} (h : RowU w a n Z) (e : ∀ i, i < n → Z i = Y i) : RowU w a n Y := by
  obtain ⟨b, o, h1, h2⟩ := h
  exact ⟨b, o, h1, fun i hi => by rw [← e i hi]; exact h2 i hi⟩
/-- A word in memory. -/
structure Wd (w : World) (sa : Option Addr) (s : Nat) (la : Option Addr) (m : Nat) (S L : Nat → Int) : Prop where
  stem : RowU w sa s S
  loop : RowU w la m L
  s47 : s ≤ 140737488355328
  m47 : m ≤ 140737488355328
  su : ∀ i, i < s → 0 ≤ S i ∧ S i < 18446744073709551616
  lu : ∀ i, i < m → 0 ≤ L i ∧ L i < 18446744073709551616

theorem Wd.below {w w' : World} {sa : Option Addr} {s : Nat} {la : Option Addr} {m : Nat} {S L : Nat → Int} (h : Wd w sa s la m S L) (hb : Below w.heap.size w w') : Wd w' sa s la m S L :=
  ⟨h.stem.below hb, h.loop.below hb, h.s47, h.m47, h.su, h.lu⟩

theorem Wd.lu64 {w : World} {sa : Option Addr} {s : Nat} {la : Option Addr} {m : Nat} {S L : Nat → Int} (h : Wd w sa s la m S L) (hm : 0 < m) (i : Nat) : 0 ≤ ltr s m S L i ∧ ltr s m S L i < 18446744073709551616 := by
  unfold ltr
  by_cases e : i < s
  · rw [if_pos e]; exact h.su i e
  · rw [if_neg e]; exact h.lu _ (Nat.mod_lt _ hm)

/-- What Check says of a word. -/
def wchk (s m : Nat) : Int := if 60 < s + m then 2 else if m = 0 then 1 else 0

theorem wchk_ok {s m : Nat} (h : wchk s m = 0) : s + m ≤ 60 ∧ 0 < m := by
  unfold wchk at h
  split at h
  · cases h
  · split at h
    · cases h
    · omega
/-- The atoms of a place. -/
def atm (s m : Nat) (S L : Nat → Int) (i : Nat) (n : Int) : Bool := decide (ltr s m S L i / 2 ^ n.toNat % 2 = 1)

theorem atm_per (s m : Nat) (S L : Nat → Int) (n : Int) : Per s m (fun i => atm s m S L i n) := fun i hi => by
  show atm s m S L (i + m) n = atm s m S L i n
  unfold atm
  rw [ltr_per s m S L i hi]

end Go.Proofs.YtmdpbaobihdgkaaGreatDoor

namespace Go.Proofs.YtmdpbaobihdgkaaGreatDoor
open Go.RowKit

set_option maxHeartbeats 400000 in
theorem wcheck_any (sa : Option Addr) (s sc : Nat) (la : Option Addr) (m lc : Nat) (w : World) (hs : s ≤ 140737488355328) (hm : m ≤ 140737488355328) :
    Calls Tryz.prog 11 #[.agg #[.slice sa s sc, .slice la m lc]] w fun e w' => e = .returned (.int .i64 (wchk s m)) ∧ Below w.heap.size w w' := by
  by_cases h1 : 60 < s + m
  · have E : Hid (wchk s m = 2) := if_pos h1
    have d1 : decide ((60 : Int) < (s : Int) + m) = true := decide_eq_true (by omega)
    go_enter Tryz.func11, Tryz.ntmps11
    go_wp2
    go_ret
    exact ⟨ret_int E.out.symm, box_below _ _⟩
  by_cases h2 : m = 0
  · have E : Hid (wchk s m = 1) := (if_neg h1).trans (if_pos h2)
    subst h2
    go_enter Tryz.func11, Tryz.ntmps11
    go_wp2
    go_ret
    exact ⟨ret_int E.out.symm, box_below _ _⟩
  · have E : Hid (wchk s m = 0) := (if_neg h1).trans (if_neg h2)
    have h2b : ((m : Int) == 0) = false := beq_eq_false_iff_ne.2 (by omega)
    go_enter Tryz.func11, Tryz.ntmps11
    go_wp2
    go_ret
    exact ⟨ret_int E.out.symm, box_below _ _⟩

end Go.Proofs.YtmdpbaobihdgkaaGreatDoor

namespace Go.Proofs.YtmdpbaobihdgkaaGreatDoor
open Go.RowKit

/-- The place behind a place. -/
def nx (n again p : Nat) : Nat := if p + 1 < n then p + 1 else again

theorem next_any (la : Option Addr) (n lc again p : Nat) (w : World) (_hn : n ≤ 60) (hp : p < 60) :
    Calls Tryz.prog 96 #[.agg #[.slice la n lc, .int .i64 again], .int .i64 p] w fun e w' => e = .returned (.int .i64 (nx n again p)) ∧ Below w.heap.size w w' := by
  unfold nx
  by_cases h : p + 1 < n
  · rw [if_pos h]
    go_enter Tryz.func96, Tryz.ntmps96
    go_wp2
    go_ret
    exact ⟨by first | rfl | (exact ret_int (by omega)), box_below _ _⟩
  · rw [if_neg h]
    go_enter Tryz.func96, Tryz.ntmps96
    go_wp2
    go_ret
    exact ⟨rfl, box_below _ _⟩

theorem all1_any (b : Nat) (v : Bool) (p : Int) (w : World) (h : w.cell? ⟨b, 0, none⟩ = some (.bool v)) :
    Calls Tryz.prog 128 #[.int .i64 p, .pointer (some ⟨b, 0, none⟩)] w fun e w' => e = .returned (.bool v) ∧ w' = w := by
  go_enter Tryz.func128, Tryz.ntmps128
  go_wp2
  go_ret
  exact ⟨rfl, rfl⟩

/-- A list of bools for each Kid, in block kb of pointers ka. -/
structure Kb (w : World) (a : Option Addr) (c n : Nat) (K : Nat → Nat → Bool) : Prop where
  row : ∃ b o, (0 < c → a = some ⟨b, o, none⟩) ∧ ∀ i, i < c → ∃ ai ci, w.cell? ⟨b, o + i, none⟩ = some (.slice ai n ci) ∧ RowB w ai n (K i)

theorem Kb.below {w w' : World} {a : Option Addr} {c n : Nat} {K : Nat → Nat → Bool} (h : Kb w a c n K) (hb : Below w.heap.size w w') : Kb w' a c n K := by
  obtain ⟨b, o, h1, h2⟩ := h.row
  refine ⟨b, o, h1, fun i hi => ?_⟩
  obtain ⟨ai, ci, g1, g2⟩ := h2 i hi
  exact ⟨ai, ci, below_cell hb (Nat.le_refl _) g1, g2.below hb⟩

/-- The cells of the Kid i at the place p. -/
theorem Kb.at {w : World} {a : Option Addr} {c n : Nat} {K : Nat → Nat → Bool} (h : Kb w a c n K) (hc : 0 < c) : ∃ b o, a = some ⟨b, o, none⟩ ∧ ∀ i, i < c → ∃ ci ai, w.cell? ⟨b, o + i, none⟩ = some (.slice ai n ci) ∧ ∀ p, p < n → ∃ bi oi, ai = some ⟨bi, oi, none⟩ ∧ w.cell? ⟨bi, oi + p, none⟩ = some (.bool (K i p)) := by
  obtain ⟨b, o, h1, h2⟩ := h.row
  refine ⟨b, o, h1 hc, fun i hi => ?_⟩
  obtain ⟨ai, ci, g1, bi, oi, g2, g3⟩ := h2 i hi
  exact ⟨ci, ai, g1, fun p hp => ⟨bi, oi, g2 (by omega), g3 p hp⟩⟩

set_option maxHeartbeats 400000 in
theorem now2_any {w : World} {kb : Nat} {a : Option Addr} {c cc n : Nat} {K : Nat → Nat → Bool} (hk : w.cell? ⟨kb, 0, none⟩ = some (.slice a c cc)) (h : Kb w a c n K) (hc : 0 < c) (_hn : n ≤ 60) (p : Nat) (hp : p < n) :
    Calls Tryz.prog 130 #[.int .i64 p, .pointer (some ⟨kb, 0, none⟩)] w fun e w' => e = .returned (.bool (!K 0 p)) ∧ w' = w := by
  obtain ⟨b, o, rfl, h2⟩ := h.at hc
  obtain ⟨ci, ai, g1, g2⟩ := h2 0 hc
  obtain ⟨bi, oi, rfl, g3⟩ := g2 p hp
  rw [Nat.add_zero] at g1
  clear h h2 g2
  go_enter Tryz.func130, Tryz.ntmps130
  go_wp2
  go_ret
  exact ⟨rfl, rfl⟩

set_option maxHeartbeats 400000 in
theorem now3_any {w : World} {kb : Nat} {a : Option Addr} {c cc n : Nat} {K : Nat → Nat → Bool} (hk : w.cell? ⟨kb, 0, none⟩ = some (.slice a c cc)) (h : Kb w a c n K) (hc : 1 < c) (_hn : n ≤ 60) (p : Nat) (hp : p < n) :
    Calls Tryz.prog 131 #[.int .i64 p, .pointer (some ⟨kb, 0, none⟩)] w fun e w' => e = .returned (.bool (K 0 p && K 1 p)) ∧ w' = w := by
  obtain ⟨b, o, rfl, h2⟩ := h.at (by omega)
  obtain ⟨ci, ai, g1, g2⟩ := h2 0 (by omega)
  obtain ⟨bi, oi, rfl, g3⟩ := g2 p hp
  obtain ⟨ci', ai', g1', g2'⟩ := h2 1 (by omega)
  obtain ⟨bi', oi', rfl, g3'⟩ := g2' p hp
  rw [Nat.add_zero] at g1
  clear h h2 g2 g2'
  generalize K 0 p = x at *
  generalize K 1 p = y at *
  cases x <;> (go_enter Tryz.func131, Tryz.ntmps131; go_wp2; go_ret; exact ⟨rfl, rfl⟩)

set_option maxHeartbeats 400000 in
theorem now4_any {w : World} {kb : Nat} {a : Option Addr} {c cc n : Nat} {K : Nat → Nat → Bool} (hk : w.cell? ⟨kb, 0, none⟩ = some (.slice a c cc)) (h : Kb w a c n K) (hc : 1 < c) (_hn : n ≤ 60) (p : Nat) (hp : p < n) :
    Calls Tryz.prog 132 #[.int .i64 p, .pointer (some ⟨kb, 0, none⟩)] w fun e w' => e = .returned (.bool (K 0 p || K 1 p)) ∧ w' = w := by
  obtain ⟨b, o, rfl, h2⟩ := h.at (by omega)
  obtain ⟨ci, ai, g1, g2⟩ := h2 0 (by omega)
  obtain ⟨bi, oi, rfl, g3⟩ := g2 p hp
  obtain ⟨ci', ai', g1', g2'⟩ := h2 1 (by omega)
  obtain ⟨bi', oi', rfl, g3'⟩ := g2' p hp
  rw [Nat.add_zero] at g1
  clear h h2 g2 g2'
  generalize K 0 p = x at *
  generalize K 1 p = y at *
  cases x <;> (go_enter Tryz.func132, Tryz.ntmps132; go_wp2; go_ret; exact ⟨rfl, rfl⟩)

end Go.Proofs.YtmdpbaobihdgkaaGreatDoor

namespace Go.Proofs.YtmdpbaobihdgkaaGreatDoor
open Go.RowKit

theorem wraps_u64 : ∀ n : Int, 0 ≤ n → n < 2 ^ 64 → IntKind.u64.wrap n = n := fun n h0 h1 => by
  have : IntKind.u64.wrap n = n % 18446744073709551616 := by simp [IntKind.wrap, IntKind.bits, IntKind.signed]
  rw [this]
  exact Int.emod_eq_of_lt h0 h1
theorem and_one {y : Int} (h0 : 0 ≤ y) (h1 : y < 18446744073709551616) : bits .and .u64 y 1 = y % 2 := bits_mask .u64 64 (by decide) wraps_u64 1 (by decide) y h0 h1
theorem shr_u {z : Int} (h0 : 0 ≤ z) (h1 : z < 18446744073709551616) (k : Nat) : 0 ≤ z / 2 ^ k ∧ z / 2 ^ k < 18446744073709551616 :=
  ⟨Int.ediv_nonneg h0 (Int.pow_nonneg (by decide)), Int.lt_of_le_of_lt (Int.ediv_le_self _ h0) h1⟩

theorem below_of_drewB {w w' : World} (h : Below w.drew.heap.size w.drew w') : Below w.heap.size w w' := ⟨h.os, h.tape, h.output, h.size, h.block⟩

set_option maxHeartbeats 400000 in
theorem until1_any {w : World} {fb gb : Nat} {fa ga : Option Addr} {n fc gc : Nat} {F G : Nat → Bool} (hf : w.cell? ⟨fb, 0, none⟩ = some (.slice fa n fc)) (hg : w.cell? ⟨gb, 0, none⟩ = some (.slice ga n gc)) (hF : RowB w fa n F) (hG : RowB w ga n G) (p : Nat) (hp : p < n) (v : Bool) :
    Calls Tryz.prog 126 #[.int .i64 p, .bool v, .pointer (some ⟨gb, 0, none⟩), .pointer (some ⟨fb, 0, none⟩)] w fun e w' => e = .returned (.bool (G p || (F p && v))) ∧ w' = w := by
  obtain ⟨b1, o1, h1, h2⟩ := hF
  obtain ⟨b2, o2, h3, h4⟩ := hG
  obtain rfl := h1 (by omega)
  obtain rfl := h3 (by omega)
  have e1 := h2 p hp
  have e2 := h4 p hp
  clear h1 h2 h3 h4
  generalize F p = x at *
  generalize G p = y at *
  cases y <;> cases x <;> (go_enter Tryz.func126, Tryz.ntmps126; go_wp2; go_ret; exact ⟨rfl, rfl⟩)

set_option maxHeartbeats 400000 in
theorem release1_any {w : World} {fb gb : Nat} {fa ga : Option Addr} {n fc gc : Nat} {F G : Nat → Bool} (hf : w.cell? ⟨fb, 0, none⟩ = some (.slice fa n fc)) (hg : w.cell? ⟨gb, 0, none⟩ = some (.slice ga n gc)) (hF : RowB w fa n F) (hG : RowB w ga n G) (p : Nat) (hp : p < n) (v : Bool) :
    Calls Tryz.prog 127 #[.int .i64 p, .bool v, .pointer (some ⟨gb, 0, none⟩), .pointer (some ⟨fb, 0, none⟩)] w fun e w' => e = .returned (.bool (G p && (F p || v))) ∧ w' = w := by
  obtain ⟨b1, o1, h1, h2⟩ := hF
  obtain ⟨b2, o2, h3, h4⟩ := hG
  obtain rfl := h1 (by omega)
  obtain rfl := h3 (by omega)
  have e1 := h2 p hp
  have e2 := h4 p hp
  clear h1 h2 h3 h4
  generalize F p = x at *
  generalize G p = y at *
  cases y <;> cases x <;> (go_enter Tryz.func127, Tryz.ntmps127; go_wp2; go_ret; exact ⟨rfl, rfl⟩)

set_option maxHeartbeats 400000 in
theorem atom1_any {w : World} {rb fb : Nat} {la : Option Addr} {n lc : Nat} {Z : Nat → Int} {x : Int} (hr : w.cell? ⟨rb, 0, none⟩ = some (.slice la n lc)) (hx : w.cell? ⟨fb, 1, none⟩ = some (.int .i64 x)) (hZ : RowU w la n Z) (hu : ∀ i, i < n → 0 ≤ Z i ∧ Z i < 18446744073709551616) (hx0 : 0 ≤ x) (hx1 : x ≤ 63) (p : Nat) (hp : p < n) :
    Calls Tryz.prog 129 #[.int .i64 p, .pointer (some ⟨rb, 0, none⟩), .pointer (some ⟨fb, 0, none⟩)] w fun e w' => e = .returned (.bool (decide (Z p / 2 ^ x.toNat % 2 = 1))) ∧ ∃ q, w' = w.drewN q := by
  obtain ⟨b1, o1, h1, h2⟩ := hZ
  obtain rfl := h1 (by omega)
  have e1 := h2 p hp
  obtain ⟨u0, u1⟩ := hu p hp
  clear h1 h2 hu
  generalize Z p = z at *
  have HA := hid (and_one (shr_u u0 u1 x.toNat).1 (shr_u u0 u1 x.toNat).2)
  clear u0 u1
  go_enter Tryz.func129, Tryz.ntmps129
  go_wp2
  go_quiet (fail)
  go_wp2
  go_ret
  refine ⟨ret_bool ?_, _, rfl⟩
  rw [HA.out]
  rfl

set_option maxHeartbeats 400000 in
theorem next1_any {w : World} {kb rb : Nat} {a : Option Addr} {c cc n : Nat} {K : Nat → Nat → Bool} {la : Option Addr} {lc again : Nat} (hk : w.cell? ⟨kb, 0, none⟩ = some (.slice a c cc)) (h : Kb w a c n K) (hc : 0 < c) (hn : n ≤ 60)
    (hr : w.cell? ⟨rb, 0, none⟩ = some (.slice la n lc)) (hr1 : w.cell? ⟨rb, 1, none⟩ = some (.int .i64 again)) (ha : again < n) (p : Nat) (hp : p < n) :
    Calls Tryz.prog 95 #[.int .i64 p, .pointer (some ⟨kb, 0, none⟩), .pointer (some ⟨rb, 0, none⟩)] w fun e w' => e = .returned (.bool (K 0 (nx n again p))) ∧ Below w.heap.size w w' := by
  obtain ⟨b, o, rfl, h2⟩ := h.at hc
  obtain ⟨ci, ai, g1, g2⟩ := h2 0 hc
  have hq : nx n again p < n := by unfold nx; split <;> omega
  obtain ⟨bi, oi, rfl, g3⟩ := g2 _ hq
  rw [Nat.add_zero] at g1
  have C : Hid (∀ u, Calls Tryz.prog 96 #[.agg #[.slice la n lc, .int .i64 again], .int .i64 p] u fun e w' => e = .returned (.int .i64 (nx n again p)) ∧ Below u.heap.size u w') := fun u => next_any la n lc again p u hn (by omega)
  clear h h2 g2
  generalize nx n again p = q at *
  have hq0 : (q : Int) < n := by omega
  have k1 := World.block_lt_of_cell? _ _ hk
  have k2 := World.block_lt_of_cell? _ _ g1
  have k3 := World.block_lt_of_cell? _ _ g3
  have k4 := World.block_lt_of_cell? _ _ hr
  go_enter Tryz.func95, Tryz.ntmps95
  go_wp2
  go_region_held3 (fun z => z.cell? ⟨kb, 0, none⟩ = some (.slice (some ⟨b, o, none⟩) c cc) ∧ z.cell? ⟨b, o, none⟩ = some (.slice (some ⟨bi, oi, none⟩) n ci) ∧ z.cell? ⟨bi, oi + q, none⟩ = some (.bool (K 0 q)) ∧ z.cell? ⟨rb, 0, none⟩ = some (.slice la n lc) ∧ z.cell? ⟨rb, 1, none⟩ = some (.int .i64 again)) (first | go_keep)
    (first | (go_at_call 96; refine (C.out _).mono ?_; rintro e w3 ⟨rfl, hb3⟩; have f0 := below_cell hb3 (Nat.le_refl _) hk; have f1 := below_cell hb3 (Nat.le_refl _) g1; have f2 := below_cell hb3 (Nat.le_refl _) g3; have f3 := below_cell hb3 (Nat.le_refl _) hr; have f4 := below_cell hb3 (Nat.le_refl _) hr1) | fail)
  have HB := hid (below_of_drewB hb3)
  clear hb3
  go_wp2
  go_ret
  exact ⟨rfl, HB.out⟩

end Go.Proofs.YtmdpbaobihdgkaaGreatDoor
