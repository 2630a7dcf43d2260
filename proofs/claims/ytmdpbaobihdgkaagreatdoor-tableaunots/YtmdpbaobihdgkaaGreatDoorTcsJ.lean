/-     -/
import Derived.Test.YtmdpbaobihdgkaaGreatDoorTec
/- tableau: chosen. -/
/- tableau: the closures of truths. -/
/- The leaves: In, areNodes, endsWith, Index, Contains, Goes, Equal, each by its contract. -/
/- Graphs in memory; Graph, Check, Goes, EqualFunc, lists, each by its contract. -/
namespace Go.Proofs.YtmdpbaobihdgkaaGreatDoor
open Go.RowKit
def bt (s p : Nat) : Bool := decide (s / 2 ^ p % 2 = 1)
theorem and_one63 {y : Int} (h0 : 0 ≤ y) (h1 : y < 9223372036854775808) : bits .and .i64 y 1 = y % 2 :=
 bits_mask .i64 63 (by decide) (fun n a b => by rw [IntKind.wrap_i64]; omega) 1 (by decide) y h0 h1
theorem bt_is (s p : Nat) (hs : s < 2 ^ 20) : (bits .and .i64 ((s : Int) / 2 ^ p) 1 == 1) = bt s p := by
 have h : ((s : Int) / 2 ^ p) = ((s / 2 ^ p : Nat) : Int) := by simp
 have hl : s / 2 ^ p ≤ s := Nat.div_le_self _ _
 unfold bt
 rw [h]
 generalize s / 2 ^ p = q at *
 rw [and_one63 (by omega) (by omega)]
 by_cases e : q % 2 = 1
 ·rw [decide_eq_true e, beq_iff_eq]; omega
 ·rw [decide_eq_false e, beq_eq_false_iff_ne]; omega
set_option maxHeartbeats 1000000 in
theorem chosen91 (s p pb : Nat) (u : World) (hs : s < 2 ^ 20) (hp : p < 11) (h : u.cell? ⟨pb, 0, none⟩ = some (.int .i64 (p : Nat))) :
  Calls Tryz.prog 91 #[.int .i64 (s : Nat), .pointer (some ⟨pb, 0, none⟩)] u fun e u' => e = .returned (.bool (bt s p)) ∧ Below u.heap.size u u' := by
 have hp64 : (p : Int) < 64 := by omega
 have hp0 : ¬ (p : Int) < 0 := by omega
 have HE := hid (bt_is s p hs)
 go_enter Tryz.func91, Tryz.ntmps91
 go_wp2
 go_ret
 exact ⟨ret_bool HE.out, Below.refl _ _⟩
theorem Ro.kids {w0 w : World} {a : Option Addr} {l : List Fml} (h : Ro w0 w a l) (hw : Below w0.heap.size w0 w) : ∃ b o, (0 < l.length → a = some ⟨b, o, none⟩) ∧ KidsAt w b o l.length (lf l) := by
 obtain ⟨b, o, h1, h2⟩ := h
 refine ⟨b, o, h1, fun i hi => ?_⟩
 obtain ⟨ai, ci, e1, e2, e3, e4, e5⟩ := h2 i hi
 exact ⟨ai, ci, e1, e2, e3, e4, e5.below hw⟩
theorem Ro.cnt {w0 w : World} {a : Option Addr} {l : List Fml} (h : Ro w0 w a l) : ∀ i, i < l.length → (lf l i).cnt ≤ 9223372036854775807 := by
 obtain ⟨b, o, h1, h2⟩ := h
 intro i hi
 obtain ⟨ai, ci, e1, e2, e3, e4, e5⟩ := h2 i hi
 exact e4
set_option maxHeartbeats 2000000 in
theorem chosen50 {w0 w : World} {E : List Fml} {a : Option Addr} {c : Nat} {t : Fml} {ta : Option Addr} {tc p : Nat} (h : Ch w0 w E a c) (ht : Kds w0 t ta) (htc : t.cnt ≤ 9223372036854775807) (hp : plc t (lf E) E.length = (p : Int)) (hpl : p < E.length) :
  Calls Tryz.prog 50 #[.agg #[.slice a E.length c], .agg #[.int .i64 t.kind, .int .i64 t.num, .slice ta t.cnt tc]] w fun e w' => NewB w (2 ^ E.length) (fun s => bt s p) e w' := by
 obtain ⟨w1, hw1⟩ : ∃ y, y = (w.alloc (.cells #[.slice a E.length c] 53)).alloc (.cells #[.int .i64 t.kind, .int .i64 t.num, .slice ta t.cnt tc] 24) := ⟨_, rfl⟩
 have hB1 : Below w.heap.size w w1 := by rw [hw1]; exact (box_below _ _).alloc (by simp) _
 have h1 := h.below hB1
 obtain ⟨b, o, ha, hk⟩ := h1.ro.kids h1.bel
 have C1 := hid (place86 (w := w1) (tc := tc) (cap := c) (ht.below h1.bel) htc ha (by have := h.le; omega) hk h1.ro.cnt)
 rw [hp] at C1
 have xc : w1.heap[w.heap.size]? = some (.cells #[.slice a E.length c] 53 (0, 0)) := by rw [hw1]; exact alloc_old _ (Go.Deep.blk_alloc_new _ _)
 have hle := h.le
 have HB := hid hB1
 have HX := hid xc
 have HW := hid hw1
 have HLE : Hid (E.length ≤ 10 ∧ p < E.length) := hid ⟨hle, hpl⟩
 generalize E.length = N at *
 clear hw1 h1 ha hk ht htc hp h hB1 xc hle hpl
 go_enter Tryz.func50, Tryz.ntmps50
 go_wp2_with fail
 rw [← HW.out]
 refine C1.out.mono ?_
 rintro e z ⟨rfl, hbz⟩
 obtain ⟨z1, hz1⟩ : ∃ y, y = z.alloc (.cells #[.int .i64 (p : Nat)] 3) := ⟨_, rfl⟩
 have hbz1 : Below w1.heap.size w1 z1 := by rw [hz1]; exact hbz.alloc hbz.size _
 have c0 : z.cell? ⟨w.heap.size, 0, none⟩ = some (.slice a N c) := cell_of_cells ((hbz.block _ (jq4.1 HX.out).1).trans HX.out) rfl
 have hltz : w.heap.size < z.heap.size := Nat.lt_of_lt_of_le (jq4.1 HX.out).1 hbz.size
 have p0 : z1.cell? ⟨z.heap.size, 0, none⟩ = some (.int .i64 (p : Nat)) := by rw [hz1]; exact cell_of_alloc rfl
 have HB2 : Hid (Below w.heap.size w z1) := hid (HB.out.trans (hbz1.mono HB.out.size))
 have C2 := hid (each51_91 z1 a N c (fun s => bt s p) (.pointer (some ⟨z.heap.size, 0, none⟩)) HLE.out.1 (fun s u hs hu =>
  chosen91 s p z.heap.size u (Nat.lt_of_lt_of_le hs (Nat.pow_le_pow_right (by decide) (by have := HLE.out.1; omega))) (by have := HLE.out; omega) (below_cell hu jq0 p0)))
 have HZ := hid hz1
 clear hbz hbz1 hz1 C1 p0
 go_wp2_with fail
 try rw [← HZ.out]
 refine C2.out.mono ?_
 rintro e z2 ⟨g, rfl, g1, g2, g3⟩
 have HG : Hid (w.heap.size ≤ g ∧ z2.rowIs g 4 (2 ^ N) (fun i => .bool (bt i p)) ∧ Below w.heap.size w z2) := hid ⟨Nat.le_trans HB2.out.size g1, g2, HB2.out.trans (g3.mono HB2.out.size)⟩
 clear g1 g2 g3 C2
 go_wp2
 go_ret
 exact ⟨g, rfl, HG.out.1, HG.out.2.1, HG.out.2.2⟩
end Go.Proofs.YtmdpbaobihdgkaaGreatDoor
namespace Go.Proofs.YtmdpbaobihdgkaaGreatDoor
open Go.RowKit
set_option maxHeartbeats 400000 in
theorem tr52 {w : World} {kb : Nat} {a : Option Addr} {c cc n : Nat} {K : Nat → Nat → Bool} (hk : w.cell? ⟨kb, 0, none⟩ = some (.slice a c cc)) (h : Kb w a c n K) (hc : 0 < c) (p : Nat) (hp : p < n) :
  Calls Tryz.prog 52 #[.int .i64 p, .pointer (some ⟨kb, 0, none⟩)] w fun e w' => e = .returned (.bool (!K 0 p)) ∧ w' = w := by
 obtain ⟨b, o, rfl, h2⟩ := h.at hc
 obtain ⟨ci, ai, g1, g2⟩ := h2 0 hc
 obtain ⟨bi, oi, rfl, g3⟩ := g2 p hp
 rw [Nat.add_zero] at g1
 clear h h2 g2
 go_enter Tryz.func52, Tryz.ntmps52
 go_wp2
 go_ret
 exact ⟨rfl, rfl⟩
set_option maxHeartbeats 400000 in
theorem tr53 {w : World} {kb : Nat} {a : Option Addr} {c cc n : Nat} {K : Nat → Nat → Bool} (hk : w.cell? ⟨kb, 0, none⟩ = some (.slice a c cc)) (h : Kb w a c n K) (hc : 1 < c) (p : Nat) (hp : p < n) :
  Calls Tryz.prog 53 #[.int .i64 p, .pointer (some ⟨kb, 0, none⟩)] w fun e w' => e = .returned (.bool (K 0 p && K 1 p)) ∧ w' = w := by
 obtain ⟨b, o, rfl, h2⟩ := h.at (by omega)
 obtain ⟨ci, ai, g1, g2⟩ := h2 0 (by omega)
 obtain ⟨bi, oi, rfl, g3⟩ := g2 p hp
 obtain ⟨ci', ai', g1', g2'⟩ := h2 1 (by omega)
 obtain ⟨bi', oi', rfl, g3'⟩ := g2' p hp
 rw [Nat.add_zero] at g1
 clear h h2 g2 g2'
 generalize K 0 p = x at *
 generalize K 1 p = y at *
 cases x <;> (go_enter Tryz.func53, Tryz.ntmps53; go_wp2; go_ret; exact ⟨rfl, rfl⟩)
set_option maxHeartbeats 400000 in
theorem tr54 {w : World} {kb : Nat} {a : Option Addr} {c cc n : Nat} {K : Nat → Nat → Bool} (hk : w.cell? ⟨kb, 0, none⟩ = some (.slice a c cc)) (h : Kb w a c n K) (hc : 1 < c) (p : Nat) (hp : p < n) :
  Calls Tryz.prog 54 #[.int .i64 p, .pointer (some ⟨kb, 0, none⟩)] w fun e w' => e = .returned (.bool (K 0 p || K 1 p)) ∧ w' = w := by
 obtain ⟨b, o, rfl, h2⟩ := h.at (by omega)
 obtain ⟨ci, ai, g1, g2⟩ := h2 0 (by omega)
 obtain ⟨bi, oi, rfl, g3⟩ := g2 p hp
 obtain ⟨ci', ai', g1', g2'⟩ := h2 1 (by omega)
 obtain ⟨bi', oi', rfl, g3'⟩ := g2' p hp
 rw [Nat.add_zero] at g1
 clear h h2 g2 g2'
 generalize K 0 p = x at *
 generalize K 1 p = y at *
 cases x <;> (go_enter Tryz.func54, Tryz.ntmps54; go_wp2; go_ret; exact ⟨rfl, rfl⟩)
set_option maxHeartbeats 800000 in
theorem tr55 {w : World} {kb : Nat} {a : Option Addr} {c cc n : Nat} {K : Nat → Nat → Bool} (hk : w.cell? ⟨kb, 0, none⟩ = some (.slice a c cc)) (h : Kb w a c n K) {lb : Nat} {fa : Option Addr} {fc : Nat} {F : Nat → Bool} (hl : w.cell? ⟨lb, 0, none⟩ = some (.slice fa n fc)) (hF : RowB w fa n F) (hc : 1 < c) (p : Nat) (hp : p < n) :
  Calls Tryz.prog 55 #[.int .i64 p, .pointer (some ⟨kb, 0, none⟩), .pointer (some ⟨lb, 0, none⟩)] w fun e w' => e = .returned (.bool (K 1 p || (K 0 p && F p))) ∧ w' = w := by
 obtain ⟨b, o, rfl, h2⟩ := h.at (by omega)
 obtain ⟨ci, ai, g1, g2⟩ := h2 0 (by omega)
 obtain ⟨bi, oi, rfl, g3⟩ := g2 p hp
 obtain ⟨ci', ai', g1', g2'⟩ := h2 1 (by omega)
 obtain ⟨bi', oi', rfl, g3'⟩ := g2' p hp
 rw [Nat.add_zero] at g1
 clear h h2 g2 g2'
 obtain ⟨b1, o1, q1, q2⟩ := hF
 obtain rfl := q1 (by omega)
 have e1 := q2 p hp
 clear q1 q2
 generalize K 0 p = x at *
 generalize K 1 p = y at *
 generalize F p = f at *
 cases y <;> cases x <;> (go_enter Tryz.func55, Tryz.ntmps55; go_wp2; go_ret; exact ⟨rfl, rfl⟩)
set_option maxHeartbeats 800000 in
theorem tr56 {w : World} {kb : Nat} {a : Option Addr} {c cc n : Nat} {K : Nat → Nat → Bool} (hk : w.cell? ⟨kb, 0, none⟩ = some (.slice a c cc)) (h : Kb w a c n K) {lb : Nat} {fa : Option Addr} {fc : Nat} {F : Nat → Bool} (hl : w.cell? ⟨lb, 0, none⟩ = some (.slice fa n fc)) (hF : RowB w fa n F) (hc : 1 < c) (p : Nat) (hp : p < n) :
  Calls Tryz.prog 56 #[.int .i64 p, .pointer (some ⟨kb, 0, none⟩), .pointer (some ⟨lb, 0, none⟩)] w fun e w' => e = .returned (.bool (K 1 p && (K 0 p || F p))) ∧ w' = w := by
 obtain ⟨b, o, rfl, h2⟩ := h.at (by omega)
 obtain ⟨ci, ai, g1, g2⟩ := h2 0 (by omega)
 obtain ⟨bi, oi, rfl, g3⟩ := g2 p hp
 obtain ⟨ci', ai', g1', g2'⟩ := h2 1 (by omega)
 obtain ⟨bi', oi', rfl, g3'⟩ := g2' p hp
 rw [Nat.add_zero] at g1
 clear h h2 g2 g2'
 obtain ⟨b1, o1, q1, q2⟩ := hF
 obtain rfl := q1 (by omega)
 have e1 := q2 p hp
 clear q1 q2
 generalize K 0 p = x at *
 generalize K 1 p = y at *
 generalize F p = f at *
 cases y <;> cases x <;> (go_enter Tryz.func56, Tryz.ntmps56; go_wp2; go_ret; exact ⟨rfl, rfl⟩)
set_option maxHeartbeats 400000 in
theorem tr57 {w : World} {fb : Nat} {k : Int} (h : w.cell? ⟨fb, 0, none⟩ = some (.int .i64 k)) (p : Nat) :
  Calls Tryz.prog 57 #[.int .i64 p, .pointer (some ⟨fb, 0, none⟩)] w fun e w' => e = .returned (.bool (k == 1)) ∧ w' = w := by
 go_enter Tryz.func57, Tryz.ntmps57
 go_wp2
 go_ret
 exact ⟨rfl, rfl⟩
end Go.Proofs.YtmdpbaobihdgkaaGreatDoor
namespace Go.Proofs.YtmdpbaobihdgkaaGreatDoor
open Go.RowKit
def allIn (n : Nat) (Z : Nat → Int) (m : Int) : Bool := decide (∀ i, i < n → 0 ≤ Z i ∧ Z i < m)
theorem allIn_no {n : Nat} {Z : Nat → Int} {m : Int} (k : Nat) (hk : k < n) (h : Z k < 0 ∨ m ≤ Z k) : allIn n Z m = false := by
 unfold allIn
 rw [decide_eq_false_iff_not]
 intro hall
 have := hall k hk
 omega
theorem allIn_yes {n : Nat} {Z : Nat → Int} {m : Int} (h : ∀ i, i < n → 0 ≤ Z i ∧ Z i < m) : allIn n Z m = true := by
 unfold allIn
 rw [decide_eq_true_eq]
 exact h
theorem allIn_all {n : Nat} {Z : Nat → Int} {m : Int} (h : allIn n Z m = true) : ∀ i, i < n → 0 ≤ Z i ∧ Z i < m := by
 unfold allIn at h
 rwa [decide_eq_true_eq] at h
def has (n : Nat) (Z : Nat → Int) (x : Int) : Bool := decide (∃ i, i < n ∧ Z i = x)
theorem has_no {n : Nat} {Z : Nat → Int} {x : Int} (h : ∀ i, i < n → Z i ≠ x) : has n Z x = false := by
 unfold has
 rw [decide_eq_false_iff_not]
 rintro ⟨i, hi, e⟩
 exact h i hi e
def a_same (n m : Nat) (Y Z : Nat → Int) : Bool := decide (n = m ∧ ∀ i, i < n → Y i = Z i)
def Row (w : World) (a : Option Addr) (n : Nat) (Z : Nat → Int) : Prop :=
 ∃ b o, (0 < n → a = some ⟨b, o, none⟩) ∧ ∀ i, i < n → w.cell? ⟨b, o + i, none⟩ = some (.int .i64 (Z i))
set_option maxHeartbeats 400000 in
theorem areNodes_any (ga : Option Addr) (G gc : Nat) (a : Option Addr) (n c : Nat) (Z : Nat → Int) (w : World) (hn : n ≤ 140737488355328) (h : Row w a n Z) :
  Calls Tryz.prog 103 #[.slice ga G gc, .slice a n c] w fun e w' => e = .returned (.bool (allIn n Z G)) ∧ w' = w := by
 obtain ⟨b, o, ha, hc⟩ := h
 go_enter Tryz.func103, Tryz.ntmps103
 go_wp2
 go_loop [9] (fun i => ∃ k : Nat, k ≤ n ∧ i = .int .i64 k ∧ Hid (∀ j, j < k → 0 ≤ Z j ∧ Z j < G)) (fun i => n - (intOf i).toNat)
 case atStart => exact ⟨0, Nat.zero_le _, rfl, hid (fun j hj => absurd hj (Nat.not_lt_zero _))⟩
 case round =>
  obtain ⟨k, hk, rfl, H⟩ := hrel
  by_cases hlt : k < n
  ·obtain rfl := ha (by omega)
   have hck := hc k hlt
   by_cases h1 : Z k < 0
   ·go_wp2
    go_ret
    exact ⟨ret_bool (allIn_no k hlt (Or.inl h1)).symm, rfl⟩
   ·by_cases h2 : (G : Int) ≤ Z k
    ·go_wp2
     go_ret
     exact ⟨ret_bool (allIn_no k hlt (Or.inr h2)).symm, rfl⟩
    ·go_wp2
     go_round
     case rel => exact ⟨k + 1, by omega, by go_num, hid (snoc_all H.out ⟨by omega, by omega⟩)⟩
     case measure => simp [intOf]; omega
  ·go_wp2
   go_ret
   exact ⟨ret_bool (allIn_yes (fun i hi => H.out i (by omega))).symm, rfl⟩
end Go.Proofs.YtmdpbaobihdgkaaGreatDoor
namespace Go.Proofs.YtmdpbaobihdgkaaGreatDoor
open Go.RowKit
def Gr (w : World) (ga : Option Addr) (G : Nat) (L : Nat → Nat) (Z : Nat → Nat → Int) : Prop :=
 ∃ gb go, (0 < G → ga = some ⟨gb, go, none⟩) ∧ ∀ r, r < G → ∃ a c, w.cell? ⟨gb, go + r, none⟩ = some (.slice a (L r) c) ∧ Row w a (L r) (Z r)
theorem Row.below {w w' : World} {a : Option Addr} {n : Nat} {Z : Nat → Int} (h : Row w a n Z) (hb : Below w.heap.size w w') : Row w' a n Z := by
 obtain ⟨b, o, ha, hc⟩ := h
 refine ⟨b, o, ha, fun i hi => ?_⟩
 rw [hb.cell (p := ⟨b, o + i, none⟩) (World.block_lt_of_cell? _ _ (hc i hi))]
 exact hc i hi
theorem Gr.below {w w' : World} {ga : Option Addr} {G : Nat} {L : Nat → Nat} {Z : Nat → Nat → Int} (h : Gr w ga G L Z) (hb : Below w.heap.size w w') : Gr w' ga G L Z := by
 obtain ⟨b, o, ha, hc⟩ := h
 refine ⟨b, o, ha, fun r hr => ?_⟩
 obtain ⟨a, c, h1, h2⟩ := hc r hr
 refine ⟨a, c, ?_, h2.below hb⟩
 rw [hb.cell (p := ⟨b, o + r, none⟩) (World.block_lt_of_cell? _ _ h1)]
 exact h1
def okG (G : Nat) (L : Nat → Nat) (Z : Nat → Nat → Int) : Bool := decide (∀ r, r < G → allIn (L r) (Z r) G = true)
theorem okG_no {G : Nat} {L : Nat → Nat} {Z : Nat → Nat → Int} (k : Nat) (hk : k < G) (h : allIn (L k) (Z k) G = false) : okG G L Z = false := by
 unfold okG
 rw [decide_eq_false_iff_not]
 intro hall
 have := hall k hk
 rw [h] at this
 cases this
theorem okG_yes {G : Nat} {L : Nat → Nat} {Z : Nat → Nat → Int} (h : ∀ r, r < G → allIn (L r) (Z r) G = true) : okG G L Z = true := by
 unfold okG
 rw [decide_eq_true_eq]
 exact h
theorem okG_all {G : Nat} {L : Nat → Nat} {Z : Nat → Nat → Int} (h : okG G L Z = true) : ∀ r, r < G → ∀ i, i < L r → 0 ≤ Z r i ∧ Z r i < G := by
 unfold okG at h
 rw [decide_eq_true_eq] at h
 exact fun r hr => allIn_all (h r hr)
def errG (G : Nat) (L : Nat → Nat) (Z : Nat → Nat → Int) : Int := if 20000 < G then 2 else if okG G L Z = true then 0 else 1
theorem errG_large {G : Nat} {L : Nat → Nat} {Z : Nat → Nat → Int} (h : 20000 < G) : errG G L Z = 2 := by unfold errG; rw [if_pos h]
theorem errG_bad {G : Nat} {L : Nat → Nat} {Z : Nat → Nat → Int} (h : ¬ 20000 < G) (h2 : okG G L Z = false) : errG G L Z = 1 := by unfold errG; rw [if_neg h, h2]; rfl
theorem errG_ok {G : Nat} {L : Nat → Nat} {Z : Nat → Nat → Int} (h : ¬ 20000 < G) (h2 : okG G L Z = true) : errG G L Z = 0 := by unfold errG; rw [if_neg h, h2]; rfl
set_option maxHeartbeats 400000 in
theorem a_check_any (ga : Option Addr) (G gc : Nat) (L : Nat → Nat) (Z : Nat → Nat → Int) (w : World) (hL : ∀ r, r < G → L r ≤ 140737488355328) (h : Gr w ga G L Z) :
  Calls Tryz.prog 68 #[.slice ga G gc] w fun e w' => e = .returned (.int .i64 (errG G L Z)) ∧ w' = w := by
 by_cases hlarge : 20000 < G
 ·have hz : (20000 : Int) < G := by omega
  go_enter Tryz.func68, Tryz.ntmps68
  go_wp2
  go_ret
  exact ⟨ret_int (errG_large hlarge).symm, rfl⟩
 have hz : ¬ (20000 : Int) < G := by omega
 have HL : Hid (∀ r, r < G → L r ≤ 140737488355328) := hL
 obtain ⟨b, o, ha, hc⟩ := h
 have HC : Hid (∀ r, r < G → ∃ a c, w.cell? ⟨b, o + r, none⟩ = some (.slice a (L r) c) ∧ Row w a (L r) (Z r)) := hc
 clear hc hL
 go_enter Tryz.func68, Tryz.ntmps68
 go_wp2
 go_loop [10] (fun i => ∃ k : Nat, k ≤ G ∧ i = .int .i64 k ∧ Hid (∀ j, j < k → allIn (L j) (Z j) G = true)) (fun i => G - (intOf i).toNat)
 case atStart => exact ⟨0, Nat.zero_le _, rfl, hid (fun j hj => absurd hj (Nat.not_lt_zero _))⟩
 case round =>
  obtain ⟨k, hk, rfl, H⟩ := hrel
  by_cases hlt : k < G
  ·obtain rfl := ha (by omega)
   obtain ⟨a, c, hck, hrow⟩ := HC.out k hlt
   have HR : Hid (Row w a (L k) (Z k)) := hrow
   clear hrow
   go_wp2_with fail
   refine (areNodes_any _ G gc a (L k) c (Z k) _ (HL.out k hlt) HR.out).mono ?_
   rintro e w' ⟨rfl, rfl⟩
   cases hb : allIn (L k) (Z k) G
   ·have HB : Hid (allIn (L k) (Z k) G = false) := hb
    clear hb
    go_wp2
    go_ret
    exact ⟨ret_int (errG_bad hlarge (okG_no k hlt HB.out)).symm, rfl⟩
   ·have HB : Hid (allIn (L k) (Z k) G = true) := hb
    clear hb
    go_wp2
    go_round
    case rel => exact ⟨k + 1, by omega, by go_num, hid (snoc_all H.out HB.out)⟩
    case measure => simp [intOf]; omega
  ·go_wp2
   go_ret
   exact ⟨ret_int (errG_ok hlarge (okG_yes (fun i hi => H.out i (by omega)))).symm, rfl⟩
end Go.Proofs.YtmdpbaobihdgkaaGreatDoor
