/- The law LtlBack, walked. -/
import Derived.Test.YtgpjlgffmlkkoaaDoorAgn
import Derived.Test.YtgpjlgffmlkkoaaDoorTwo
import Derived.Test.YtgpjlgffmlkkoaaDoorSme
namespace Go.Proofs.YtgpjlgffmlkkoaaDoor
open Go.RowKit

set_option maxHeartbeats 4000000 in
set_option maxRecDepth 100000 in
theorem ltlBack_walk {w : World} {na : Option Addr} {N nc : Nat} {M : Nat → ByteArray} {a1 a2 a3 a5 : Addr} (hP : Pst w na N nc M a1 a2 a3 a5) (t : Fml) (a : Option Addr) (cap : Nat) (hK : Kds w t a) (hc : t.cnt ≤ 9223372036854775807) :
    Calls Tryd.prog 5 #[.agg #[.int .i64 t.kind, .int .i64 t.num, .slice a t.cnt cap], .slice na N nc] w fun e w' => e = .returned (.bool true) ∧ Below w.heap.size w w' := by
  obtain ⟨w1, hw1⟩ : ∃ y, y = w.alloc (.cells #[.int .i64 t.kind, .int .i64 t.num, .slice a t.cnt cap] 24) := ⟨_, rfl⟩
  have hB1 : Below w.heap.size w w1 := by rw [hw1]; exact box_below _ _
  have hx1 : Bx w1 w.heap.size t a cap := by rw [hw1]; exact bx_new w t a cap
  have hs1 : w.heap.size < w1.heap.size := by rw [hw1]; simp
  have HE := hid hw1
  have HX : Hid (∀ u, Below w1.heap.size w1 u → Bx u w.heap.size t a cap ∧ Below w.heap.size w u) := fun u hu => ⟨(hu.block _ hs1).trans hx1, hB1.trans (hu.mono hB1.size)⟩
  have HP := hid hP
  have HK := hid hK
  obtain ⟨q0, hq0⟩ : ∃ x, x = nd 3 0 := ⟨_, rfl⟩
  obtain ⟨q1, hq1⟩ : ∃ x, x = on 7 q0 := ⟨_, rfl⟩
  obtain ⟨q2, hq2⟩ : ∃ x, x = nd 3 63 := ⟨_, rfl⟩
  obtain ⟨q3, hq3⟩ : ∃ x, x = tw 5 q1 q2 := ⟨_, rfl⟩
  have hpv : PrV 1 m0 q3 = (⟨#[88, 32, 97, 32, 38, 32, 115, 105, 108, 101, 110, 116]⟩, 0) := by rw [hq3, hq1, hq0, hq2]; exact prv_t0
  have A0 : Hid (∀ u, Calls Tryd.prog 16 #[.int .i64 0] u fun e w' => Mk u q0 e w') := fun u => by rw [hq0]; exact atom_f 0 u
  have A1 : Hid (∀ u a cap, Kds u q0 a → Calls Tryd.prog 15 #[.int .i64 7, .agg #[.int .i64 q0.kind, .int .i64 q0.num, .slice a q0.cnt cap]] u fun e w' => Mk u q1 e w') := fun u a cap h => by rw [hq1]; exact one_f 7 q0 a cap u h (by rw [hq0]; exact Nat.zero_le 2)
  have A2 : Hid (∀ u, Calls Tryd.prog 16 #[.int .i64 63] u fun e w' => Mk u q2 e w') := fun u => by rw [hq2]; exact atom_f 63 u
  have A3 : Hid (∀ u a cap a' cap', Kds u q1 a → Kds u q2 a' → Calls Tryd.prog 14 #[.int .i64 5, .agg #[.int .i64 q1.kind, .int .i64 q1.num, .slice a q1.cnt cap], .agg #[.int .i64 q2.kind, .int .i64 q2.num, .slice a' q2.cnt cap']] u fun e w' => Mk u q3 e w') := fun u a cap a' cap' h h' => by
    rw [hq3]
    exact two_f 5 q1 a cap q2 a' cap' u h (by rw [hq1]; exact Nat.le_succ 1) h' (by rw [hq2]; exact Nat.zero_le 2)
  have A4 : Hid (∀ u a cap b, Below w.heap.size w u → Kds u q3 a → u.cell? ⟨b, 0, none⟩ = some (.string ⟨#[97]⟩) → Calls Tryd.prog 8 #[.agg #[.int .i64 q3.kind, .int .i64 q3.num, .slice a q3.cnt cap], .slice (some ⟨b, 0, none⟩) 1 1] u fun e w' => e = .returned (.tuple #[.string ⟨#[88, 32, 97, 32, 38, 32, 115, 105, 108, 101, 110, 116]⟩, .int .i64 0]) ∧ Below u.heap.size u w') := fun u a cap b hu h hb => by
    have hS := (hP.below hu).sta
    have hM : ∀ i, i < 1 → u.cell? ⟨b, 0 + i, none⟩ = some (.string (m0 i)) := fun i hi => by
      obtain rfl : i = 0 := by omega
      exact hb
    have := print_any (w0 := u) (na := some ⟨b, 0, none⟩) (N := 1) (nc := 1) (M := m0) ⟨hS.kc, hS.sg, ⟨b, 0, fun _ => rfl, hM⟩, Nat.le_refl 1, by omega⟩ q3 a cap h (by rw [hq3]; exact (by decide : (2 : Nat) ≤ 9223372036854775807))
    rw [hpv] at this
    exact this
  have C1 : Hid (∀ u, Below w.heap.size w u → Calls Tryd.prog 8 #[.agg #[.int .i64 t.kind, .int .i64 t.num, .slice a t.cnt cap], .slice na N nc] u fun e w' => e = .returned (.tuple #[.string (PrV N M t).1, .int .i64 (PrV N M t).2]) ∧ Below u.heap.size u w') := fun u hu => print_any (hP.below hu).sta t a cap (hK.below hu) hc
  have C2 : Hid (∀ u S, Below w.heap.size w u → Calls Tryd.prog 11 #[.string S, .slice na N nc] u fun e w' => (∃ r, RxIs N M S r ∧ PaAns u.heap.size (pof S r) e w') ∧ Below u.heap.size u w') := fun u S hu => parse_any (hP.below hu) S
  have C3 : Hid (∀ u a2 cap2, Below w.heap.size w u → Kds u t a2 → Calls Tryd.prog 13 #[.agg #[.int .i64 t.kind, .int .i64 t.num, .slice a t.cnt cap], .agg #[.int .i64 t.kind, .int .i64 t.num, .slice a2 t.cnt cap2]] u fun e w' => e = .returned (.bool true) ∧ Below u.heap.size u w') := fun u a2 cap2 hu h => same_any t a a2 cap cap2 u (hK.below hu) h hc
  have HC := prv_cases N M t
  have HCH : Hid ((PrV N M t = (byt (tx N M t), 0) ∧ (chk t 1 0).1 = 0 ∧ nmd N M t = true) ∨ ∃ c, c ≠ 0 ∧ PrV N M t = (⟨#[]⟩, c)) := HC
  have HBK : Hid ((chk t 1 0).1 = 0 → nmd N M t = true → ∀ r, RxIs N M (byt (tx N M t)) r → (300 < (byt (tx N M t)).size ∧ pof (byt (tx N M t)) r = .error (2, 0)) ∨ ((byt (tx N M t)).size ≤ 300 ∧ (pof (byt (tx N M t)) r = .ok t ∨ ∃ p, p < (byt (tx N M t)).size ∧ pof (byt (tx N M t)) r = .error (5, p)))) := fun h1 h2 r h3 => back_is h1 h2 h3
  clear HC hw1 hB1 hx1 hs1 hP hK hc hq0 hq1 hq2 hq3 hpv
  go_enter Tryd.func5, Tryd.ntmps5
  go_wp2_with fail
  rw [← HE.out]
  refine (A0.out w1).mono ?_
  rintro e w2 ⟨x0, c0, rfl, k2, b2⟩
  have K2 : Hid (Kds w2 q0 x0) := k2
  have B2 : Hid (Below w1.heap.size w1 w2) := b2
  clear A0 k2 b2
  go_wp2_with fail
  refine (A1.out w2 x0 c0 K2.out).mono ?_
  rintro e w3 ⟨x1, c1, rfl, k3, b3⟩
  have K3 : Hid (Kds w3 q1 x1) := k3
  have B3 : Hid (Below w1.heap.size w1 w3) := B2.out.trans (b3.mono B2.out.size)
  clear A1 k3 b3 K2 B2
  go_wp2_with fail
  refine (A2.out w3).mono ?_
  rintro e w4 ⟨x2, c2, rfl, k4, b4⟩
  have K4 : Hid (Kds w4 q1 x1 ∧ Kds w4 q2 x2) := ⟨K3.out.below b4, k4⟩
  have B4 : Hid (Below w1.heap.size w1 w4) := B3.out.trans (b4.mono B3.out.size)
  clear A2 k4 b4 K3 B3
  go_wp2_with fail
  refine (A3.out w4 x1 c1 x2 c2 K4.out.1 K4.out.2).mono ?_
  rintro e w5 ⟨x3, c3, rfl, k5, b5⟩
  have B5 : Hid (Below w1.heap.size w1 w5) := B4.out.trans (b5.mono B4.out.size)
  obtain ⟨w6, hw6⟩ : ∃ y, y = w5.alloc (.cells #[.string ⟨#[97]⟩] 9) := ⟨_, rfl⟩
  have K6 : Hid (Kds w6 q3 x3 ∧ w6.cell? ⟨w5.heap.size, 0, none⟩ = some (.string ⟨#[97]⟩)) := by
    rw [hw6]
    exact ⟨k5.below (box_below _ _), cell_of_alloc rfl⟩
  have B6 : Hid (Below w1.heap.size w1 w6) := by rw [hw6]; exact B5.out.alloc B5.out.size _
  have HE6 := hid hw6
  clear A3 k5 b5 K4 B4 B5 hw6
  go_wp2_with fail
  rw [← HE6.out]
  refine (A4.out w6 x3 c3 w5.heap.size (HX.out w6 B6.out).2 K6.out.1 K6.out.2).mono ?_
  rintro e w7 ⟨rfl, b7⟩
  have B7 : Hid (Below w1.heap.size w1 w7) := B6.out.trans (b7.mono B6.out.size)
  clear A4 b7 K6 B6
  obtain ⟨hx, hbw⟩ := HX.out w7 B7.out
  have g0 := hx.c0
  have g1 := hx.c1
  have g2 := hx.c2
  have D1 := hid (C1.out w7 hbw)
  clear hx hbw C1
  rcases HCH.out with ⟨hpr, h1, h2⟩ | ⟨c, hc0, hpr⟩
  · have HR := hid (HBK.out h1 h2)
    rw [hpr] at D1
    generalize byt (tx N M t) = S at *
    clear HBK HCH h1 h2 hpr
    go_wp2_with fail
    refine D1.out.mono ?_
    rintro e w8 ⟨rfl, b8⟩
    have B8 : Hid (Below w1.heap.size w1 w8) := B7.out.trans (b8.mono B7.out.size)
    clear b8 D1 B7 g0 g1 g2
    go_wp2_with fail
    refine (C2.out w8 S (HX.out w8 B8.out).2).mono ?_
    rintro e w9 ⟨⟨r, hr, ha⟩, b9⟩
    have B9 : Hid (Below w1.heap.size w1 w9) := B8.out.trans (b9.mono B8.out.size)
    rcases HR.out r hr with ⟨hl, hp⟩ | ⟨hl, hp | ⟨p, hlt, hp⟩⟩
    · rw [hp] at ha
      obtain rfl := ha
      have hz : (300 : Int) < S.size := by omega
      have B10 := hid (B9.out.alloc B9.out.size (.cells #[.int .i64 0, .int .i64 0, .slice none 0 0] 24))
      clear hr hp b9 C2 C3 HR
      go_wp2
      go_ret
      exact ⟨rfl, (HX.out _ B10.out).2⟩
    · rw [hp] at ha
      obtain ⟨a', cap', rfl, hk⟩ := ha
      have hz : ¬ (300 : Int) < S.size := by omega
      obtain ⟨w10, hw10⟩ : ∃ y, y = w9.alloc (.cells #[.int .i64 t.kind, .int .i64 t.num, .slice a' t.cnt cap'] 24) := ⟨_, rfl⟩
      have B10 : Hid (Below w1.heap.size w1 w10) := by rw [hw10]; exact B9.out.alloc B9.out.size _
      have hy : Bx w10 w9.heap.size t a' cap' := by rw [hw10]; exact bx_new w9 t a' cap'
      have hk10 : Kds w10 t a' := by rw [hw10]; exact (kd_out hk).below (box_below _ _)
      obtain ⟨hx, hbw⟩ := HX.out w10 B10.out
      have g0 := hx.c0
      have g1 := hx.c1
      have g2 := hx.c2
      have y0 := hy.c0
      have y1 := hy.c1
      have y2 := hy.c2
      have D3 := hid (C3.out w10 a' cap' hbw hk10)
      rw [hw10] at g0 g1 g2 y0 y1 y2
      have HE10 := hid hw10
      clear hr hp b9 C2 C3 HR hx hbw hy hk10 hk hw10
      go_wp2_with fail
      rw [← HE10.out]
      refine D3.out.mono ?_
      rintro e w11 ⟨rfl, b11⟩
      have B11 : Hid (Below w1.heap.size w1 w11) := B10.out.trans (b11.mono B10.out.size)
      clear b11 D3
      go_wp2
      go_ret
      exact ⟨rfl, (HX.out _ B11.out).2⟩
    · rw [hp] at ha
      obtain rfl := ha
      have hz : ¬ (300 : Int) < S.size := by omega
      have hz2 : (p : Int) < S.size := by omega
      have B10 := hid (B9.out.alloc B9.out.size (.cells #[.int .i64 0, .int .i64 0, .slice none 0 0] 24))
      clear hr hp b9 C2 C3 HR
      go_wp2
      go_ret
      exact ⟨by first | rfl | simp [hz2] | (simp; omega), (HX.out _ B10.out).2⟩
  · rw [hpr] at D1
    have hb0 : (c == 0) = false := beq_eq_false_iff_ne.2 hc0
    clear HBK HCH hpr C2 C3 hc0
    go_wp2_with fail
    refine D1.out.mono ?_
    rintro e w8 ⟨rfl, b8⟩
    have B8 : Hid (Below w1.heap.size w1 w8) := B7.out.trans (b8.mono B7.out.size)
    clear b8 D1 B7 g0 g1 g2
    go_wp2
    go_ret
    exact ⟨by first | rfl | simp, (HX.out _ B8.out).2⟩

end Go.Proofs.YtgpjlgffmlkkoaaDoor
