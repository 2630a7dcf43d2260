/- The law LtlSays, walked. -/
import Derived.Test.YtgpjlgffmlkkoaaDoorRefTxt
import Derived.Test.YtgpjlgffmlkkoaaDoorRefChk2
namespace Go.Proofs.YtgpjlgffmlkkoaaDoor
open Go.RowKit

theorem Sta.below {w0 w : World} {na : Option Addr} {N nc : Nat} {M : Nat → ByteArray} (h : Sta w0 na N nc M) (hb : Below w0.heap.size w0 w) : Sta w na N nc M :=
  ⟨h.kc.below hb h.four, h.sg.below hb (by have := h.four; omega), h.nms.below hb, h.n1, h.n2⟩

set_option maxHeartbeats 4000000 in
theorem ltlSays_walk {w : World} {na : Option Addr} {N nc : Nat} {M : Nat → ByteArray} (hS : Sta w na N nc M) (hMs : ∀ i, i < N → (M i).size ≤ maxLen) (t : Fml) (a : Option Addr) (cap : Nat) (hK : Kds w t a) (hc : t.cnt ≤ 9223372036854775807) :
    Calls Tryd.prog 3 #[.agg #[.int .i64 t.kind, .int .i64 t.num, .slice a t.cnt cap], .slice na N nc] w fun e w' => e = .returned (.bool true) ∧ Below w.heap.size w w' := by
  obtain ⟨w1, hw1⟩ : ∃ y, y = w.alloc (.cells #[.int .i64 t.kind, .int .i64 t.num, .slice a t.cnt cap] 24) := ⟨_, rfl⟩
  have hB1 : Below w.heap.size w w1 := by rw [hw1]; exact box_below _ _
  have hx1 : Bx w1 w.heap.size t a cap := by rw [hw1]; exact bx_new w t a cap
  have hs1 : w.heap.size < w1.heap.size := by rw [hw1]; simp
  have HE := hid hw1
  have HX : Hid (∀ u, Below w1.heap.size w1 u → Bx u w.heap.size t a cap ∧ Below w.heap.size w u) := fun u hu => ⟨(hu.block _ hs1).trans hx1, hB1.trans (hu.mono hB1.size)⟩
  have HS := hid hS
  have HK := hid hK
  have C1 : Hid (Calls Tryd.prog 7 #[.agg #[.int .i64 t.kind, .int .i64 t.num, .slice a t.cnt cap]] w1 fun e w' => e = .returned (.int .i64 (chk t 1 0).1) ∧ Below w1.heap.size w1 w') := ltl_any t a cap w1 (hK.below hB1) hc
  have C2 : Hid (∀ u, Below w.heap.size w u → Calls Tryd.prog 8 #[.agg #[.int .i64 t.kind, .int .i64 t.num, .slice a t.cnt cap], .slice na N nc] u fun e w' => e = .returned (.tuple #[.string (PrV N M t).1, .int .i64 (PrV N M t).2]) ∧ Below u.heap.size u w') := fun u hu => print_any (hS.below hu) t a cap (hK.below hu) hc
  have C3 : Hid (∀ u, Below w.heap.size w u → Calls Tryd.prog 9 #[.agg #[.int .i64 t.kind, .int .i64 t.num, .slice a t.cnt cap]] u fun e w' => e = .returned (.int .i64 (chk t 1 0).1) ∧ Below u.heap.size u w') := fun u hu => check_any t a cap u (hS.kc.below hu hS.four) (hK.below hu) hc
  have C4 : Hid ((chk t 1 0).1 = 0 → ∀ u, Below w.heap.size w u → Calls Tryd.prog 10 #[.agg #[.int .i64 t.kind, .int .i64 t.num, .slice a t.cnt cap], .slice na N nc] u fun e w' => e = .returned (.tuple #[.string (TxV N M t), .bool (nmd N M t)]) ∧ Below u.heap.size u w') := fun h u hu => by
    have h1 := chk_wf t 1 0 h
    have h2 := (chk_small t 1 0 (by omega)).2 h
    exact ltlText_any (by have := hS.n1; have := hS.n2; omega) hMs t a cap u (hS.nms.below hu) (hK.below hu) h1.1 (by omega)
  have HP : Hid (PrV N M t = if (chk t 1 0).1 ≠ 0 then (⟨#[]⟩, (chk t 1 0).1) else if nmd N M t = true then (⟨(tx N M t).toArray⟩, 0) else (⟨#[]⟩, 4)) := hid rfl
  have HV : Hid (nmd N M t = true → TxV N M t = ⟨(tx N M t).toArray⟩) := fun h => if_pos h
  generalize (chk t 1 0).1 = e0 at *
  generalize hnv : nmd N M t = nv at *
  clear hnv hw1 hB1 hx1 hs1 hS hK hc hMs
  by_cases h0 : e0 = 0
  · subst h0
    have C4' := hid (C4.out rfl)
    clear C4
    cases nv
    · have hP : PrV N M t = (⟨#[]⟩, 4) := HP.out
      rw [hP] at C2
      clear HP HV hP
      generalize TxV N M t = sv at *
      go_enter Tryd.func3, Tryd.ntmps3
      go_wp2_with fail
      rw [← HE.out]
      refine C1.out.mono ?_
      rintro e w2 ⟨rfl, hb2⟩
      have HB2 : Hid (Below w1.heap.size w1 w2) := hb2
      clear C1 hb2
      obtain ⟨hx, hbw⟩ := HX.out w2 HB2.out
      have g0 := hx.c0
      have g1 := hx.c1
      have g2 := hx.c2
      have D2 := hid (C2.out w2 hbw)
      clear hx hbw
      go_wp2_with fail
      refine D2.out.mono ?_
      rintro e w3 ⟨rfl, hb3⟩
      have HB3 : Hid (Below w1.heap.size w1 w3) := HB2.out.trans (hb3.mono HB2.out.size)
      clear D2 hb3 g0 g1 g2
      obtain ⟨hx, hbw⟩ := HX.out w3 HB3.out
      have g0 := hx.c0
      have g1 := hx.c1
      have g2 := hx.c2
      have D3 := hid (C3.out w3 hbw)
      clear hx hbw
      go_wp2_with fail
      refine D3.out.mono ?_
      rintro e w4 ⟨rfl, hb4⟩
      have HB4 : Hid (Below w1.heap.size w1 w4) := HB3.out.trans (hb4.mono HB3.out.size)
      clear D3 hb4 g0 g1 g2
      obtain ⟨hx, hbw⟩ := HX.out w4 HB4.out
      have g0 := hx.c0
      have g1 := hx.c1
      have g2 := hx.c2
      have D4 := hid (C4'.out w4 hbw)
      clear hx hbw
      go_wp2_with fail
      refine D4.out.mono ?_
      rintro e w5 ⟨rfl, hb5⟩
      have HB5 : Hid (Below w.heap.size w w5) := (HX.out w5 (HB4.out.trans (hb5.mono HB4.out.size))).2
      clear D4 hb5 g0 g1 g2
      go_wp2
      go_ret
      exact ⟨by rfl, HB5.out⟩
    · have hP : PrV N M t = (⟨(tx N M t).toArray⟩, 0) := HP.out
      have hV := HV.out rfl
      rw [hP] at C2
      rw [hV] at C4'
      clear HP HV hP hV
      generalize (⟨(tx N M t).toArray⟩ : ByteArray) = sv at *
      go_enter Tryd.func3, Tryd.ntmps3
      go_wp2_with fail
      rw [← HE.out]
      refine C1.out.mono ?_
      rintro e w2 ⟨rfl, hb2⟩
      have HB2 : Hid (Below w1.heap.size w1 w2) := hb2
      clear C1 hb2
      obtain ⟨hx, hbw⟩ := HX.out w2 HB2.out
      have g0 := hx.c0
      have g1 := hx.c1
      have g2 := hx.c2
      have D2 := hid (C2.out w2 hbw)
      clear hx hbw
      go_wp2_with fail
      refine D2.out.mono ?_
      rintro e w3 ⟨rfl, hb3⟩
      have HB3 : Hid (Below w1.heap.size w1 w3) := HB2.out.trans (hb3.mono HB2.out.size)
      clear D2 hb3 g0 g1 g2
      obtain ⟨hx, hbw⟩ := HX.out w3 HB3.out
      have g0 := hx.c0
      have g1 := hx.c1
      have g2 := hx.c2
      have D3 := hid (C3.out w3 hbw)
      clear hx hbw
      go_wp2_with fail
      refine D3.out.mono ?_
      rintro e w4 ⟨rfl, hb4⟩
      have HB4 : Hid (Below w1.heap.size w1 w4) := HB3.out.trans (hb4.mono HB3.out.size)
      clear D3 hb4 g0 g1 g2
      obtain ⟨hx, hbw⟩ := HX.out w4 HB4.out
      have g0 := hx.c0
      have g1 := hx.c1
      have g2 := hx.c2
      have D4 := hid (C4'.out w4 hbw)
      clear hx hbw
      go_wp2_with fail
      refine D4.out.mono ?_
      rintro e w5 ⟨rfl, hb5⟩
      have HB5 : Hid (Below w.heap.size w w5) := (HX.out w5 (HB4.out.trans (hb5.mono HB4.out.size))).2
      clear D4 hb5 g0 g1 g2
      go_wp2
      go_ret
      exact ⟨by first | rfl | simp, HB5.out⟩
  · have hP : PrV N M t = (⟨#[]⟩, e0) := HP.out.trans (if_pos h0)
    rw [hP] at C2
    have hb0 : (e0 == 0) = false := beq_eq_false_iff_ne.2 h0
    clear HP HV hP C4 h0
    go_enter Tryd.func3, Tryd.ntmps3
    go_wp2_with fail
    rw [← HE.out]
    refine C1.out.mono ?_
    rintro e w2 ⟨rfl, hb2⟩
    have HB2 : Hid (Below w1.heap.size w1 w2) := hb2
    clear C1 hb2
    obtain ⟨hx, hbw⟩ := HX.out w2 HB2.out
    have g0 := hx.c0
    have g1 := hx.c1
    have g2 := hx.c2
    have D2 := hid (C2.out w2 hbw)
    clear hx hbw
    go_wp2_with fail
    refine D2.out.mono ?_
    rintro e w3 ⟨rfl, hb3⟩
    have HB3 : Hid (Below w1.heap.size w1 w3) := HB2.out.trans (hb3.mono HB2.out.size)
    clear D2 hb3 g0 g1 g2
    obtain ⟨hx, hbw⟩ := HX.out w3 HB3.out
    have g0 := hx.c0
    have g1 := hx.c1
    have g2 := hx.c2
    have D3 := hid (C3.out w3 hbw)
    clear hx hbw
    go_wp2_with fail
    refine D3.out.mono ?_
    rintro e w4 ⟨rfl, hb4⟩
    have HB4 : Hid (Below w.heap.size w w4) := (HX.out w4 (HB3.out.trans (hb4.mono HB3.out.size))).2
    clear D3 hb4 g0 g1 g2
    go_wp2
    go_ret
    exact ⟨by first | rfl | simp, HB4.out⟩

end Go.Proofs.YtgpjlgffmlkkoaaDoor
