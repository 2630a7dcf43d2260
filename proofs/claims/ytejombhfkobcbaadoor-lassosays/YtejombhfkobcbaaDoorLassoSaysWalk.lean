/- The law LassoSays, walked. -/
import Derived.Test.YtejombhfkobcbaaDoorRefTr
import Derived.Test.YtejombhfkobcbaaDoorRefChk2
namespace Go.Proofs.YtejombhfkobcbaaDoor
open Go.RowKit

theorem hchk_bad_f {t : Fml} {s m : Nat} (h : (chk t 1 0).1 ≠ 0) : hchk t s m = (chk t 1 0).1 := if_pos h
theorem hchk_ok_f {t : Fml} {s m : Nat} (h : (chk t 1 0).1 = 0) : hchk t s m = wchk s m := if_neg (by rw [h]; decide)

set_option maxHeartbeats 4000000 in
theorem says_Ac {w : World} {t : Fml} {a : Option Addr} {cap : Nat} {sa : Option Addr} {s sc : Nat} {la : Option Addr} {m lc : Nat} {S L : Nat → Int} (h : Fw w t a sa s sc la m lc S L) (i : Int) (hi63 : i ≤ 9223372036854775807) (h0 : wchk s m ≠ 0) (hc : (chk t 1 0).1 ≠ 0) :
    Calls Tryd.prog 3 #[.agg #[.int .i64 t.kind, .int .i64 t.num, .slice a t.cnt cap], .agg #[.slice sa s sc, .slice la m lc], .int .i64 i] w fun e w' => e = .returned (.bool true) ∧ Below w.heap.size w w' := by
  obtain ⟨u, hu⟩ : ∃ y, y = (w.alloc (.cells #[.int .i64 t.kind, .int .i64 t.num, .slice a t.cnt cap] 24)).alloc (.cells #[.slice sa s sc, .slice la m lc] 27) := ⟨_, rfl⟩
  have hB : Below w.heap.size w u := by rw [hu]; exact below_alloc2 _ _ _
  have hx : Fx u w.heap.size t a cap sa s sc la m lc := by rw [hu]; exact fx_new _ _ _ _ _ _ _ _ _ _
  have HX : Hid (∀ z, Below u.heap.size u z → Fx z w.heap.size t a cap sa s sc la m lc ∧ Below w.heap.size w z ∧ Fw z t a sa s sc la m lc S L) := fun z hz => ⟨hx.below hz, hB.trans (hz.mono hB.size), (h.below hB).below hz⟩
  have C1 := hid (wordRef_any sa s sc la m lc u h.wd.s47 h.wd.m47)
  have HU := hid hu
  obtain ⟨eq, heq⟩ : ∃ y, y = wchk s m := ⟨_, rfl⟩
  have HE : Hid (wchk s m = eq) := hid heq.symm
  have heb : (eq == 0) = false := by rw [heq]; exact beq_eq_false_iff_ne.2 h0
  have hen : ¬ eq = 0 := by rw [heq]; exact h0
  have hem : (eq != 0) = true := by rw [bne, heb]; rfl
  rw [← heq] at C1
  have HAT : Hid (atV s m S L i = (0, eq)) := by unfold atV; rw [if_pos h0, ← heq]; exact hid rfl
  have HQ : Hid (hchk t s m ≠ 0) := by rw [hchk_bad_f hc]; exact hid hc
  obtain ⟨cq, hcq⟩ : ∃ y, y = (chk t 1 0).1 := ⟨_, rfl⟩
  have HQE : Hid (hchk t s m = cq) := by rw [hcq]; exact hchk_bad_f hc
  have HCE : Hid ((chk t 1 0).1 = cq) := hid hcq.symm
  have hcb : (cq == 0) = false := by rw [hcq]; exact beq_eq_false_iff_ne.2 hc
  clear hcq hc
  clear heq h0 hu hB hx h
  go_enter Tryd.func3, Tryd.ntmps3
  go_wp2_with fail
  rw [← HU.out]
  refine C1.out.mono ?_
  rintro e w1 ⟨rfl, hb⟩
  have Hw1 : Hid (Below u.heap.size u w1) := hb
  clear hb C1
  obtain ⟨⟨f0, f1, f2, g0, g1⟩, hbw, hfw⟩ := HX.out w1 Hw1.out
  have HBW := hid hbw
  have HFW := hid hfw
  clear hbw hfw
  have A := hid (at_any (sc := sc) (lc := lc) HFW.out.wd i hi63)
  rw [HAT.out] at A
  have D := hid (A.out)
  go_wp2_with fail
  refine D.out.mono ?_
  rintro e w2 ⟨rfl, hb⟩
  have Hw2 : Hid (Below u.heap.size u w2) := Hw1.out.trans (hb.mono Hw1.out.size)
  clear D hb f0 f1 f2 g0 g1 HBW HFW
  obtain ⟨⟨f0, f1, f2, g0, g1⟩, hbw, hfw⟩ := HX.out w2 Hw2.out
  have HBW := hid hbw
  have HFW := hid hfw
  clear hbw hfw
  have A2 := hid (wcheck_any sa s sc la m lc w2 HFW.out.wd.s47 HFW.out.wd.m47)
  rw [HE.out] at A2
  have D := hid (A2.out)
  go_wp2_with fail
  refine D.out.mono ?_
  rintro e w3 ⟨rfl, hb⟩
  have Hw3 : Hid (Below u.heap.size u w3) := Hw2.out.trans (hb.mono Hw2.out.size)
  clear D hb f0 f1 f2 g0 g1 HBW HFW
  obtain ⟨⟨f0, f1, f2, g0, g1⟩, hbw, hfw⟩ := HX.out w3 Hw3.out
  have HBW := hid hbw
  have HFW := hid hfw
  clear hbw hfw
  have A4 := hid (holdsF_bad (cap := cap) HFW.out HQ.out)
  rw [HQE.out] at A4
  have D := hid (A4.out)
  go_wp2_with fail
  refine D.out.mono ?_
  rintro e w5 ⟨rfl, hb⟩
  have Hw5 : Hid (Below u.heap.size u w5) := Hw3.out.trans (hb.mono Hw3.out.size)
  clear D hb f0 f1 f2 g0 g1 HBW HFW
  obtain ⟨⟨f0, f1, f2, g0, g1⟩, hbw, hfw⟩ := HX.out w5 Hw5.out
  have HBW := hid hbw
  have HFW := hid hfw
  clear hbw hfw
  have A5 := hid (ltl_any t a cap w5 HFW.out.kds HFW.out.cnt)
  rw [HCE.out] at A5
  have D := hid (A5.out)
  go_wp2_with fail
  refine D.out.mono ?_
  rintro e w6 ⟨rfl, hb⟩
  have Hw6 : Hid (Below u.heap.size u w6) := Hw5.out.trans (hb.mono Hw5.out.size)
  clear D hb f0 f1 f2 g0 g1 HBW HFW
  obtain ⟨⟨f0, f1, f2, g0, g1⟩, hbw, hfw⟩ := HX.out w6 Hw6.out
  have HBW := hid hbw
  have HFW := hid hfw
  clear hbw hfw
  go_wp2
  go_ret
  exact ⟨by first | rfl | simp, HBW.out⟩

set_option maxHeartbeats 4000000 in
theorem says_Aw {w : World} {t : Fml} {a : Option Addr} {cap : Nat} {sa : Option Addr} {s sc : Nat} {la : Option Addr} {m lc : Nat} {S L : Nat → Int} (h : Fw w t a sa s sc la m lc S L) (i : Int) (hi63 : i ≤ 9223372036854775807) (h0 : wchk s m ≠ 0) (hc : (chk t 1 0).1 = 0) :
    Calls Tryd.prog 3 #[.agg #[.int .i64 t.kind, .int .i64 t.num, .slice a t.cnt cap], .agg #[.slice sa s sc, .slice la m lc], .int .i64 i] w fun e w' => e = .returned (.bool true) ∧ Below w.heap.size w w' := by
  obtain ⟨u, hu⟩ : ∃ y, y = (w.alloc (.cells #[.int .i64 t.kind, .int .i64 t.num, .slice a t.cnt cap] 24)).alloc (.cells #[.slice sa s sc, .slice la m lc] 27) := ⟨_, rfl⟩
  have hB : Below w.heap.size w u := by rw [hu]; exact below_alloc2 _ _ _
  have hx : Fx u w.heap.size t a cap sa s sc la m lc := by rw [hu]; exact fx_new _ _ _ _ _ _ _ _ _ _
  have HX : Hid (∀ z, Below u.heap.size u z → Fx z w.heap.size t a cap sa s sc la m lc ∧ Below w.heap.size w z ∧ Fw z t a sa s sc la m lc S L) := fun z hz => ⟨hx.below hz, hB.trans (hz.mono hB.size), (h.below hB).below hz⟩
  have C1 := hid (wordRef_any sa s sc la m lc u h.wd.s47 h.wd.m47)
  have HU := hid hu
  obtain ⟨eq, heq⟩ : ∃ y, y = wchk s m := ⟨_, rfl⟩
  have HE : Hid (wchk s m = eq) := hid heq.symm
  have heb : (eq == 0) = false := by rw [heq]; exact beq_eq_false_iff_ne.2 h0
  have hen : ¬ eq = 0 := by rw [heq]; exact h0
  have hem : (eq != 0) = true := by rw [bne, heb]; rfl
  rw [← heq] at C1
  have HAT : Hid (atV s m S L i = (0, eq)) := by unfold atV; rw [if_pos h0, ← heq]; exact hid rfl
  have HQ : Hid (hchk t s m ≠ 0) := by rw [hchk_ok_f hc]; exact hid h0
  have HQE : Hid (hchk t s m = eq) := by rw [hchk_ok_f hc, heq]; exact hid rfl
  have HCE : Hid ((chk t 1 0).1 = 0) := hc
  clear hc
  clear heq h0 hu hB hx h
  go_enter Tryd.func3, Tryd.ntmps3
  go_wp2_with fail
  rw [← HU.out]
  refine C1.out.mono ?_
  rintro e w1 ⟨rfl, hb⟩
  have Hw1 : Hid (Below u.heap.size u w1) := hb
  clear hb C1
  obtain ⟨⟨f0, f1, f2, g0, g1⟩, hbw, hfw⟩ := HX.out w1 Hw1.out
  have HBW := hid hbw
  have HFW := hid hfw
  clear hbw hfw
  have A := hid (at_any (sc := sc) (lc := lc) HFW.out.wd i hi63)
  rw [HAT.out] at A
  have D := hid (A.out)
  go_wp2_with fail
  refine D.out.mono ?_
  rintro e w2 ⟨rfl, hb⟩
  have Hw2 : Hid (Below u.heap.size u w2) := Hw1.out.trans (hb.mono Hw1.out.size)
  clear D hb f0 f1 f2 g0 g1 HBW HFW
  obtain ⟨⟨f0, f1, f2, g0, g1⟩, hbw, hfw⟩ := HX.out w2 Hw2.out
  have HBW := hid hbw
  have HFW := hid hfw
  clear hbw hfw
  have A2 := hid (wcheck_any sa s sc la m lc w2 HFW.out.wd.s47 HFW.out.wd.m47)
  rw [HE.out] at A2
  have D := hid (A2.out)
  go_wp2_with fail
  refine D.out.mono ?_
  rintro e w3 ⟨rfl, hb⟩
  have Hw3 : Hid (Below u.heap.size u w3) := Hw2.out.trans (hb.mono Hw2.out.size)
  clear D hb f0 f1 f2 g0 g1 HBW HFW
  obtain ⟨⟨f0, f1, f2, g0, g1⟩, hbw, hfw⟩ := HX.out w3 Hw3.out
  have HBW := hid hbw
  have HFW := hid hfw
  clear hbw hfw
  have A4 := hid (holdsF_bad (cap := cap) HFW.out HQ.out)
  rw [HQE.out] at A4
  have D := hid (A4.out)
  go_wp2_with fail
  refine D.out.mono ?_
  rintro e w5 ⟨rfl, hb⟩
  have Hw5 : Hid (Below u.heap.size u w5) := Hw3.out.trans (hb.mono Hw3.out.size)
  clear D hb f0 f1 f2 g0 g1 HBW HFW
  obtain ⟨⟨f0, f1, f2, g0, g1⟩, hbw, hfw⟩ := HX.out w5 Hw5.out
  have HBW := hid hbw
  have HFW := hid hfw
  clear hbw hfw
  have A5 := hid (ltl_any t a cap w5 HFW.out.kds HFW.out.cnt)
  rw [HCE.out] at A5
  have D := hid (A5.out)
  go_wp2_with fail
  refine D.out.mono ?_
  rintro e w6 ⟨rfl, hb⟩
  have Hw6 : Hid (Below u.heap.size u w6) := Hw5.out.trans (hb.mono Hw5.out.size)
  clear D hb f0 f1 f2 g0 g1 HBW HFW
  obtain ⟨⟨f0, f1, f2, g0, g1⟩, hbw, hfw⟩ := HX.out w6 Hw6.out
  have HBW := hid hbw
  have HFW := hid hfw
  clear hbw hfw
  go_wp2
  go_ret
  exact ⟨by first | rfl | simp, HBW.out⟩

set_option maxHeartbeats 4000000 in
theorem says_Bc {w : World} {t : Fml} {a : Option Addr} {cap : Nat} {sa : Option Addr} {s sc : Nat} {la : Option Addr} {m lc : Nat} {S L : Nat → Int} (h : Fw w t a sa s sc la m lc S L) (i : Int) (hi63 : i ≤ 9223372036854775807) (h0 : wchk s m = 0) (hi : i < 0) (hc : (chk t 1 0).1 ≠ 0) :
    Calls Tryd.prog 3 #[.agg #[.int .i64 t.kind, .int .i64 t.num, .slice a t.cnt cap], .agg #[.slice sa s sc, .slice la m lc], .int .i64 i] w fun e w' => e = .returned (.bool true) ∧ Below w.heap.size w w' := by
  obtain ⟨u, hu⟩ : ∃ y, y = (w.alloc (.cells #[.int .i64 t.kind, .int .i64 t.num, .slice a t.cnt cap] 24)).alloc (.cells #[.slice sa s sc, .slice la m lc] 27) := ⟨_, rfl⟩
  have hB : Below w.heap.size w u := by rw [hu]; exact below_alloc2 _ _ _
  have hx : Fx u w.heap.size t a cap sa s sc la m lc := by rw [hu]; exact fx_new _ _ _ _ _ _ _ _ _ _
  have HX : Hid (∀ z, Below u.heap.size u z → Fx z w.heap.size t a cap sa s sc la m lc ∧ Below w.heap.size w z ∧ Fw z t a sa s sc la m lc S L) := fun z hz => ⟨hx.below hz, hB.trans (hz.mono hB.size), (h.below hB).below hz⟩
  have C1 := hid (wordRef_any sa s sc la m lc u h.wd.s47 h.wd.m47)
  have HU := hid hu
  obtain ⟨h60, hm0⟩ := wchk_ok h0
  have HE : Hid (wchk s m = 0) := h0
  rw [h0] at C1
  have HAT : Hid (atV s m S L i = (0, 1)) := by unfold atV; rw [if_neg (by rw [h0]; decide), if_pos hi]; exact hid rfl
  have HQ : Hid (hchk t s m ≠ 0) := by rw [hchk_bad_f hc]; exact hid hc
  obtain ⟨cq, hcq⟩ : ∃ y, y = (chk t 1 0).1 := ⟨_, rfl⟩
  have HQE : Hid (hchk t s m = cq) := by rw [hcq]; exact hchk_bad_f hc
  have HCE : Hid ((chk t 1 0).1 = cq) := hid hcq.symm
  have hcb : (cq == 0) = false := by rw [hcq]; exact beq_eq_false_iff_ne.2 hc
  clear hcq hc
  clear h0 hu hB hx h
  go_enter Tryd.func3, Tryd.ntmps3
  go_wp2_with fail
  rw [← HU.out]
  refine C1.out.mono ?_
  rintro e w1 ⟨rfl, hb⟩
  have Hw1 : Hid (Below u.heap.size u w1) := hb
  clear hb C1
  obtain ⟨⟨f0, f1, f2, g0, g1⟩, hbw, hfw⟩ := HX.out w1 Hw1.out
  have HBW := hid hbw
  have HFW := hid hfw
  clear hbw hfw
  have A := hid (at_any (sc := sc) (lc := lc) HFW.out.wd i hi63)
  rw [HAT.out] at A
  have D := hid (A.out)
  go_wp2_with fail
  refine D.out.mono ?_
  rintro e w2 ⟨rfl, hb⟩
  have Hw2 : Hid (Below u.heap.size u w2) := Hw1.out.trans (hb.mono Hw1.out.size)
  clear D hb f0 f1 f2 g0 g1 HBW HFW
  obtain ⟨⟨f0, f1, f2, g0, g1⟩, hbw, hfw⟩ := HX.out w2 Hw2.out
  have HBW := hid hbw
  have HFW := hid hfw
  clear hbw hfw
  have A2 := hid (wcheck_any sa s sc la m lc w2 HFW.out.wd.s47 HFW.out.wd.m47)
  rw [HE.out] at A2
  have D := hid (A2.out)
  go_wp2_with fail
  refine D.out.mono ?_
  rintro e w3 ⟨rfl, hb⟩
  have Hw3 : Hid (Below u.heap.size u w3) := Hw2.out.trans (hb.mono Hw2.out.size)
  clear D hb f0 f1 f2 g0 g1 HBW HFW
  obtain ⟨⟨f0, f1, f2, g0, g1⟩, hbw, hfw⟩ := HX.out w3 Hw3.out
  have HBW := hid hbw
  have HFW := hid hfw
  clear hbw hfw
  have A4 := hid (holdsF_bad (cap := cap) HFW.out HQ.out)
  rw [HQE.out] at A4
  have D := hid (A4.out)
  go_wp2_with fail
  refine D.out.mono ?_
  rintro e w5 ⟨rfl, hb⟩
  have Hw5 : Hid (Below u.heap.size u w5) := Hw3.out.trans (hb.mono Hw3.out.size)
  clear D hb f0 f1 f2 g0 g1 HBW HFW
  obtain ⟨⟨f0, f1, f2, g0, g1⟩, hbw, hfw⟩ := HX.out w5 Hw5.out
  have HBW := hid hbw
  have HFW := hid hfw
  clear hbw hfw
  have A5 := hid (ltl_any t a cap w5 HFW.out.kds HFW.out.cnt)
  rw [HCE.out] at A5
  have D := hid (A5.out)
  go_wp2_with fail
  refine D.out.mono ?_
  rintro e w6 ⟨rfl, hb⟩
  have Hw6 : Hid (Below u.heap.size u w6) := Hw5.out.trans (hb.mono Hw5.out.size)
  clear D hb f0 f1 f2 g0 g1 HBW HFW
  obtain ⟨⟨f0, f1, f2, g0, g1⟩, hbw, hfw⟩ := HX.out w6 Hw6.out
  have HBW := hid hbw
  have HFW := hid hfw
  clear hbw hfw
  go_wp2
  go_ret
  exact ⟨by first | rfl | simp, HBW.out⟩

set_option maxHeartbeats 4000000 in
theorem says_Bo {w : World} {t : Fml} {a : Option Addr} {cap : Nat} {sa : Option Addr} {s sc : Nat} {la : Option Addr} {m lc : Nat} {S L : Nat → Int} (h : Fw w t a sa s sc la m lc S L) (i : Int) (hi63 : i ≤ 9223372036854775807) (h0 : wchk s m = 0) (hi : i < 0) (hc : (chk t 1 0).1 = 0) :
    Calls Tryd.prog 3 #[.agg #[.int .i64 t.kind, .int .i64 t.num, .slice a t.cnt cap], .agg #[.slice sa s sc, .slice la m lc], .int .i64 i] w fun e w' => e = .returned (.bool true) ∧ Below w.heap.size w w' := by
  obtain ⟨u, hu⟩ : ∃ y, y = (w.alloc (.cells #[.int .i64 t.kind, .int .i64 t.num, .slice a t.cnt cap] 24)).alloc (.cells #[.slice sa s sc, .slice la m lc] 27) := ⟨_, rfl⟩
  have hB : Below w.heap.size w u := by rw [hu]; exact below_alloc2 _ _ _
  have hx : Fx u w.heap.size t a cap sa s sc la m lc := by rw [hu]; exact fx_new _ _ _ _ _ _ _ _ _ _
  have HX : Hid (∀ z, Below u.heap.size u z → Fx z w.heap.size t a cap sa s sc la m lc ∧ Below w.heap.size w z ∧ Fw z t a sa s sc la m lc S L) := fun z hz => ⟨hx.below hz, hB.trans (hz.mono hB.size), (h.below hB).below hz⟩
  have C1 := hid (wordRef_any sa s sc la m lc u h.wd.s47 h.wd.m47)
  have HU := hid hu
  obtain ⟨h60, hm0⟩ := wchk_ok h0
  have HE : Hid (wchk s m = 0) := h0
  rw [h0] at C1
  have HAT : Hid (atV s m S L i = (0, 1)) := by unfold atV; rw [if_neg (by rw [h0]; decide), if_pos hi]; exact hid rfl
  have HQ : Hid (hchk t s m = 0) := by rw [hchk_ok_f hc]; exact hid h0
  have HCE : Hid ((chk t 1 0).1 = 0) := hc
  clear hc
  clear h0 hu hB hx h
  go_enter Tryd.func3, Tryd.ntmps3
  go_wp2_with fail
  rw [← HU.out]
  refine C1.out.mono ?_
  rintro e w1 ⟨rfl, hb⟩
  have Hw1 : Hid (Below u.heap.size u w1) := hb
  clear hb C1
  obtain ⟨⟨f0, f1, f2, g0, g1⟩, hbw, hfw⟩ := HX.out w1 Hw1.out
  have HBW := hid hbw
  have HFW := hid hfw
  clear hbw hfw
  have A := hid (at_any (sc := sc) (lc := lc) HFW.out.wd i hi63)
  rw [HAT.out] at A
  have D := hid (A.out)
  go_wp2_with fail
  refine D.out.mono ?_
  rintro e w2 ⟨rfl, hb⟩
  have Hw2 : Hid (Below u.heap.size u w2) := Hw1.out.trans (hb.mono Hw1.out.size)
  clear D hb f0 f1 f2 g0 g1 HBW HFW
  obtain ⟨⟨f0, f1, f2, g0, g1⟩, hbw, hfw⟩ := HX.out w2 Hw2.out
  have HBW := hid hbw
  have HFW := hid hfw
  clear hbw hfw
  have A2 := hid (wcheck_any sa s sc la m lc w2 HFW.out.wd.s47 HFW.out.wd.m47)
  rw [HE.out] at A2
  have D := hid (A2.out)
  go_wp2_with fail
  refine D.out.mono ?_
  rintro e w3 ⟨rfl, hb⟩
  have Hw3 : Hid (Below u.heap.size u w3) := Hw2.out.trans (hb.mono Hw2.out.size)
  clear D hb f0 f1 f2 g0 g1 HBW HFW
  obtain ⟨⟨f0, f1, f2, g0, g1⟩, hbw, hfw⟩ := HX.out w3 Hw3.out
  have HBW := hid hbw
  have HFW := hid hfw
  clear hbw hfw
  have A4 := hid (holdsF_ok (cap := cap) HFW.out HQ.out)
  go_wp2_with fail
  refine A4.out.mono ?_
  rintro e w5 ⟨b5, rfl, hb1, hr5, hb5⟩
  have hbb := Hw3.out.trans (hb5.mono Hw3.out.size)
  have Hw5 := hid hbb
  have HR5 := hid hr5
  clear hbb A4 hb5 hb1 hr5 f0 f1 f2 g0 g1 HBW HFW
  obtain ⟨⟨f0, f1, f2, g0, g1⟩, hbw, hfw⟩ := HX.out w5 Hw5.out
  have HBW := hid hbw
  have HFW := hid hfw
  clear hbw hfw
  have A5 := hid (ltl_any t a cap w5 HFW.out.kds HFW.out.cnt)
  rw [HCE.out] at A5
  go_wp2_with fail
  refine A5.out.mono ?_
  rintro e w6 ⟨rfl, hb⟩
  have HR6 := hid (rowIs_below HR5.out hb)
  have Hw6 : Hid (Below u.heap.size u w6) := Hw5.out.trans (hb.mono Hw5.out.size)
  clear A5 hb f0 f1 f2 g0 g1 HBW HFW
  obtain ⟨⟨f0, f1, f2, g0, g1⟩, hbw, hfw⟩ := HX.out w6 Hw6.out
  have HBW := hid hbw
  have HFW := hid hfw
  clear hbw hfw
  have A6 := hid (true_any (sc := sc) (lc := lc) h60 hm0 t a cap w6 HFW.out.kds (chk_wf t 1 0 HCE.out).1 HFW.out.wd)
  go_wp2_with fail
  refine A6.out.mono ?_
  rintro e w7 ⟨b7, rfl, _, hr7, hb⟩
  have A7 := hid (equalB_any (c := s + m) (c' := s + m) (by omega : s + m ≤ 1000) (rowIs_rowB (rowIs_below HR6.out hb)) (rowIs_rowB hr7))
  have Hw7 := hid (HBW.out.trans (hb.mono HBW.out.size))
  clear A6 hb hr7 f0 f1 f2 g0 g1 HBW HFW
  go_wp2_with fail
  refine A7.out.mono ?_
  rintro e w8 ⟨rfl, q8, rfl⟩
  go_wp2
  go_ret
  exact ⟨by first | rfl | simp, below_drewN Hw7.out _⟩

set_option maxHeartbeats 4000000 in
theorem says_Cc {w : World} {t : Fml} {a : Option Addr} {cap : Nat} {sa : Option Addr} {s sc : Nat} {la : Option Addr} {m lc : Nat} {S L : Nat → Int} (h : Fw w t a sa s sc la m lc S L) (i : Int) (hi63 : i ≤ 9223372036854775807) (h0 : wchk s m = 0) (hi : 100000 ≤ i) (hc : (chk t 1 0).1 ≠ 0) :
    Calls Tryd.prog 3 #[.agg #[.int .i64 t.kind, .int .i64 t.num, .slice a t.cnt cap], .agg #[.slice sa s sc, .slice la m lc], .int .i64 i] w fun e w' => e = .returned (.bool true) ∧ Below w.heap.size w w' := by
  obtain ⟨u, hu⟩ : ∃ y, y = (w.alloc (.cells #[.int .i64 t.kind, .int .i64 t.num, .slice a t.cnt cap] 24)).alloc (.cells #[.slice sa s sc, .slice la m lc] 27) := ⟨_, rfl⟩
  have hB : Below w.heap.size w u := by rw [hu]; exact below_alloc2 _ _ _
  have hx : Fx u w.heap.size t a cap sa s sc la m lc := by rw [hu]; exact fx_new _ _ _ _ _ _ _ _ _ _
  have HX : Hid (∀ z, Below u.heap.size u z → Fx z w.heap.size t a cap sa s sc la m lc ∧ Below w.heap.size w z ∧ Fw z t a sa s sc la m lc S L) := fun z hz => ⟨hx.below hz, hB.trans (hz.mono hB.size), (h.below hB).below hz⟩
  have C1 := hid (wordRef_any sa s sc la m lc u h.wd.s47 h.wd.m47)
  have HU := hid hu
  obtain ⟨h60, hm0⟩ := wchk_ok h0
  have HE : Hid (wchk s m = 0) := h0
  rw [h0] at C1
  obtain ⟨lz, hlz⟩ : ∃ y, y = ltr s m S L i.toNat := ⟨_, rfl⟩
  have HAT : Hid (atV s m S L i = (lz, 0)) := by unfold atV; rw [if_neg (by rw [h0]; decide), if_neg (by omega), hlz]; exact hid rfl
  clear hlz
  have HQ : Hid (hchk t s m ≠ 0) := by rw [hchk_bad_f hc]; exact hid hc
  obtain ⟨cq, hcq⟩ : ∃ y, y = (chk t 1 0).1 := ⟨_, rfl⟩
  have HQE : Hid (hchk t s m = cq) := by rw [hcq]; exact hchk_bad_f hc
  have HCE : Hid ((chk t 1 0).1 = cq) := hid hcq.symm
  have hcb : (cq == 0) = false := by rw [hcq]; exact beq_eq_false_iff_ne.2 hc
  clear hcq hc
  clear h0 hu hB hx h
  go_enter Tryd.func3, Tryd.ntmps3
  go_wp2_with fail
  rw [← HU.out]
  refine C1.out.mono ?_
  rintro e w1 ⟨rfl, hb⟩
  have Hw1 : Hid (Below u.heap.size u w1) := hb
  clear hb C1
  obtain ⟨⟨f0, f1, f2, g0, g1⟩, hbw, hfw⟩ := HX.out w1 Hw1.out
  have HBW := hid hbw
  have HFW := hid hfw
  clear hbw hfw
  have A := hid (at_any (sc := sc) (lc := lc) HFW.out.wd i hi63)
  rw [HAT.out] at A
  have D := hid (A.out)
  go_wp2_with fail
  refine D.out.mono ?_
  rintro e w2 ⟨rfl, hb⟩
  have Hw2 : Hid (Below u.heap.size u w2) := Hw1.out.trans (hb.mono Hw1.out.size)
  clear D hb f0 f1 f2 g0 g1 HBW HFW
  obtain ⟨⟨f0, f1, f2, g0, g1⟩, hbw, hfw⟩ := HX.out w2 Hw2.out
  have HBW := hid hbw
  have HFW := hid hfw
  clear hbw hfw
  have A2 := hid (wcheck_any sa s sc la m lc w2 HFW.out.wd.s47 HFW.out.wd.m47)
  rw [HE.out] at A2
  have D := hid (A2.out)
  go_wp2_with fail
  refine D.out.mono ?_
  rintro e w3 ⟨rfl, hb⟩
  have Hw3 : Hid (Below u.heap.size u w3) := Hw2.out.trans (hb.mono Hw2.out.size)
  clear D hb f0 f1 f2 g0 g1 HBW HFW
  obtain ⟨⟨f0, f1, f2, g0, g1⟩, hbw, hfw⟩ := HX.out w3 Hw3.out
  have HBW := hid hbw
  have HFW := hid hfw
  clear hbw hfw
  have A4 := hid (holdsF_bad (cap := cap) HFW.out HQ.out)
  rw [HQE.out] at A4
  have D := hid (A4.out)
  go_wp2_with fail
  refine D.out.mono ?_
  rintro e w5 ⟨rfl, hb⟩
  have Hw5 : Hid (Below u.heap.size u w5) := Hw3.out.trans (hb.mono Hw3.out.size)
  clear D hb f0 f1 f2 g0 g1 HBW HFW
  obtain ⟨⟨f0, f1, f2, g0, g1⟩, hbw, hfw⟩ := HX.out w5 Hw5.out
  have HBW := hid hbw
  have HFW := hid hfw
  clear hbw hfw
  have A5 := hid (ltl_any t a cap w5 HFW.out.kds HFW.out.cnt)
  rw [HCE.out] at A5
  have D := hid (A5.out)
  go_wp2_with fail
  refine D.out.mono ?_
  rintro e w6 ⟨rfl, hb⟩
  have Hw6 : Hid (Below u.heap.size u w6) := Hw5.out.trans (hb.mono Hw5.out.size)
  clear D hb f0 f1 f2 g0 g1 HBW HFW
  obtain ⟨⟨f0, f1, f2, g0, g1⟩, hbw, hfw⟩ := HX.out w6 Hw6.out
  have HBW := hid hbw
  have HFW := hid hfw
  clear hbw hfw
  go_wp2
  go_ret
  exact ⟨by first | rfl | simp, HBW.out⟩

set_option maxHeartbeats 4000000 in
theorem says_Co {w : World} {t : Fml} {a : Option Addr} {cap : Nat} {sa : Option Addr} {s sc : Nat} {la : Option Addr} {m lc : Nat} {S L : Nat → Int} (h : Fw w t a sa s sc la m lc S L) (i : Int) (hi63 : i ≤ 9223372036854775807) (h0 : wchk s m = 0) (hi : 100000 ≤ i) (hc : (chk t 1 0).1 = 0) :
    Calls Tryd.prog 3 #[.agg #[.int .i64 t.kind, .int .i64 t.num, .slice a t.cnt cap], .agg #[.slice sa s sc, .slice la m lc], .int .i64 i] w fun e w' => e = .returned (.bool true) ∧ Below w.heap.size w w' := by
  obtain ⟨u, hu⟩ : ∃ y, y = (w.alloc (.cells #[.int .i64 t.kind, .int .i64 t.num, .slice a t.cnt cap] 24)).alloc (.cells #[.slice sa s sc, .slice la m lc] 27) := ⟨_, rfl⟩
  have hB : Below w.heap.size w u := by rw [hu]; exact below_alloc2 _ _ _
  have hx : Fx u w.heap.size t a cap sa s sc la m lc := by rw [hu]; exact fx_new _ _ _ _ _ _ _ _ _ _
  have HX : Hid (∀ z, Below u.heap.size u z → Fx z w.heap.size t a cap sa s sc la m lc ∧ Below w.heap.size w z ∧ Fw z t a sa s sc la m lc S L) := fun z hz => ⟨hx.below hz, hB.trans (hz.mono hB.size), (h.below hB).below hz⟩
  have C1 := hid (wordRef_any sa s sc la m lc u h.wd.s47 h.wd.m47)
  have HU := hid hu
  obtain ⟨h60, hm0⟩ := wchk_ok h0
  have HE : Hid (wchk s m = 0) := h0
  rw [h0] at C1
  obtain ⟨lz, hlz⟩ : ∃ y, y = ltr s m S L i.toNat := ⟨_, rfl⟩
  have HAT : Hid (atV s m S L i = (lz, 0)) := by unfold atV; rw [if_neg (by rw [h0]; decide), if_neg (by omega), hlz]; exact hid rfl
  clear hlz
  have HQ : Hid (hchk t s m = 0) := by rw [hchk_ok_f hc]; exact hid h0
  have HCE : Hid ((chk t 1 0).1 = 0) := hc
  clear hc
  clear h0 hu hB hx h
  go_enter Tryd.func3, Tryd.ntmps3
  go_wp2_with fail
  rw [← HU.out]
  refine C1.out.mono ?_
  rintro e w1 ⟨rfl, hb⟩
  have Hw1 : Hid (Below u.heap.size u w1) := hb
  clear hb C1
  obtain ⟨⟨f0, f1, f2, g0, g1⟩, hbw, hfw⟩ := HX.out w1 Hw1.out
  have HBW := hid hbw
  have HFW := hid hfw
  clear hbw hfw
  have A := hid (at_any (sc := sc) (lc := lc) HFW.out.wd i hi63)
  rw [HAT.out] at A
  have D := hid (A.out)
  go_wp2_with fail
  refine D.out.mono ?_
  rintro e w2 ⟨rfl, hb⟩
  have Hw2 : Hid (Below u.heap.size u w2) := Hw1.out.trans (hb.mono Hw1.out.size)
  clear D hb f0 f1 f2 g0 g1 HBW HFW
  obtain ⟨⟨f0, f1, f2, g0, g1⟩, hbw, hfw⟩ := HX.out w2 Hw2.out
  have HBW := hid hbw
  have HFW := hid hfw
  clear hbw hfw
  have A2 := hid (wcheck_any sa s sc la m lc w2 HFW.out.wd.s47 HFW.out.wd.m47)
  rw [HE.out] at A2
  have D := hid (A2.out)
  go_wp2_with fail
  refine D.out.mono ?_
  rintro e w3 ⟨rfl, hb⟩
  have Hw3 : Hid (Below u.heap.size u w3) := Hw2.out.trans (hb.mono Hw2.out.size)
  clear D hb f0 f1 f2 g0 g1 HBW HFW
  obtain ⟨⟨f0, f1, f2, g0, g1⟩, hbw, hfw⟩ := HX.out w3 Hw3.out
  have HBW := hid hbw
  have HFW := hid hfw
  clear hbw hfw
  have A4 := hid (holdsF_ok (cap := cap) HFW.out HQ.out)
  go_wp2_with fail
  refine A4.out.mono ?_
  rintro e w5 ⟨b5, rfl, hb1, hr5, hb5⟩
  have hbb := Hw3.out.trans (hb5.mono Hw3.out.size)
  have Hw5 := hid hbb
  have HR5 := hid hr5
  clear hbb A4 hb5 hb1 hr5 f0 f1 f2 g0 g1 HBW HFW
  obtain ⟨⟨f0, f1, f2, g0, g1⟩, hbw, hfw⟩ := HX.out w5 Hw5.out
  have HBW := hid hbw
  have HFW := hid hfw
  clear hbw hfw
  have A5 := hid (ltl_any t a cap w5 HFW.out.kds HFW.out.cnt)
  rw [HCE.out] at A5
  go_wp2_with fail
  refine A5.out.mono ?_
  rintro e w6 ⟨rfl, hb⟩
  have HR6 := hid (rowIs_below HR5.out hb)
  have Hw6 : Hid (Below u.heap.size u w6) := Hw5.out.trans (hb.mono Hw5.out.size)
  clear A5 hb f0 f1 f2 g0 g1 HBW HFW
  obtain ⟨⟨f0, f1, f2, g0, g1⟩, hbw, hfw⟩ := HX.out w6 Hw6.out
  have HBW := hid hbw
  have HFW := hid hfw
  clear hbw hfw
  have A6 := hid (true_any (sc := sc) (lc := lc) h60 hm0 t a cap w6 HFW.out.kds (chk_wf t 1 0 HCE.out).1 HFW.out.wd)
  go_wp2_with fail
  refine A6.out.mono ?_
  rintro e w7 ⟨b7, rfl, _, hr7, hb⟩
  have A7 := hid (equalB_any (c := s + m) (c' := s + m) (by omega : s + m ≤ 1000) (rowIs_rowB (rowIs_below HR6.out hb)) (rowIs_rowB hr7))
  have Hw7 := hid (HBW.out.trans (hb.mono HBW.out.size))
  clear A6 hb hr7 f0 f1 f2 g0 g1 HBW HFW
  go_wp2_with fail
  refine A7.out.mono ?_
  rintro e w8 ⟨rfl, q8, rfl⟩
  go_wp2
  go_ret
  exact ⟨by first | rfl | simp, below_drewN Hw7.out _⟩

set_option maxHeartbeats 4000000 in
theorem says_Dc {w : World} {t : Fml} {a : Option Addr} {cap : Nat} {sa : Option Addr} {s sc : Nat} {la : Option Addr} {m lc : Nat} {S L : Nat → Int} (h : Fw w t a sa s sc la m lc S L) (i : Int) (hi63 : i ≤ 9223372036854775807) (h0 : wchk s m = 0) (hi0 : 0 ≤ i) (hi : i < 100000) (hc : (chk t 1 0).1 ≠ 0) :
    Calls Tryd.prog 3 #[.agg #[.int .i64 t.kind, .int .i64 t.num, .slice a t.cnt cap], .agg #[.slice sa s sc, .slice la m lc], .int .i64 i] w fun e w' => e = .returned (.bool true) ∧ Below w.heap.size w w' := by
  obtain ⟨u, hu⟩ : ∃ y, y = (w.alloc (.cells #[.int .i64 t.kind, .int .i64 t.num, .slice a t.cnt cap] 24)).alloc (.cells #[.slice sa s sc, .slice la m lc] 27) := ⟨_, rfl⟩
  have hB : Below w.heap.size w u := by rw [hu]; exact below_alloc2 _ _ _
  have hx : Fx u w.heap.size t a cap sa s sc la m lc := by rw [hu]; exact fx_new _ _ _ _ _ _ _ _ _ _
  have HX : Hid (∀ z, Below u.heap.size u z → Fx z w.heap.size t a cap sa s sc la m lc ∧ Below w.heap.size w z ∧ Fw z t a sa s sc la m lc S L) := fun z hz => ⟨hx.below hz, hB.trans (hz.mono hB.size), (h.below hB).below hz⟩
  have C1 := hid (wordRef_any sa s sc la m lc u h.wd.s47 h.wd.m47)
  have HU := hid hu
  obtain ⟨h60, hm0⟩ := wchk_ok h0
  have HE : Hid (wchk s m = 0) := h0
  rw [h0] at C1
  obtain ⟨lz, hlz⟩ : ∃ y, y = ltr s m S L i.toNat := ⟨_, rfl⟩
  have HAT : Hid (atV s m S L i = (lz, 0)) := by unfold atV; rw [if_neg (by rw [h0]; decide), if_neg (by omega), hlz]; exact hid rfl
  have HLT : Hid (ltr s m S L i.toNat = lz) := hid hlz.symm
  clear hlz
  have HQ : Hid (hchk t s m ≠ 0) := by rw [hchk_bad_f hc]; exact hid hc
  obtain ⟨cq, hcq⟩ : ∃ y, y = (chk t 1 0).1 := ⟨_, rfl⟩
  have HQE : Hid (hchk t s m = cq) := by rw [hcq]; exact hchk_bad_f hc
  have HCE : Hid ((chk t 1 0).1 = cq) := hid hcq.symm
  have hcb : (cq == 0) = false := by rw [hcq]; exact beq_eq_false_iff_ne.2 hc
  clear hcq hc
  clear h0 hu hB hx h
  go_enter Tryd.func3, Tryd.ntmps3
  go_wp2_with fail
  rw [← HU.out]
  refine C1.out.mono ?_
  rintro e w1 ⟨rfl, hb⟩
  have Hw1 : Hid (Below u.heap.size u w1) := hb
  clear hb C1
  obtain ⟨⟨f0, f1, f2, g0, g1⟩, hbw, hfw⟩ := HX.out w1 Hw1.out
  have HBW := hid hbw
  have HFW := hid hfw
  clear hbw hfw
  have A := hid (at_any (sc := sc) (lc := lc) HFW.out.wd i hi63)
  rw [HAT.out] at A
  have D := hid (A.out)
  go_wp2_with fail
  refine D.out.mono ?_
  rintro e w2 ⟨rfl, hb⟩
  have Hw2 : Hid (Below u.heap.size u w2) := Hw1.out.trans (hb.mono Hw1.out.size)
  clear D hb f0 f1 f2 g0 g1 HBW HFW
  obtain ⟨⟨f0, f1, f2, g0, g1⟩, hbw, hfw⟩ := HX.out w2 Hw2.out
  have HBW := hid hbw
  have HFW := hid hfw
  clear hbw hfw
  have A2 := hid (wcheck_any sa s sc la m lc w2 HFW.out.wd.s47 HFW.out.wd.m47)
  rw [HE.out] at A2
  have D := hid (A2.out)
  go_wp2_with fail
  refine D.out.mono ?_
  rintro e w3 ⟨rfl, hb⟩
  have Hw3 : Hid (Below u.heap.size u w3) := Hw2.out.trans (hb.mono Hw2.out.size)
  clear D hb f0 f1 f2 g0 g1 HBW HFW
  obtain ⟨⟨f0, f1, f2, g0, g1⟩, hbw, hfw⟩ := HX.out w3 Hw3.out
  have HBW := hid hbw
  have HFW := hid hfw
  clear hbw hfw
  have A3 := hid (atRef_any (sc := sc) (lc := lc) HFW.out.wd h60 hm0 i.toNat (by omega))
  rw [HLT.out, Int.toNat_of_nonneg hi0] at A3
  have D := hid (A3.out)
  go_wp2_with fail
  refine D.out.mono ?_
  rintro e w4 ⟨rfl, hb⟩
  have Hw4 : Hid (Below u.heap.size u w4) := Hw3.out.trans (hb.mono Hw3.out.size)
  clear D hb f0 f1 f2 g0 g1 HBW HFW
  obtain ⟨⟨f0, f1, f2, g0, g1⟩, hbw, hfw⟩ := HX.out w4 Hw4.out
  have HBW := hid hbw
  have HFW := hid hfw
  clear hbw hfw
  have A4 := hid (holdsF_bad (cap := cap) HFW.out HQ.out)
  rw [HQE.out] at A4
  have D := hid (A4.out)
  go_wp2_with fail
  refine D.out.mono ?_
  rintro e w5 ⟨rfl, hb⟩
  have Hw5 : Hid (Below u.heap.size u w5) := Hw4.out.trans (hb.mono Hw4.out.size)
  clear D hb f0 f1 f2 g0 g1 HBW HFW
  obtain ⟨⟨f0, f1, f2, g0, g1⟩, hbw, hfw⟩ := HX.out w5 Hw5.out
  have HBW := hid hbw
  have HFW := hid hfw
  clear hbw hfw
  have A5 := hid (ltl_any t a cap w5 HFW.out.kds HFW.out.cnt)
  rw [HCE.out] at A5
  have D := hid (A5.out)
  go_wp2_with fail
  refine D.out.mono ?_
  rintro e w6 ⟨rfl, hb⟩
  have Hw6 : Hid (Below u.heap.size u w6) := Hw5.out.trans (hb.mono Hw5.out.size)
  clear D hb f0 f1 f2 g0 g1 HBW HFW
  obtain ⟨⟨f0, f1, f2, g0, g1⟩, hbw, hfw⟩ := HX.out w6 Hw6.out
  have HBW := hid hbw
  have HFW := hid hfw
  clear hbw hfw
  go_wp2
  go_ret
  exact ⟨by first | rfl | simp, HBW.out⟩

set_option maxHeartbeats 4000000 in
theorem says_Do {w : World} {t : Fml} {a : Option Addr} {cap : Nat} {sa : Option Addr} {s sc : Nat} {la : Option Addr} {m lc : Nat} {S L : Nat → Int} (h : Fw w t a sa s sc la m lc S L) (i : Int) (hi63 : i ≤ 9223372036854775807) (h0 : wchk s m = 0) (hi0 : 0 ≤ i) (hi : i < 100000) (hc : (chk t 1 0).1 = 0) :
    Calls Tryd.prog 3 #[.agg #[.int .i64 t.kind, .int .i64 t.num, .slice a t.cnt cap], .agg #[.slice sa s sc, .slice la m lc], .int .i64 i] w fun e w' => e = .returned (.bool true) ∧ Below w.heap.size w w' := by
  obtain ⟨u, hu⟩ : ∃ y, y = (w.alloc (.cells #[.int .i64 t.kind, .int .i64 t.num, .slice a t.cnt cap] 24)).alloc (.cells #[.slice sa s sc, .slice la m lc] 27) := ⟨_, rfl⟩
  have hB : Below w.heap.size w u := by rw [hu]; exact below_alloc2 _ _ _
  have hx : Fx u w.heap.size t a cap sa s sc la m lc := by rw [hu]; exact fx_new _ _ _ _ _ _ _ _ _ _
  have HX : Hid (∀ z, Below u.heap.size u z → Fx z w.heap.size t a cap sa s sc la m lc ∧ Below w.heap.size w z ∧ Fw z t a sa s sc la m lc S L) := fun z hz => ⟨hx.below hz, hB.trans (hz.mono hB.size), (h.below hB).below hz⟩
  have C1 := hid (wordRef_any sa s sc la m lc u h.wd.s47 h.wd.m47)
  have HU := hid hu
  obtain ⟨h60, hm0⟩ := wchk_ok h0
  have HE : Hid (wchk s m = 0) := h0
  rw [h0] at C1
  obtain ⟨lz, hlz⟩ : ∃ y, y = ltr s m S L i.toNat := ⟨_, rfl⟩
  have HAT : Hid (atV s m S L i = (lz, 0)) := by unfold atV; rw [if_neg (by rw [h0]; decide), if_neg (by omega), hlz]; exact hid rfl
  have HLT : Hid (ltr s m S L i.toNat = lz) := hid hlz.symm
  clear hlz
  have HQ : Hid (hchk t s m = 0) := by rw [hchk_ok_f hc]; exact hid h0
  have HCE : Hid ((chk t 1 0).1 = 0) := hc
  clear hc
  clear h0 hu hB hx h
  go_enter Tryd.func3, Tryd.ntmps3
  go_wp2_with fail
  rw [← HU.out]
  refine C1.out.mono ?_
  rintro e w1 ⟨rfl, hb⟩
  have Hw1 : Hid (Below u.heap.size u w1) := hb
  clear hb C1
  obtain ⟨⟨f0, f1, f2, g0, g1⟩, hbw, hfw⟩ := HX.out w1 Hw1.out
  have HBW := hid hbw
  have HFW := hid hfw
  clear hbw hfw
  have A := hid (at_any (sc := sc) (lc := lc) HFW.out.wd i hi63)
  rw [HAT.out] at A
  have D := hid (A.out)
  go_wp2_with fail
  refine D.out.mono ?_
  rintro e w2 ⟨rfl, hb⟩
  have Hw2 : Hid (Below u.heap.size u w2) := Hw1.out.trans (hb.mono Hw1.out.size)
  clear D hb f0 f1 f2 g0 g1 HBW HFW
  obtain ⟨⟨f0, f1, f2, g0, g1⟩, hbw, hfw⟩ := HX.out w2 Hw2.out
  have HBW := hid hbw
  have HFW := hid hfw
  clear hbw hfw
  have A2 := hid (wcheck_any sa s sc la m lc w2 HFW.out.wd.s47 HFW.out.wd.m47)
  rw [HE.out] at A2
  have D := hid (A2.out)
  go_wp2_with fail
  refine D.out.mono ?_
  rintro e w3 ⟨rfl, hb⟩
  have Hw3 : Hid (Below u.heap.size u w3) := Hw2.out.trans (hb.mono Hw2.out.size)
  clear D hb f0 f1 f2 g0 g1 HBW HFW
  obtain ⟨⟨f0, f1, f2, g0, g1⟩, hbw, hfw⟩ := HX.out w3 Hw3.out
  have HBW := hid hbw
  have HFW := hid hfw
  clear hbw hfw
  have A3 := hid (atRef_any (sc := sc) (lc := lc) HFW.out.wd h60 hm0 i.toNat (by omega))
  rw [HLT.out, Int.toNat_of_nonneg hi0] at A3
  have D := hid (A3.out)
  go_wp2_with fail
  refine D.out.mono ?_
  rintro e w4 ⟨rfl, hb⟩
  have Hw4 : Hid (Below u.heap.size u w4) := Hw3.out.trans (hb.mono Hw3.out.size)
  clear D hb f0 f1 f2 g0 g1 HBW HFW
  obtain ⟨⟨f0, f1, f2, g0, g1⟩, hbw, hfw⟩ := HX.out w4 Hw4.out
  have HBW := hid hbw
  have HFW := hid hfw
  clear hbw hfw
  have A4 := hid (holdsF_ok (cap := cap) HFW.out HQ.out)
  go_wp2_with fail
  refine A4.out.mono ?_
  rintro e w5 ⟨b5, rfl, hb1, hr5, hb5⟩
  have hbb := Hw4.out.trans (hb5.mono Hw4.out.size)
  have Hw5 := hid hbb
  have HR5 := hid hr5
  clear hbb A4 hb5 hb1 hr5 f0 f1 f2 g0 g1 HBW HFW
  obtain ⟨⟨f0, f1, f2, g0, g1⟩, hbw, hfw⟩ := HX.out w5 Hw5.out
  have HBW := hid hbw
  have HFW := hid hfw
  clear hbw hfw
  have A5 := hid (ltl_any t a cap w5 HFW.out.kds HFW.out.cnt)
  rw [HCE.out] at A5
  go_wp2_with fail
  refine A5.out.mono ?_
  rintro e w6 ⟨rfl, hb⟩
  have HR6 := hid (rowIs_below HR5.out hb)
  have Hw6 : Hid (Below u.heap.size u w6) := Hw5.out.trans (hb.mono Hw5.out.size)
  clear A5 hb f0 f1 f2 g0 g1 HBW HFW
  obtain ⟨⟨f0, f1, f2, g0, g1⟩, hbw, hfw⟩ := HX.out w6 Hw6.out
  have HBW := hid hbw
  have HFW := hid hfw
  clear hbw hfw
  have A6 := hid (true_any (sc := sc) (lc := lc) h60 hm0 t a cap w6 HFW.out.kds (chk_wf t 1 0 HCE.out).1 HFW.out.wd)
  go_wp2_with fail
  refine A6.out.mono ?_
  rintro e w7 ⟨b7, rfl, _, hr7, hb⟩
  have A7 := hid (equalB_any (c := s + m) (c' := s + m) (by omega : s + m ≤ 1000) (rowIs_rowB (rowIs_below HR6.out hb)) (rowIs_rowB hr7))
  have Hw7 := hid (HBW.out.trans (hb.mono HBW.out.size))
  clear A6 hb hr7 f0 f1 f2 g0 g1 HBW HFW
  go_wp2_with fail
  refine A7.out.mono ?_
  rintro e w8 ⟨rfl, q8, rfl⟩
  go_wp2
  go_ret
  exact ⟨by first | rfl | simp, below_drewN Hw7.out _⟩

theorem lassoSays_walk {w : World} {t : Fml} {a : Option Addr} {cap : Nat} {sa : Option Addr} {s sc : Nat} {la : Option Addr} {m lc : Nat} {S L : Nat → Int} (h : Fw w t a sa s sc la m lc S L) (i : Int) (hi63 : i ≤ 9223372036854775807) :
    Calls Tryd.prog 3 #[.agg #[.int .i64 t.kind, .int .i64 t.num, .slice a t.cnt cap], .agg #[.slice sa s sc, .slice la m lc], .int .i64 i] w fun e w' => e = .returned (.bool true) ∧ Below w.heap.size w w' := by
  by_cases h0 : wchk s m = 0
  · by_cases hc : (chk t 1 0).1 = 0
    · by_cases h1 : i < 0
      · exact says_Bo h i hi63 h0 h1 hc
      · by_cases h2 : i < 100000
        · exact says_Do h i hi63 h0 (by omega) h2 hc
        · exact says_Co h i hi63 h0 (by omega) hc
    · by_cases h1 : i < 0
      · exact says_Bc h i hi63 h0 h1 hc
      · by_cases h2 : i < 100000
        · exact says_Dc h i hi63 h0 (by omega) h2 hc
        · exact says_Cc h i hi63 h0 (by omega) hc
  · by_cases hc : (chk t 1 0).1 = 0
    · exact says_Aw h i hi63 h0 hc
    · exact says_Ac h i hi63 h0 hc

end Go.Proofs.YtejombhfkobcbaaDoor
