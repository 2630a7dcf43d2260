/- made. -/
import Derived.Test.YtinacgkiigbmjaaDoorRpl
import Derived.Test.YtinacgkiigbmjaaDoorRefChk2
namespace Go.Proofs.YtinacgkiigbmjaaDoor
open Go.RowKit

/-- A formula, or its own error. -/
def cg2 (F : Fml) : Fml × Int := if (chk F 1 0).1 = 0 then (F, 0) else (nd 0 0, (chk F 1 0).1)
theorem cgv_cg2 {t F : Fml} (h : (chk t 1 0).1 = 0) : cgv t F = cg2 F := if_pos h
theorem same_self (t : Fml) : same t t = true := (same_iff t t).2 rfl

theorem bx2 (w : World) (x y : Array Value) : ∀ u, u = (w.alloc (.cells x 24)).alloc (.cells y 24) → Below w.heap.size w u ∧ u.heap[w.heap.size]? = some (.cells x 24) ∧ u.heap[w.heap.size + 1]? = some (.cells y 24) := fun u hu => by
  obtain ⟨_, h1, h2, h3⟩ := two_new w _ _ _ _ hu
  exact ⟨h1, h2, h3⟩

set_option maxHeartbeats 2000000 in
theorem made_bad (e : Int) (he : e ≠ 0) (k n : Int) (aw : Option Addr) (cw qw : Nat) (a : Option Addr) (cap : Nat) (w : World) :
    Calls Tryd.prog 10 #[.int .i64 e, .agg #[.int .i64 k, .int .i64 n, .slice aw cw qw], .agg #[.int .i64 0, .int .i64 0, .slice a 0 cap], .int .i64 e] w fun e w' => e = .returned (.bool true) ∧ Below w.heap.size w w' := by
  obtain ⟨u, hu⟩ : ∃ y, y = (w.alloc (.cells #[.int .i64 k, .int .i64 n, .slice aw cw qw] 24)).alloc (.cells #[.int .i64 0, .int .i64 0, .slice a 0 cap] 24) := ⟨_, rfl⟩
  obtain ⟨hB, -, -⟩ := bx2 w _ _ u hu
  have C : Hid (Calls Tryd.prog 17 #[.agg #[.int .i64 0, .int .i64 0, .slice a 0 cap], .agg #[.int .i64 0, .int .i64 0, .slice none 0 0]] u fun e w' => e = .returned (.bool true) ∧ Below u.heap.size u w') := by
    have := same17 (nd 0 0) (nd 0 0) a none cap 0 u (kds_nd _ _ _ _) (kds_nd _ _ _ _) (Nat.zero_le _) (Nat.zero_le _)
    rw [same_self] at this
    exact this
  have hb : (e == 0) = false := beq_eq_false_iff_ne.2 he
  have hb2 : (e != 0) = true := by rw [bne_iff_ne]; exact he
  have HU := hid hu
  have HB := hid hB
  clear hu hB he
  go_enter Tryd.func10, Tryd.ntmps10
  go_wp2_with fail
  rw [← HU.out]
  refine C.out.mono ?_
  rintro e2 w2 ⟨rfl, hb3⟩
  have HB2 := hid (HB.out.trans (hb3.mono HB.out.size))
  clear hb3 C HU
  go_wp2
  go_ret
  exact ⟨rfl, HB2.out⟩

set_option maxHeartbeats 4000000 in
theorem made_ok {F : Fml} (aF : Option Addr) (cF : Nat) (ag : Option Addr) (cg : Nat) (w : World) (hF : Kds w F aF) (hc : F.cnt ≤ 9223372036854775807) (hg : Kds w (cg2 F).1 ag) :
    Calls Tryd.prog 10 #[.int .i64 0, .agg #[.int .i64 F.kind, .int .i64 F.num, .slice aF F.cnt cF], .agg #[.int .i64 (cg2 F).1.kind, .int .i64 (cg2 F).1.num, .slice ag (cg2 F).1.cnt cg], .int .i64 (cg2 F).2] w fun e w' => e = .returned (.bool true) ∧ Below w.heap.size w w' := by
  by_cases q : (chk F 1 0).1 = 0
  · have hE : cg2 F = (F, 0) := if_pos q
    rw [hE] at hg ⊢
    have hg : Kds w F ag := hg
    show Calls Tryd.prog 10 #[.int .i64 0, .agg #[.int .i64 F.kind, .int .i64 F.num, .slice aF F.cnt cF], .agg #[.int .i64 F.kind, .int .i64 F.num, .slice ag F.cnt cg], .int .i64 0] w fun e w' => e = .returned (.bool true) ∧ Below w.heap.size w w'
    obtain ⟨u, hu⟩ : ∃ y, y = (w.alloc (.cells #[.int .i64 F.kind, .int .i64 F.num, .slice aF F.cnt cF] 24)).alloc (.cells #[.int .i64 F.kind, .int .i64 F.num, .slice ag F.cnt cg] 24) := ⟨_, rfl⟩
    obtain ⟨hB, hT1, hT2⟩ := bx2 w _ _ u hu
    have C := hid (ltl_any F aF cF u (hF.below hB) hc)
    rw [q] at C
    have C2 : Hid (∀ z, Below u.heap.size u z → Calls Tryd.prog 17 #[.agg #[.int .i64 F.kind, .int .i64 F.num, .slice ag F.cnt cg], .agg #[.int .i64 F.kind, .int .i64 F.num, .slice aF F.cnt cF]] z fun e w' => e = .returned (.bool true) ∧ Below z.heap.size z w') := fun z hz => by
      have := same17 F F ag aF cg cF z ((hg.below hB).below hz) ((hF.below hB).below hz) hc hc
      rw [same_self] at this
      exact this
    have HU := hid hu
    have HX : Hid (Below w.heap.size w u ∧ Tri u w.heap.size (.int .i64 F.kind) (.int .i64 F.num) (.slice aF F.cnt cF) ∧ Tri u (w.heap.size + 1) (.int .i64 F.kind) (.int .i64 F.num) (.slice ag F.cnt cg)) := ⟨hB, hT1, hT2⟩
    clear hu hB hT1 hT2 hF hg hE q
    go_enter Tryd.func10, Tryd.ntmps10
    go_wp2_with fail
    rw [← HU.out]
    refine C.out.mono ?_
    rintro e w2 ⟨rfl, hb2⟩
    obtain ⟨⟨x0, x1, x2⟩, -⟩ := tri_cells (HX.out.2.1.below hb2)
    obtain ⟨⟨y0, y1, y2⟩, -⟩ := tri_cells (HX.out.2.2.below hb2)
    have C3 := hid (C2.out w2 hb2)
    have HB2 := hid (HX.out.1.trans (hb2.mono HX.out.1.size))
    clear hb2 C C2 HU
    go_wp2_with fail
    refine C3.out.mono ?_
    rintro e w3 ⟨rfl, hb3⟩
    have HB3 := hid (HB2.out.trans (hb3.mono HB2.out.size))
    clear hb3 C3
    go_wp2
    go_ret
    exact ⟨rfl, HB3.out⟩
  · have hE : cg2 F = (nd 0 0, (chk F 1 0).1) := if_neg q
    rw [hE] at hg ⊢
    show Calls Tryd.prog 10 #[.int .i64 0, .agg #[.int .i64 F.kind, .int .i64 F.num, .slice aF F.cnt cF], .agg #[.int .i64 0, .int .i64 0, .slice ag 0 cg], .int .i64 (chk F 1 0).1] w fun e w' => e = .returned (.bool true) ∧ Below w.heap.size w w'
    obtain ⟨u, hu⟩ : ∃ y, y = (w.alloc (.cells #[.int .i64 F.kind, .int .i64 F.num, .slice aF F.cnt cF] 24)).alloc (.cells #[.int .i64 0, .int .i64 0, .slice ag 0 cg] 24) := ⟨_, rfl⟩
    obtain ⟨hB, hT1, hT2⟩ := bx2 w _ _ u hu
    have C := hid (ltl_any F aF cF u (hF.below hB) hc)
    have C2 : Hid (∀ z, Below u.heap.size u z → Calls Tryd.prog 17 #[.agg #[.int .i64 0, .int .i64 0, .slice ag 0 cg], .agg #[.int .i64 0, .int .i64 0, .slice none 0 0]] z fun e w' => e = .returned (.bool true) ∧ Below z.heap.size z w') := fun z hz => by
      have := same17 (nd 0 0) (nd 0 0) ag none cg 0 z (kds_nd _ _ _ _) (kds_nd _ _ _ _) (Nat.zero_le _) (Nat.zero_le _)
      rw [same_self] at this
      exact this
    have HU := hid hu
    have HX : Hid (Below w.heap.size w u ∧ Tri u w.heap.size (.int .i64 F.kind) (.int .i64 F.num) (.slice aF F.cnt cF) ∧ Tri u (w.heap.size + 1) (.int .i64 0) (.int .i64 0) (.slice ag 0 cg)) := ⟨hB, hT1, hT2⟩
    generalize (chk F 1 0).1 = r at *
    have hrb : (r != 0) = true := by rw [bne_iff_ne]; exact q
    clear hu hB hT1 hT2 hF hg hE q
    go_enter Tryd.func10, Tryd.ntmps10
    go_wp2_with fail
    rw [← HU.out]
    refine C.out.mono ?_
    rintro e w2 ⟨rfl, hb2⟩
    obtain ⟨⟨y0, y1, y2⟩, -⟩ := tri_cells (HX.out.2.2.below hb2)
    have C3 := hid (C2.out w2 hb2)
    have HB2 := hid (HX.out.1.trans (hb2.mono HX.out.1.size))
    clear hb2 C C2 HU
    go_wp2_with fail
    refine C3.out.mono ?_
    rintro e w3 ⟨rfl, hb3⟩
    have HB3 := hid (HB2.out.trans (hb3.mono HB2.out.size))
    clear hb3 C3
    go_wp2
    go_ret
    exact ⟨rfl, HB3.out⟩

end Go.Proofs.YtinacgkiigbmjaaDoor
