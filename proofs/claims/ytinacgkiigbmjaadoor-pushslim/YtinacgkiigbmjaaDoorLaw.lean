/- The laws PushNots and PushSlim, walked. -/
import Derived.Test.YtinacgkiigbmjaaDoorMde
namespace Go.Proofs.YtinacgkiigbmjaaDoor
open Go.RowKit

set_option maxHeartbeats 4000000 in
theorem pushNots_walk_bad {w : World} {t : Fml} {a : Option Addr} {cap : Nat} (hkc : kcAt w) (h1 : opA 1 w) (hk : Kds w t a) (hc : t.cnt ≤ 9223372036854775807) (q : (chk t 1 0).1 ≠ 0) :
    Calls Tryd.prog 3 #[.agg #[.int .i64 t.kind, .int .i64 t.num, .slice a t.cnt cap]] w fun e w' => e = .returned (.bool true) ∧ Below w.heap.size w w' := by
  have hq := q
  obtain ⟨u, hu⟩ : ∃ y, y = w.alloc (.cells #[.int .i64 t.kind, .int .i64 t.num, .slice a t.cnt cap] 24) := ⟨_, rfl⟩
  have hB : Below w.heap.size w u := by rw [hu]; exact box_below _ _
  have hT : Tri u w.heap.size (.int .i64 t.kind) (.int .i64 t.num) (.slice a t.cnt cap) := by rw [hu]; exact tri_new _ _ _ _
  have C7 := hid (ltl_any t a cap u (hk.below hB) hc)
  obtain ⟨r, hr⟩ : ∃ y, y = (chk t 1 0).1 := ⟨_, rfl⟩
  rw [← hr] at C7
  have C8 : Hid (∀ z, Below w.heap.size w z → Calls Tryd.prog 8 #[.agg #[.int .i64 t.kind, .int .i64 t.num, .slice a t.cnt cap]] z fun e w' => ∃ (a' : Option Addr) (c' : Nat), e = .returned (.tuple #[.agg #[.int .i64 0, .int .i64 0, .slice a' 0 c'], .int .i64 r]) ∧ Below z.heap.size z w') := fun z hz => by
    refine (nots8 a cap z (hkc.below hz hkc.pos) (h1.below hz) (hk.below hz) hc).mono ?_
    rintro e w' ⟨a', c', he, _, hb⟩
    rw [cgv_bad hq, ← hr] at he
    exact ⟨a', c', he, hb⟩
  have C9 : Hid (∀ z, Below w.heap.size w z → Calls Tryd.prog 9 #[.agg #[.int .i64 t.kind, .int .i64 t.num, .slice a t.cnt cap]] z fun e w' => ∃ (a' : Option Addr) (c' : Nat), e = .returned (.tuple #[.agg #[.int .i64 0, .int .i64 0, .slice a' 0 c'], .int .i64 r]) ∧ Below z.heap.size z w') := fun z hz => by
    refine (plain9 a cap z (hkc.below hz hkc.pos) (hk.below hz) hc).mono ?_
    rintro e w' ⟨a', c', he, _, hb⟩
    rw [cgv_bad hq, ← hr] at he
    exact ⟨a', c', he, hb⟩
  have hr0 : r ≠ 0 := by rw [hr]; exact hq
  have hrb : (r != 0) = true := by rw [bne_iff_ne]; exact hr0
  have HR0 := hid hr0
  have HU := hid hu
  have HX : Hid (Below w.heap.size w u ∧ Tri u w.heap.size (.int .i64 t.kind) (.int .i64 t.num) (.slice a t.cnt cap)) := ⟨hB, hT⟩
  clear hu hB hT hk hc hkc h1 q hq hr hr0
  go_enter Tryd.func3, Tryd.ntmps3
  go_wp2_with fail
  rw [← HU.out]
  refine C7.out.mono ?_
  rintro e w1 ⟨rfl, hb1⟩
  have HB1 : Hid (Below u.heap.size u w1) := hb1
  clear hb1 HU C7
  obtain ⟨x0, x1, x2⟩ := (tri_cells (HX.out.2.below HB1.out)).1
  have D8 := hid (C8.out w1 (HX.out.1.trans (HB1.out.mono HX.out.1.size)))
  go_wp2_with fail
  refine D8.out.mono ?_
  rintro e y8 ⟨a8, c8, rfl, hb⟩
  obtain ⟨v8, hv8⟩ : ∃ y, y = y8.alloc (.cells #[.int .i64 0, .int .i64 0, .slice a8 0 c8] 24) := ⟨_, rfl⟩
  have hbv : Below y8.heap.size y8 v8 := by rw [hv8]; exact box_below _ _
  have hxv : Tri v8 y8.heap.size (.int .i64 0) (.int .i64 0) (.slice a8 0 c8) := by rw [hv8]; exact tri_new _ _ _ _
  have HB2 : Hid (Below u.heap.size u v8) := by
    have h3 := hb.trans (hbv.mono hb.size)
    exact HB1.out.trans (h3.mono HB1.out.size)
  have HT8 := hid hxv
  have HV8 := hid hv8
  clear hb hbv hxv hv8 D8 C8 x0 x1 x2
  obtain ⟨x0, x1, x2⟩ := (tri_cells (HX.out.2.below HB2.out)).1
  rw [HV8.out] at x0 x1 x2
  go_wp2_with fail
  rw [← HV8.out]
  clear HV8 x0 x1 x2
  obtain ⟨x0, x1, x2⟩ := (tri_cells (HX.out.2.below HB2.out)).1
  have D9 := hid (C9.out v8 (HX.out.1.trans (HB2.out.mono HX.out.1.size)))
  go_wp2_with fail
  refine D9.out.mono ?_
  rintro e y9 ⟨a9, c9, rfl, hb⟩
  obtain ⟨v9, hv9⟩ : ∃ y, y = y9.alloc (.cells #[.int .i64 0, .int .i64 0, .slice a9 0 c9] 24) := ⟨_, rfl⟩
  have hbv : Below y9.heap.size y9 v9 := by rw [hv9]; exact box_below _ _
  have hxv : Tri v9 y9.heap.size (.int .i64 0) (.int .i64 0) (.slice a9 0 c9) := by rw [hv9]; exact tri_new _ _ _ _
  have HB3 : Hid (Below u.heap.size u v9) := by
    have h3 := hb.trans (hbv.mono hb.size)
    exact HB2.out.trans (h3.mono HB2.out.size)
  have HT8' : Hid (Tri v9 y8.heap.size (.int .i64 0) (.int .i64 0) (.slice a8 0 c8)) := HT8.out.below (hb.trans (hbv.mono hb.size))
  have HT9 := hid hxv
  have HV9 := hid hv9
  clear hb hbv hxv hv9 D9 C9 x0 x1 x2
  obtain ⟨x0, x1, x2⟩ := (tri_cells (HX.out.2.below HB3.out)).1
  obtain ⟨m0, m1, m2⟩ := (tri_cells HT8'.out).1
  rw [HV9.out] at x0 x1 x2 m0 m1 m2
  have M1 := hid (made_bad r HR0.out t.kind t.num a t.cnt cap a8 c8 v9)
  go_wp2_with fail
  rw [← HV9.out]
  refine M1.out.mono ?_
  rintro e w5 ⟨rfl, hb5⟩
  have HB5 : Hid (Below v9.heap.size v9 w5) := hb5
  clear hb5 M1 x0 x1 x2 m0 m1 m2 HV9
  obtain ⟨x0, x1, x2⟩ := (tri_cells ((HX.out.2.below HB3.out).below HB5.out)).1
  obtain ⟨m0, m1, m2⟩ := (tri_cells (HT9.out.below HB5.out)).1
  have M2 := hid (made_bad r HR0.out t.kind t.num a t.cnt cap a9 c9 w5)
  go_wp2_with fail
  refine M2.out.mono ?_
  rintro e w6 ⟨rfl, hb6⟩
  have HB6 := hid (HX.out.1.trans ((HB3.out.trans ((HB5.out.trans (hb6.mono HB5.out.size)).mono HB3.out.size)).mono HX.out.1.size))
  clear hb6 M2 x0 x1 x2 m0 m1 m2
  go_wp2
  go_ret
  exact ⟨rfl, HB6.out⟩

set_option maxHeartbeats 4000000 in
theorem pushSlim_walk_bad {w : World} {t : Fml} {a : Option Addr} {cap : Nat} (hkc : kcAt w) (h1 : opA 1 w) (hk : Kds w t a) (hc : t.cnt ≤ 9223372036854775807) (q : (chk t 1 0).1 ≠ 0) :
    Calls Tryd.prog 4 #[.agg #[.int .i64 t.kind, .int .i64 t.num, .slice a t.cnt cap]] w fun e w' => e = .returned (.bool true) ∧ Below w.heap.size w w' := by
  have hq := q
  obtain ⟨u, hu⟩ : ∃ y, y = w.alloc (.cells #[.int .i64 t.kind, .int .i64 t.num, .slice a t.cnt cap] 24) := ⟨_, rfl⟩
  have hB : Below w.heap.size w u := by rw [hu]; exact box_below _ _
  have hT : Tri u w.heap.size (.int .i64 t.kind) (.int .i64 t.num) (.slice a t.cnt cap) := by rw [hu]; exact tri_new _ _ _ _
  have C7 := hid (ltl_any t a cap u (hk.below hB) hc)
  obtain ⟨r, hr⟩ : ∃ y, y = (chk t 1 0).1 := ⟨_, rfl⟩
  rw [← hr] at C7
  have C13 : Hid (∀ z, Below w.heap.size w z → Calls Tryd.prog 13 #[.agg #[.int .i64 t.kind, .int .i64 t.num, .slice a t.cnt cap]] z fun e w' => ∃ (a' : Option Addr) (c' : Nat), e = .returned (.tuple #[.agg #[.int .i64 0, .int .i64 0, .slice a' 0 c'], .int .i64 r]) ∧ Below z.heap.size z w') := fun z hz => by
    refine (slim13 a cap z (hkc.below hz hkc.pos) (h1.below hz) (hk.below hz) hc).mono ?_
    rintro e w' ⟨a', c', he, _, hb⟩
    rw [cgv_bad hq, ← hr] at he
    exact ⟨a', c', he, hb⟩
  have hr0 : r ≠ 0 := by rw [hr]; exact hq
  have hrb : (r != 0) = true := by rw [bne_iff_ne]; exact hr0
  have HR0 := hid hr0
  have HU := hid hu
  have HX : Hid (Below w.heap.size w u ∧ Tri u w.heap.size (.int .i64 t.kind) (.int .i64 t.num) (.slice a t.cnt cap)) := ⟨hB, hT⟩
  clear hu hB hT hk hc hkc h1 q hq hr hr0
  go_enter Tryd.func4, Tryd.ntmps4
  go_wp2_with fail
  rw [← HU.out]
  refine C7.out.mono ?_
  rintro e w1 ⟨rfl, hb1⟩
  have HB1 : Hid (Below u.heap.size u w1) := hb1
  clear hb1 HU C7
  obtain ⟨x0, x1, x2⟩ := (tri_cells (HX.out.2.below HB1.out)).1
  have D13 := hid (C13.out w1 (HX.out.1.trans (HB1.out.mono HX.out.1.size)))
  go_wp2_with fail
  refine D13.out.mono ?_
  rintro e y13 ⟨a13, c13, rfl, hb⟩
  obtain ⟨v13, hv13⟩ : ∃ y, y = y13.alloc (.cells #[.int .i64 0, .int .i64 0, .slice a13 0 c13] 24) := ⟨_, rfl⟩
  have hbv : Below y13.heap.size y13 v13 := by rw [hv13]; exact box_below _ _
  have hxv : Tri v13 y13.heap.size (.int .i64 0) (.int .i64 0) (.slice a13 0 c13) := by rw [hv13]; exact tri_new _ _ _ _
  have HB2 : Hid (Below u.heap.size u v13) := by
    have h3 := hb.trans (hbv.mono hb.size)
    exact HB1.out.trans (h3.mono HB1.out.size)
  have HT13 := hid hxv
  have HV13 := hid hv13
  clear hb hbv hxv hv13 D13 C13 x0 x1 x2
  obtain ⟨x0, x1, x2⟩ := (tri_cells (HX.out.2.below HB2.out)).1
  obtain ⟨m0, m1, m2⟩ := (tri_cells HT13.out).1
  rw [HV13.out] at x0 x1 x2 m0 m1 m2
  have M1 := hid (made_bad r HR0.out t.kind t.num a t.cnt cap a13 c13 v13)
  go_wp2_with fail
  rw [← HV13.out]
  refine M1.out.mono ?_
  rintro e w5 ⟨rfl, hb5⟩
  have HB5 : Hid (Below v13.heap.size v13 w5) := hb5
  clear hb5 M1 x0 x1 x2 m0 m1 m2 HV13
  have HB6 := hid (HX.out.1.trans ((HB2.out.trans (HB5.out.mono HB2.out.size)).mono HX.out.1.size))
  go_wp2
  go_ret
  exact ⟨rfl, HB6.out⟩

set_option maxHeartbeats 8000000 in
theorem pushNots_walk_ok {w : World} {t : Fml} {a : Option Addr} {cap : Nat} (hkc : kcAt w) (h0 : opA 0 w) (h1 : opA 1 w) (hk : Kds w t a) (hc : t.cnt ≤ 9223372036854775807) (q : (chk t 1 0).1 = 0) :
    Calls Tryd.prog 3 #[.agg #[.int .i64 t.kind, .int .i64 t.num, .slice a t.cnt cap]] w fun e w' => e = .returned (.bool true) ∧ Below w.heap.size w w' := by
  have hw := (chk_wf t 1 0 q).1
  obtain ⟨u, hu⟩ : ∃ y, y = w.alloc (.cells #[.int .i64 t.kind, .int .i64 t.num, .slice a t.cnt cap] 24) := ⟨_, rfl⟩
  have hB : Below w.heap.size w u := by rw [hu]; exact box_below _ _
  have hT : Tri u w.heap.size (.int .i64 t.kind) (.int .i64 t.num) (.slice a t.cnt cap) := by rw [hu]; exact tri_new _ _ _ _
  have C7 := hid (ltl_any t a cap u (hk.below hB) hc)
  rw [q] at C7
  obtain ⟨F8, hF8⟩ : ∃ y, y = nt t false := ⟨_, rfl⟩
  have hFc8 : F8.cnt ≤ 9223372036854775807 := by rw [hF8]; exact wf_big ((nt_shape t hw false).1)
  obtain ⟨g8, hg8⟩ : ∃ y, y = (cg2 F8).1 := ⟨_, rfl⟩
  obtain ⟨r8, hr8⟩ : ∃ y, y = (cg2 F8).2 := ⟨_, rfl⟩
  have C8 : Hid (∀ z, Below w.heap.size w z → Calls Tryd.prog 8 #[.agg #[.int .i64 t.kind, .int .i64 t.num, .slice a t.cnt cap]] z fun e w' => ∃ (a' : Option Addr) (c' : Nat), e = .returned (.tuple #[.agg #[.int .i64 g8.kind, .int .i64 g8.num, .slice a' g8.cnt c'], .int .i64 r8]) ∧ Kds w' g8 a' ∧ Below z.heap.size z w') := fun z hz => by
    refine (nots8 a cap z (hkc.below hz hkc.pos) (h1.below hz) (hk.below hz) hc).mono ?_
    rintro e w' ⟨a', c', he, hk', hb⟩
    rw [cgv_cg2 q, ← hF8] at he hk'
    rw [hg8, hr8]
    exact ⟨a', c', he, hk'.out, hb⟩
  have C11 : Hid (∀ z, Below w.heap.size w z → Calls Tryd.prog 11 #[.agg #[.int .i64 t.kind, .int .i64 t.num, .slice a t.cnt cap]] z fun e w' => ∃ (a' : Option Addr) (c' : Nat), e = .returned (.agg #[.int .i64 F8.kind, .int .i64 F8.num, .slice a' F8.cnt c']) ∧ Kds w' F8 a' ∧ Below z.heap.size z w') := fun z hz => by
    refine (refNots_any _ t (Nat.le_refl _) hw a cap z (h0.below hz) (hk.below hz)).mono ?_
    rintro e w' ⟨a', c', he, hk', hb⟩
    rw [← hF8] at he hk'
    exact ⟨a', c', he, hk'.out, hb⟩
  have M8 : Hid (∀ (aF : Option Addr) (cF : Nat) (ag : Option Addr) (cg : Nat) (z : World), Kds z F8 aF → Kds z g8 ag → Calls Tryd.prog 10 #[.int .i64 0, .agg #[.int .i64 F8.kind, .int .i64 F8.num, .slice aF F8.cnt cF], .agg #[.int .i64 g8.kind, .int .i64 g8.num, .slice ag g8.cnt cg], .int .i64 r8] z fun e w' => e = .returned (.bool true) ∧ Below z.heap.size z w') := fun aF cF ag cg z h1 h2 => by
    rw [hg8] at h2
    rw [hg8, hr8]
    exact made_ok aF cF ag cg z h1 hFc8 h2
  clear hF8 hg8 hr8 hFc8
  obtain ⟨F9, hF9⟩ : ∃ y, y = pn t := ⟨_, rfl⟩
  have hFc9 : F9.cnt ≤ 9223372036854775807 := by rw [hF9]; exact wf_big (pn_wf t hw)
  obtain ⟨g9, hg9⟩ : ∃ y, y = (cg2 F9).1 := ⟨_, rfl⟩
  obtain ⟨r9, hr9⟩ : ∃ y, y = (cg2 F9).2 := ⟨_, rfl⟩
  have C9 : Hid (∀ z, Below w.heap.size w z → Calls Tryd.prog 9 #[.agg #[.int .i64 t.kind, .int .i64 t.num, .slice a t.cnt cap]] z fun e w' => ∃ (a' : Option Addr) (c' : Nat), e = .returned (.tuple #[.agg #[.int .i64 g9.kind, .int .i64 g9.num, .slice a' g9.cnt c'], .int .i64 r9]) ∧ Kds w' g9 a' ∧ Below z.heap.size z w') := fun z hz => by
    refine (plain9 a cap z (hkc.below hz hkc.pos) (hk.below hz) hc).mono ?_
    rintro e w' ⟨a', c', he, hk', hb⟩
    rw [cgv_cg2 q, ← hF9] at he hk'
    rw [hg9, hr9]
    exact ⟨a', c', he, hk'.out, hb⟩
  have C12 : Hid (∀ z, Below w.heap.size w z → Calls Tryd.prog 12 #[.agg #[.int .i64 t.kind, .int .i64 t.num, .slice a t.cnt cap]] z fun e w' => ∃ (a' : Option Addr) (c' : Nat), e = .returned (.agg #[.int .i64 F9.kind, .int .i64 F9.num, .slice a' F9.cnt c']) ∧ Kds w' F9 a' ∧ Below z.heap.size z w') := fun z hz => by
    refine (refPlain_any t hw a cap z (hk.below hz)).mono ?_
    rintro e w' ⟨a', c', he, hk', hb⟩
    rw [← hF9] at he hk'
    exact ⟨a', c', he, hk'.out, hb⟩
  have M9 : Hid (∀ (aF : Option Addr) (cF : Nat) (ag : Option Addr) (cg : Nat) (z : World), Kds z F9 aF → Kds z g9 ag → Calls Tryd.prog 10 #[.int .i64 0, .agg #[.int .i64 F9.kind, .int .i64 F9.num, .slice aF F9.cnt cF], .agg #[.int .i64 g9.kind, .int .i64 g9.num, .slice ag g9.cnt cg], .int .i64 r9] z fun e w' => e = .returned (.bool true) ∧ Below z.heap.size z w') := fun aF cF ag cg z h1 h2 => by
    rw [hg9] at h2
    rw [hg9, hr9]
    exact made_ok aF cF ag cg z h1 hFc9 h2
  clear hF9 hg9 hr9 hFc9
  have HU := hid hu
  have HX : Hid (Below w.heap.size w u ∧ Tri u w.heap.size (.int .i64 t.kind) (.int .i64 t.num) (.slice a t.cnt cap)) := ⟨hB, hT⟩
  clear hu hB hT hk hc hkc h1 q hw h0
  go_enter Tryd.func3, Tryd.ntmps3
  go_wp2_with fail
  rw [← HU.out]
  refine C7.out.mono ?_
  rintro e w1 ⟨rfl, hb1⟩
  have HB1 : Hid (Below u.heap.size u w1) := hb1
  clear hb1 HU C7
  obtain ⟨x0, x1, x2⟩ := (tri_cells (HX.out.2.below HB1.out)).1
  have D8 := hid (C8.out w1 (HX.out.1.trans (HB1.out.mono HX.out.1.size)))
  go_wp2_with fail
  refine D8.out.mono ?_
  rintro e y8 ⟨a8, c8, rfl, hkg, hb⟩
  obtain ⟨v8, hv8⟩ : ∃ y, y = y8.alloc (.cells #[.int .i64 g8.kind, .int .i64 g8.num, .slice a8 g8.cnt c8] 24) := ⟨_, rfl⟩
  have hbv : Below y8.heap.size y8 v8 := by rw [hv8]; exact box_below _ _
  have hxv : Tri v8 y8.heap.size (.int .i64 g8.kind) (.int .i64 g8.num) (.slice a8 g8.cnt c8) := by rw [hv8]; exact tri_new _ _ _ _
  have HB2 : Hid (Below u.heap.size u v8) := by
    have h3 := hb.trans (hbv.mono hb.size)
    exact HB1.out.trans (h3.mono HB1.out.size)
  have HT8 : Hid (Tri v8 y8.heap.size (.int .i64 g8.kind) (.int .i64 g8.num) (.slice a8 g8.cnt c8) ∧ Kds v8 g8 a8) := ⟨hxv, hkg.below hbv⟩
  have HV8 := hid hv8
  clear hb hbv hxv hv8 hkg D8 C8 x0 x1 x2
  obtain ⟨x0, x1, x2⟩ := (tri_cells (HX.out.2.below HB2.out)).1
  rw [HV8.out] at x0 x1 x2
  go_wp2_with fail
  rw [← HV8.out]
  clear HV8 x0 x1 x2
  obtain ⟨x0, x1, x2⟩ := (tri_cells (HX.out.2.below HB2.out)).1
  have D9 := hid (C9.out v8 (HX.out.1.trans (HB2.out.mono HX.out.1.size)))
  go_wp2_with fail
  refine D9.out.mono ?_
  rintro e y9 ⟨a9, c9, rfl, hkg, hb⟩
  obtain ⟨v9, hv9⟩ : ∃ y, y = y9.alloc (.cells #[.int .i64 g9.kind, .int .i64 g9.num, .slice a9 g9.cnt c9] 24) := ⟨_, rfl⟩
  have hbv : Below y9.heap.size y9 v9 := by rw [hv9]; exact box_below _ _
  have hxv : Tri v9 y9.heap.size (.int .i64 g9.kind) (.int .i64 g9.num) (.slice a9 g9.cnt c9) := by rw [hv9]; exact tri_new _ _ _ _
  have HB3 : Hid (Below u.heap.size u v9) := by
    have h3 := hb.trans (hbv.mono hb.size)
    exact HB2.out.trans (h3.mono HB2.out.size)
  have HT8' : Hid (Tri v9 y8.heap.size (.int .i64 g8.kind) (.int .i64 g8.num) (.slice a8 g8.cnt c8) ∧ Kds v9 g8 a8) := ⟨HT8.out.1.below (hb.trans (hbv.mono hb.size)), HT8.out.2.below (hb.trans (hbv.mono hb.size))⟩
  have HT9 : Hid (Tri v9 y9.heap.size (.int .i64 g9.kind) (.int .i64 g9.num) (.slice a9 g9.cnt c9) ∧ Kds v9 g9 a9) := ⟨hxv, hkg.below hbv⟩
  have HV9 := hid hv9
  clear hb hbv hxv hv9 hkg D9 C9 x0 x1 x2
  have HS : Hid (∀ y, Below v9.heap.size v9 y → (y.cell? ⟨w.heap.size, 0, none⟩ = some (.int .i64 t.kind) ∧ y.cell? ⟨w.heap.size, 1, none⟩ = some (.int .i64 t.num) ∧ y.cell? ⟨w.heap.size, 2, none⟩ = some (.slice a t.cnt cap)) ∧ (y.cell? ⟨y8.heap.size, 0, none⟩ = some (.int .i64 g8.kind) ∧ y.cell? ⟨y8.heap.size, 1, none⟩ = some (.int .i64 g8.num) ∧ y.cell? ⟨y8.heap.size, 2, none⟩ = some (.slice a8 g8.cnt c8)) ∧ (y.cell? ⟨y9.heap.size, 0, none⟩ = some (.int .i64 g9.kind) ∧ y.cell? ⟨y9.heap.size, 1, none⟩ = some (.int .i64 g9.num) ∧ y.cell? ⟨y9.heap.size, 2, none⟩ = some (.slice a9 g9.cnt c9))) := fun y hy => ⟨(tri_cells ((HX.out.2.below HB3.out).below hy)).1, (tri_cells (HT8'.out.1.below hy)).1, (tri_cells (HT9.out.1.below hy)).1⟩
  have HZ : Hid (∀ y, Below v9.heap.size v9 y → Below w.heap.size w y) := fun y hy => HX.out.1.trans ((HB3.out.trans (hy.mono HB3.out.size)).mono HX.out.1.size)
  go_wp2
  rw [← HV9.out]
  have hB0 : Below v9.heap.size v9 v9.drew := below_drewN (Below.refl _ _) 1
  refine G_region (fun y => (y.cell? ⟨w.heap.size, 0, none⟩ = some (.int .i64 t.kind) ∧ y.cell? ⟨w.heap.size, 1, none⟩ = some (.int .i64 t.num) ∧ y.cell? ⟨w.heap.size, 2, none⟩ = some (.slice a t.cnt cap)) ∧ (y.cell? ⟨y8.heap.size, 0, none⟩ = some (.int .i64 g8.kind) ∧ y.cell? ⟨y8.heap.size, 1, none⟩ = some (.int .i64 g8.num) ∧ y.cell? ⟨y8.heap.size, 2, none⟩ = some (.slice a8 g8.cnt c8)) ∧ (y.cell? ⟨y9.heap.size, 0, none⟩ = some (.int .i64 g9.kind) ∧ y.cell? ⟨y9.heap.size, 1, none⟩ = some (.int .i64 g9.num) ∧ y.cell? ⟨y9.heap.size, 2, none⟩ = some (.slice a9 g9.cnt c9))) (fun _ => false) (by kernel_rfl) (HS.out _ hB0) (fun _ => ?_)
  refine G_take (i := 0) (oi := { dst := some 34, op := Op.move (Operand.tmp 3), type := 25, pos := _, after := #[], guard := none }) (v := .int .i64 0) rfl (by kernel_rfl) (by kernel_rfl) (by kernel_rfl) (by kernel_rfl) (fun _ _ _ h => h) (by rfl) (fun u hu => ?_) (HS.out _ hB0) ?_
  · (try dsimp only at hu); go_simp
  (try simp only [Act.put, List.setIfInBounds_toArray, List.set_cons_zero, List.set_cons_succ])
  refine G_take (i := 1) (oi := { dst := some 35, op := Op.load 24 (Operand.tmp 1), type := 24, pos := _, after := #[], guard := none }) (v := .agg #[.int .i64 t.kind, .int .i64 t.num, .slice a t.cnt cap]) rfl (by kernel_rfl) (by kernel_rfl) (by kernel_rfl) (by kernel_rfl) (fun _ _ _ h => h) (by rfl) (fun u hu => ?_) (HS.out _ hB0) ?_
  · (try dsimp only at hu); go_simp
  (try simp only [Act.put, List.setIfInBounds_toArray, List.set_cons_zero, List.set_cons_succ])
  refine G_take (i := 3) (oi := { dst := some 37, op := Op.load 24 (Operand.tmp 4), type := 24, pos := _, after := #[], guard := none }) (v := .agg #[.int .i64 g8.kind, .int .i64 g8.num, .slice a8 g8.cnt c8]) rfl (by kernel_rfl) (by kernel_rfl) (by kernel_rfl) (by kernel_rfl) (fun _ _ _ h => h) (by rfl) (fun u hu => ?_) (HS.out _ hB0) ?_
  · (try dsimp only at hu); go_simp
  (try simp only [Act.put, List.setIfInBounds_toArray, List.set_cons_zero, List.set_cons_succ])
  refine G_take (i := 4) (oi := { dst := some 38, op := Op.move (Operand.tmp 5), type := 25, pos := _, after := #[], guard := none }) (v := .int .i64 r8) rfl (by kernel_rfl) (by kernel_rfl) (by kernel_rfl) (by kernel_rfl) (fun _ _ _ h => h) (by rfl) (fun u hu => ?_) (HS.out _ hB0) ?_
  · (try dsimp only at hu); go_simp
  (try simp only [Act.put, List.setIfInBounds_toArray, List.set_cons_zero, List.set_cons_succ])
  obtain ⟨q0, hq0⟩ : ∃ y, y = v9.drew := ⟨_, rfl⟩
  rw [← hq0] at hB0 ⊢
  clear hq0
  refine G_step (i := 2) (o := { dst := some 36, op := Op.call { callee := Callee.value (Operand.func 11), args := #[Operand.tmp 35], argTypes := #[24] }, type := 24, pos := _, after := #[{ on := 1, ground := Ground.data }], guard := none }) (by kernel_rfl) rfl (fun K' hK => ?_)
  go_simp
  go_at_call 11
  refine (C11.out q0 (HZ.out _ hB0)).mono ?_
  rintro e q1 ⟨ad, cd, rfl, hkd, hbd⟩
  dsimp only
  have hB1 := hB0.trans (hbd.mono hB0.size)
  have hkd1 := hkd
  refine hK.out _ _ (fun _ => HS.out _ hB1) (fun _ => ?_)
  clear hK K' hbd hkd hB0
  (try simp only [Act.put, List.setIfInBounds_toArray, List.set_cons_zero, List.set_cons_succ])
  refine G_step (i := 5) (o := { dst := some 39, op := Op.call { callee := Callee.value (Operand.func 10), args := #[Operand.tmp 34, Operand.tmp 36, Operand.tmp 37, Operand.tmp 38], argTypes := #[25, 24, 24, 25] }, type := 4, pos := _, after := #[{ on := 0, ground := Ground.data }, { on := 2, ground := Ground.data }, { on := 3, ground := Ground.data }, { on := 4, ground := Ground.data }, { on := 2, ground := Ground.chain }], guard := none }) (by kernel_rfl) rfl (fun K' hK => ?_)
  go_simp
  go_at_call 10
  refine (M8.out ad cd a8 c8 q1 hkd1 (HT8'.out.2.below hB1)).mono ?_
  rintro e q2 ⟨rfl, hbd⟩
  dsimp only
  have hB2 := hB1.trans (hbd.mono hB1.size)
  refine hK.out _ _ (fun _ => HS.out _ hB2) (fun _ => ?_)
  clear hK K' hbd hkd1 hB1
  (try simp only [Act.put, List.setIfInBounds_toArray, List.set_cons_zero, List.set_cons_succ])
  refine G_take (i := 6) (oi := { dst := some 40, op := Op.move (Operand.tmp 39), type := 4, pos := _, after := #[{ on := 5, ground := Ground.data }, { on := 5, ground := Ground.chain }], guard := none }) (v := .bool true) rfl (by kernel_rfl) (by kernel_rfl) (by kernel_rfl) (by kernel_rfl) (fun _ _ _ h => h) (by rfl) (fun u hu => ?_) (HS.out _ hB2) ?_
  · (try dsimp only at hu); go_simp
  (try simp only [Act.put, List.setIfInBounds_toArray, List.set_cons_zero, List.set_cons_succ])
  refine G_take (i := 7) (oi := { dst := some 41, op := Op.move (Operand.tmp 3), type := 25, pos := _, after := #[{ on := 6, ground := Ground.guard }], guard := some (6, true) }) (v := .int .i64 0) rfl (by kernel_rfl) (by kernel_rfl) (by kernel_rfl) (by kernel_rfl) (fun _ _ _ h => h) (by rfl) (fun u hu => ?_) (HS.out _ hB2) ?_
  · (try dsimp only at hu); go_simp
  (try simp only [Act.put, List.setIfInBounds_toArray, List.set_cons_zero, List.set_cons_succ])
  refine G_take (i := 8) (oi := { dst := some 42, op := Op.load 24 (Operand.tmp 1), type := 24, pos := _, after := #[{ on := 6, ground := Ground.guard }], guard := some (6, true) }) (v := .agg #[.int .i64 t.kind, .int .i64 t.num, .slice a t.cnt cap]) rfl (by kernel_rfl) (by kernel_rfl) (by kernel_rfl) (by kernel_rfl) (fun _ _ _ h => h) (by rfl) (fun u hu => ?_) (HS.out _ hB2) ?_
  · (try dsimp only at hu); go_simp
  (try simp only [Act.put, List.setIfInBounds_toArray, List.set_cons_zero, List.set_cons_succ])
  refine G_take (i := 10) (oi := { dst := some 44, op := Op.load 24 (Operand.tmp 6), type := 24, pos := _, after := #[{ on := 6, ground := Ground.guard }], guard := some (6, true) }) (v := .agg #[.int .i64 g9.kind, .int .i64 g9.num, .slice a9 g9.cnt c9]) rfl (by kernel_rfl) (by kernel_rfl) (by kernel_rfl) (by kernel_rfl) (fun _ _ _ h => h) (by rfl) (fun u hu => ?_) (HS.out _ hB2) ?_
  · (try dsimp only at hu); go_simp
  (try simp only [Act.put, List.setIfInBounds_toArray, List.set_cons_zero, List.set_cons_succ])
  refine G_take (i := 11) (oi := { dst := some 45, op := Op.move (Operand.tmp 7), type := 25, pos := _, after := #[{ on := 6, ground := Ground.guard }], guard := some (6, true) }) (v := .int .i64 r9) rfl (by kernel_rfl) (by kernel_rfl) (by kernel_rfl) (by kernel_rfl) (fun _ _ _ h => h) (by rfl) (fun u hu => ?_) (HS.out _ hB2) ?_
  · (try dsimp only at hu); go_simp
  (try simp only [Act.put, List.setIfInBounds_toArray, List.set_cons_zero, List.set_cons_succ])
  refine G_step (i := 9) (o := { dst := some 43, op := Op.call { callee := Callee.value (Operand.func 12), args := #[Operand.tmp 42], argTypes := #[24] }, type := 24, pos := _, after := #[{ on := 8, ground := Ground.data }, { on := 6, ground := Ground.chain }, { on := 6, ground := Ground.guard }], guard := some (6, true) }) (by kernel_rfl) rfl (fun K' hK => ?_)
  go_simp
  go_at_call 12
  refine (C12.out q2 (HZ.out _ hB2)).mono ?_
  rintro e q3 ⟨ad2, cd2, rfl, hkd, hbd⟩
  dsimp only
  have hB3 := hB2.trans (hbd.mono hB2.size)
  have hkd1 := hkd
  refine hK.out _ _ (fun _ => HS.out _ hB3) (fun _ => ?_)
  clear hK K' hbd hkd hB2
  (try simp only [Act.put, List.setIfInBounds_toArray, List.set_cons_zero, List.set_cons_succ])
  refine G_step (i := 12) (o := { dst := some 46, op := Op.call { callee := Callee.value (Operand.func 10), args := #[Operand.tmp 41, Operand.tmp 43, Operand.tmp 44, Operand.tmp 45], argTypes := #[25, 24, 24, 25] }, type := 4, pos := _, after := #[{ on := 7, ground := Ground.data }, { on := 9, ground := Ground.data }, { on := 10, ground := Ground.data }, { on := 11, ground := Ground.data }, { on := 9, ground := Ground.chain }, { on := 6, ground := Ground.guard }], guard := some (6, true) }) (by kernel_rfl) rfl (fun K' hK => ?_)
  go_simp
  go_at_call 10
  refine (M9.out ad2 cd2 a9 c9 q3 hkd1 (HT9.out.2.below hB3)).mono ?_
  rintro e q4 ⟨rfl, hbd⟩
  dsimp only
  have hB4 := hB3.trans (hbd.mono hB3.size)
  refine hK.out _ _ (fun _ => HS.out _ hB4) (fun _ => ?_)
  clear hK K' hbd hkd1 hB3
  (try simp only [Act.put, List.setIfInBounds_toArray, List.set_cons_zero, List.set_cons_succ])
  refine G_take (i := 13) (oi := { dst := some 47, op := Op.pick (Operand.tmp 40) (Operand.tmp 46) (Operand.const (Value.bool false)), type := 4, pos := _, after := #[{ on := 6, ground := Ground.data }, { on := 12, ground := Ground.data }], guard := none }) (v := .bool true) rfl (by kernel_rfl) (by kernel_rfl) (by kernel_rfl) (by kernel_rfl) (fun _ _ _ h => h) (by rfl) (fun u hu => ?_) (HS.out _ hB4) ?_
  · (try dsimp only at hu); go_simp
  (try simp only [Act.put, List.setIfInBounds_toArray, List.set_cons_zero, List.set_cons_succ])
  refine G_step (i := 14) (o := { dst := some 2, op := Op.assign (Operand.tmp 47), type := 4, pos := _, after := #[{ on := 13, ground := Ground.data }, { on := 12, ground := Ground.chain }, { on := 0, ground := Ground.phase }, { on := 1, ground := Ground.phase }, { on := 2, ground := Ground.phase }, { on := 3, ground := Ground.phase }, { on := 4, ground := Ground.phase }, { on := 5, ground := Ground.phase }, { on := 6, ground := Ground.phase }, { on := 7, ground := Ground.phase }, { on := 8, ground := Ground.phase }, { on := 9, ground := Ground.phase }, { on := 10, ground := Ground.phase }, { on := 11, ground := Ground.phase }, { on := 12, ground := Ground.phase }, { on := 13, ground := Ground.phase }], guard := none }) (by kernel_rfl) rfl (fun K' hK => ?_)
  go_simp
  refine hK.out _ _ (fun _ => HS.out _ hB4) (fun _ => ?_)
  clear hK K'
  (try simp only [Act.put, List.setIfInBounds_toArray, List.set_cons_zero, List.set_cons_succ])
  refine G_done (by kernel_rfl) ?_ _
  have HF := hid (HZ.out _ hB4)
  clear hB4 HS HZ HV9
  go_wp2
  go_ret
  exact ⟨rfl, HF.out⟩

theorem pushNots_walk {w : World} {t : Fml} {a : Option Addr} {cap : Nat} (hkc : kcAt w) (h0 : opA 0 w) (h1 : opA 1 w) (hk : Kds w t a) (hc : t.cnt ≤ 9223372036854775807) :
    Calls Tryd.prog 3 #[.agg #[.int .i64 t.kind, .int .i64 t.num, .slice a t.cnt cap]] w fun e w' => e = .returned (.bool true) ∧ Below w.heap.size w w' := by
  by_cases q : (chk t 1 0).1 = 0
  · exact pushNots_walk_ok hkc h0 h1 hk hc q
  · exact pushNots_walk_bad hkc h1 hk hc q

set_option maxHeartbeats 8000000 in
theorem pushSlim_walk_ok {w : World} {t : Fml} {a : Option Addr} {cap : Nat} (hkc : kcAt w) (hSlr : Slr) (h1 : opA 1 w) (hk : Kds w t a) (hc : t.cnt ≤ 9223372036854775807) (q : (chk t 1 0).1 = 0) :
    Calls Tryd.prog 4 #[.agg #[.int .i64 t.kind, .int .i64 t.num, .slice a t.cnt cap]] w fun e w' => e = .returned (.bool true) ∧ Below w.heap.size w w' := by
  have hw := (chk_wf t 1 0 q).1
  obtain ⟨u, hu⟩ : ∃ y, y = w.alloc (.cells #[.int .i64 t.kind, .int .i64 t.num, .slice a t.cnt cap] 24) := ⟨_, rfl⟩
  have hB : Below w.heap.size w u := by rw [hu]; exact box_below _ _
  have hT : Tri u w.heap.size (.int .i64 t.kind) (.int .i64 t.num) (.slice a t.cnt cap) := by rw [hu]; exact tri_new _ _ _ _
  have C7 := hid (ltl_any t a cap u (hk.below hB) hc)
  rw [q] at C7
  obtain ⟨F13, hF13⟩ : ∃ y, y = sl t := ⟨_, rfl⟩
  have hFc13 : F13.cnt ≤ 9223372036854775807 := by rw [hF13]; exact wf_big ((sl_right t hw).1)
  obtain ⟨g13, hg13⟩ : ∃ y, y = (cg2 F13).1 := ⟨_, rfl⟩
  obtain ⟨r13, hr13⟩ : ∃ y, y = (cg2 F13).2 := ⟨_, rfl⟩
  have C13 : Hid (∀ z, Below w.heap.size w z → Calls Tryd.prog 13 #[.agg #[.int .i64 t.kind, .int .i64 t.num, .slice a t.cnt cap]] z fun e w' => ∃ (a' : Option Addr) (c' : Nat), e = .returned (.tuple #[.agg #[.int .i64 g13.kind, .int .i64 g13.num, .slice a' g13.cnt c'], .int .i64 r13]) ∧ Kds w' g13 a' ∧ Below z.heap.size z w') := fun z hz => by
    refine (slim13 a cap z (hkc.below hz hkc.pos) (h1.below hz) (hk.below hz) hc).mono ?_
    rintro e w' ⟨a', c', he, hk', hb⟩
    rw [cgv_cg2 q, ← hF13] at he hk'
    rw [hg13, hr13]
    exact ⟨a', c', he, hk'.out, hb⟩
  have C14 : Hid (∀ z, Below w.heap.size w z → Calls Tryd.prog 14 #[.agg #[.int .i64 t.kind, .int .i64 t.num, .slice a t.cnt cap]] z fun e w' => ∃ (a' : Option Addr) (c' : Nat), e = .returned (.agg #[.int .i64 F13.kind, .int .i64 F13.num, .slice a' F13.cnt c']) ∧ Kds w' F13 a' ∧ Below z.heap.size z w') := fun z hz => by
    refine (refSlim_of hSlr t hw a cap z (hk.below hz)).mono ?_
    rintro e w' ⟨a', c', he, hk', hb⟩
    rw [← hF13] at he hk'
    exact ⟨a', c', he, hk'.out, hb⟩
  have M13 : Hid (∀ (aF : Option Addr) (cF : Nat) (ag : Option Addr) (cg : Nat) (z : World), Kds z F13 aF → Kds z g13 ag → Calls Tryd.prog 10 #[.int .i64 0, .agg #[.int .i64 F13.kind, .int .i64 F13.num, .slice aF F13.cnt cF], .agg #[.int .i64 g13.kind, .int .i64 g13.num, .slice ag g13.cnt cg], .int .i64 r13] z fun e w' => e = .returned (.bool true) ∧ Below z.heap.size z w') := fun aF cF ag cg z h1 h2 => by
    rw [hg13] at h2
    rw [hg13, hr13]
    exact made_ok aF cF ag cg z h1 hFc13 h2
  clear hF13 hg13 hr13 hFc13
  have HU := hid hu
  have HX : Hid (Below w.heap.size w u ∧ Tri u w.heap.size (.int .i64 t.kind) (.int .i64 t.num) (.slice a t.cnt cap)) := ⟨hB, hT⟩
  clear hu hB hT hk hc hkc h1 q hw hSlr
  go_enter Tryd.func4, Tryd.ntmps4
  go_wp2_with fail
  rw [← HU.out]
  refine C7.out.mono ?_
  rintro e w1 ⟨rfl, hb1⟩
  have HB1 : Hid (Below u.heap.size u w1) := hb1
  clear hb1 HU C7
  obtain ⟨x0, x1, x2⟩ := (tri_cells (HX.out.2.below HB1.out)).1
  have D13 := hid (C13.out w1 (HX.out.1.trans (HB1.out.mono HX.out.1.size)))
  go_wp2_with fail
  refine D13.out.mono ?_
  rintro e y13 ⟨a13, c13, rfl, hkg, hb⟩
  obtain ⟨v13, hv13⟩ : ∃ y, y = y13.alloc (.cells #[.int .i64 g13.kind, .int .i64 g13.num, .slice a13 g13.cnt c13] 24) := ⟨_, rfl⟩
  have hbv : Below y13.heap.size y13 v13 := by rw [hv13]; exact box_below _ _
  have hxv : Tri v13 y13.heap.size (.int .i64 g13.kind) (.int .i64 g13.num) (.slice a13 g13.cnt c13) := by rw [hv13]; exact tri_new _ _ _ _
  have HB2 : Hid (Below u.heap.size u v13) := by
    have h3 := hb.trans (hbv.mono hb.size)
    exact HB1.out.trans (h3.mono HB1.out.size)
  have HT13 : Hid (Tri v13 y13.heap.size (.int .i64 g13.kind) (.int .i64 g13.num) (.slice a13 g13.cnt c13) ∧ Kds v13 g13 a13) := ⟨hxv, hkg.below hbv⟩
  have HV13 := hid hv13
  clear hb hbv hxv hv13 hkg D13 C13 x0 x1 x2
  have HS : Hid (∀ y, Below v13.heap.size v13 y → (y.cell? ⟨w.heap.size, 0, none⟩ = some (.int .i64 t.kind) ∧ y.cell? ⟨w.heap.size, 1, none⟩ = some (.int .i64 t.num) ∧ y.cell? ⟨w.heap.size, 2, none⟩ = some (.slice a t.cnt cap)) ∧ (y.cell? ⟨y13.heap.size, 0, none⟩ = some (.int .i64 g13.kind) ∧ y.cell? ⟨y13.heap.size, 1, none⟩ = some (.int .i64 g13.num) ∧ y.cell? ⟨y13.heap.size, 2, none⟩ = some (.slice a13 g13.cnt c13))) := fun y hy => ⟨(tri_cells ((HX.out.2.below HB2.out).below hy)).1, (tri_cells (HT13.out.1.below hy)).1⟩
  have HZ : Hid (∀ y, Below v13.heap.size v13 y → Below w.heap.size w y) := fun y hy => HX.out.1.trans ((HB2.out.trans (hy.mono HB2.out.size)).mono HX.out.1.size)
  go_wp2
  rw [← HV13.out]
  have hB0 : Below v13.heap.size v13 v13.drew := below_drewN (Below.refl _ _) 1
  refine G_region (fun y => (y.cell? ⟨w.heap.size, 0, none⟩ = some (.int .i64 t.kind) ∧ y.cell? ⟨w.heap.size, 1, none⟩ = some (.int .i64 t.num) ∧ y.cell? ⟨w.heap.size, 2, none⟩ = some (.slice a t.cnt cap)) ∧ (y.cell? ⟨y13.heap.size, 0, none⟩ = some (.int .i64 g13.kind) ∧ y.cell? ⟨y13.heap.size, 1, none⟩ = some (.int .i64 g13.num) ∧ y.cell? ⟨y13.heap.size, 2, none⟩ = some (.slice a13 g13.cnt c13))) (fun _ => false) (by kernel_rfl) (HS.out _ hB0) (fun _ => ?_)
  refine G_take (i := 0) (oi := { dst := some 20, op := Op.move (Operand.tmp 3), type := 25, pos := _, after := #[], guard := none }) (v := .int .i64 0) rfl (by kernel_rfl) (by kernel_rfl) (by kernel_rfl) (by kernel_rfl) (fun _ _ _ h => h) (by rfl) (fun u hu => ?_) (HS.out _ hB0) ?_
  · (try dsimp only at hu); go_simp
  (try simp only [Act.put, List.setIfInBounds_toArray, List.set_cons_zero, List.set_cons_succ])
  refine G_take (i := 1) (oi := { dst := some 21, op := Op.load 24 (Operand.tmp 1), type := 24, pos := _, after := #[], guard := none }) (v := .agg #[.int .i64 t.kind, .int .i64 t.num, .slice a t.cnt cap]) rfl (by kernel_rfl) (by kernel_rfl) (by kernel_rfl) (by kernel_rfl) (fun _ _ _ h => h) (by rfl) (fun u hu => ?_) (HS.out _ hB0) ?_
  · (try dsimp only at hu); go_simp
  (try simp only [Act.put, List.setIfInBounds_toArray, List.set_cons_zero, List.set_cons_succ])
  refine G_take (i := 3) (oi := { dst := some 23, op := Op.load 24 (Operand.tmp 4), type := 24, pos := _, after := #[], guard := none }) (v := .agg #[.int .i64 g13.kind, .int .i64 g13.num, .slice a13 g13.cnt c13]) rfl (by kernel_rfl) (by kernel_rfl) (by kernel_rfl) (by kernel_rfl) (fun _ _ _ h => h) (by rfl) (fun u hu => ?_) (HS.out _ hB0) ?_
  · (try dsimp only at hu); go_simp
  (try simp only [Act.put, List.setIfInBounds_toArray, List.set_cons_zero, List.set_cons_succ])
  refine G_take (i := 4) (oi := { dst := some 24, op := Op.move (Operand.tmp 5), type := 25, pos := _, after := #[], guard := none }) (v := .int .i64 r13) rfl (by kernel_rfl) (by kernel_rfl) (by kernel_rfl) (by kernel_rfl) (fun _ _ _ h => h) (by rfl) (fun u hu => ?_) (HS.out _ hB0) ?_
  · (try dsimp only at hu); go_simp
  (try simp only [Act.put, List.setIfInBounds_toArray, List.set_cons_zero, List.set_cons_succ])
  obtain ⟨q0, hq0⟩ : ∃ y, y = v13.drew := ⟨_, rfl⟩
  rw [← hq0] at hB0 ⊢
  clear hq0
  refine G_step (i := 2) (o := { dst := some 22, op := Op.call { callee := Callee.value (Operand.func 14), args := #[Operand.tmp 21], argTypes := #[24] }, type := 24, pos := _, after := #[{ on := 1, ground := Ground.data }], guard := none }) (by kernel_rfl) rfl (fun K' hK => ?_)
  go_simp
  go_at_call 14
  refine (C14.out q0 (HZ.out _ hB0)).mono ?_
  rintro e q1 ⟨ad, cd, rfl, hkd, hbd⟩
  dsimp only
  have hB1 := hB0.trans (hbd.mono hB0.size)
  have hkd1 := hkd
  refine hK.out _ _ (fun _ => HS.out _ hB1) (fun _ => ?_)
  clear hK K' hbd hkd hB0
  (try simp only [Act.put, List.setIfInBounds_toArray, List.set_cons_zero, List.set_cons_succ])
  refine G_step (i := 5) (o := { dst := some 25, op := Op.call { callee := Callee.value (Operand.func 10), args := #[Operand.tmp 20, Operand.tmp 22, Operand.tmp 23, Operand.tmp 24], argTypes := #[25, 24, 24, 25] }, type := 4, pos := _, after := #[{ on := 0, ground := Ground.data }, { on := 2, ground := Ground.data }, { on := 3, ground := Ground.data }, { on := 4, ground := Ground.data }, { on := 2, ground := Ground.chain }], guard := none }) (by kernel_rfl) rfl (fun K' hK => ?_)
  go_simp
  go_at_call 10
  refine (M13.out ad cd a13 c13 q1 hkd1 (HT13.out.2.below hB1)).mono ?_
  rintro e q2 ⟨rfl, hbd⟩
  dsimp only
  have hB2 := hB1.trans (hbd.mono hB1.size)
  refine hK.out _ _ (fun _ => HS.out _ hB2) (fun _ => ?_)
  clear hK K' hbd hkd1 hB1
  (try simp only [Act.put, List.setIfInBounds_toArray, List.set_cons_zero, List.set_cons_succ])
  refine G_step (i := 6) (o := { dst := some 2, op := Op.assign (Operand.tmp 25), type := 4, pos := _, after := #[{ on := 5, ground := Ground.data }, { on := 5, ground := Ground.chain }, { on := 0, ground := Ground.phase }, { on := 1, ground := Ground.phase }, { on := 2, ground := Ground.phase }, { on := 3, ground := Ground.phase }, { on := 4, ground := Ground.phase }, { on := 5, ground := Ground.phase }], guard := none }) (by kernel_rfl) rfl (fun K' hK => ?_)
  go_simp
  refine hK.out _ _ (fun _ => HS.out _ hB2) (fun _ => ?_)
  clear hK K'
  (try simp only [Act.put, List.setIfInBounds_toArray, List.set_cons_zero, List.set_cons_succ])
  refine G_done (by kernel_rfl) ?_ _
  have HF := hid (HZ.out _ hB2)
  clear hB2 HS HZ HV13
  go_wp2
  go_ret
  exact ⟨rfl, HF.out⟩

theorem pushSlim_walk {w : World} {t : Fml} {a : Option Addr} {cap : Nat} (hkc : kcAt w) (hSlr : Slr) (h1 : opA 1 w) (hk : Kds w t a) (hc : t.cnt ≤ 9223372036854775807) :
    Calls Tryd.prog 4 #[.agg #[.int .i64 t.kind, .int .i64 t.num, .slice a t.cnt cap]] w fun e w' => e = .returned (.bool true) ∧ Below w.heap.size w w' := by
  by_cases q : (chk t 1 0).1 = 0
  · exact pushSlim_walk_ok hkc hSlr h1 hk hc q
  · exact pushSlim_walk_bad hkc h1 hk hc q

end Go.Proofs.YtinacgkiigbmjaaDoor
