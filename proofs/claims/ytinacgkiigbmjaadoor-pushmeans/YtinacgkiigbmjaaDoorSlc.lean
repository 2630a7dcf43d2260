/- slimPart, slimWay, slim. -/
import Derived.Test.YtinacgkiigbmjaaDoorSlb
namespace Go.Proofs.YtinacgkiigbmjaaDoor
open Go.RowKit

theorem nq_fin {p : Nat → Bool} {w u w3 : World} {g : Fml} {a3 : Option Addr} (hs : u.heap.size = w.heap.size + 1 + 1) (h : Kq (nw (fun k => p k && decide (k < w.heap.size)) u) w3 g a3) (x y z : Value) :
    Kq (nw p w) (((w3.setCell ⟨w.heap.size + 1, 0, none⟩ x).setCell ⟨w.heap.size + 1, 1, none⟩ y).setCell ⟨w.heap.size + 1, 2, none⟩ z) g a3 := by
  refine kl_keep h (fun k h1 _ => ?_)
  simp only [nw, Bool.or_eq_true, Bool.and_eq_true, decide_eq_true_eq] at h1 ⊢
  rcases h1 with ⟨h1, h2⟩ | h1
  · exact ⟨Or.inl h1, blk_tri (by omega) _ _ _⟩
  · exact ⟨Or.inr (by omega), blk_tri (by omega) _ _ _⟩

set_option maxHeartbeats 2000000 in
theorem sp4 {f : Fml} (p : Nat → Bool) (hk : f.kind = 4) (a : Option Addr) (cap : Nat) (w : World) (h : Kq p w f a)
    (C0 : ∀ (q : Nat → Bool) (z : World), Below w.heap.size w z → Kq q z f a → Calls Tryd.prog 50 #[.agg #[.int .i64 f.kind, .int .i64 f.num, .slice a f.cnt cap]] z fun e w' => Nq q z (slm f) e w') :
    Calls Tryd.prog 43 #[.agg #[.int .i64 f.kind, .int .i64 f.num, .slice a f.cnt cap]] w fun e w' => Nq p w (slm f) e w' := by
  obtain ⟨u, hu⟩ : ∃ y, y = (w.alloc (.cells #[.int .i64 f.kind, .int .i64 f.num, .slice a f.cnt cap] 24)).alloc (.cells #[.int .i64 0, .int .i64 0, .slice none 0 0] 24) := ⟨_, rfl⟩
  obtain ⟨hs, hBu, hT1, hT2⟩ := two_new w _ _ _ _ hu
  have HX : Hid (u.heap.size = w.heap.size + 1 + 1 ∧ Below w.heap.size w u ∧ Tri u (w.heap.size + 1) (.int .i64 0) (.int .i64 0) (.slice none 0 0)) := ⟨hs, hBu, hT2⟩
  have C := hid (C0 (fun k => p k && decide (k < w.heap.size)) u hBu (h.cut.stay hBu))
  have HU := hid hu
  have t4 : (f.kind == 4) = true := by rw [hk]; rfl
  generalize slm f = g at *
  clear hu hs hBu hT1 hT2 h C0 hk
  go_enter Tryd.func43, Tryd.ntmps43
  go_wp2_with fail
  rw [← HU.out]
  refine C.out.mono ?_
  rintro e w3 ⟨a3, c3, rfl, hk3, hb3⟩
  have hT3 := HX.out.2.2.below hb3
  have HT3 := hid hT3
  have HB3 : Hid (Below w.heap.size w w3) := HX.out.2.1.trans (hb3.mono HX.out.2.1.size)
  have HK3 := hid hk3
  obtain ⟨⟨r0, r1, r2⟩, z0, z1, z2⟩ := tri_cells hT3
  have hlt := hT3.lt
  clear hk3 hb3 hT3 C HU
  go_wp2
  (try simp only [Exit.inBlock, Exit.then])
  refine bodyPost_ret (results_cell_row rfl _ _ (w.heap.size + 1) 24 #[.int .i64 g.kind, .int .i64 g.num, .slice a3 g.cnt c3] (0, 0) _ rfl (tri_set HT3.out _ _ _) Tryd.underlying24 rfl (by kernel_rfl)) rfl ?_
  exact ⟨a3, c3, rfl, nq_fin HX.out.1 HK3.out _ _ _, below_tri HB3.out (by omega) _ _ _⟩

set_option maxHeartbeats 2000000 in
theorem sp5 {f : Fml} (p : Nat → Bool) (hk : f.kind = 5) (a : Option Addr) (cap : Nat) (w : World) (h : Kq p w f a)
    (C0 : ∀ (q : Nat → Bool) (z : World), Below w.heap.size w z → Kq q z f a → Calls Tryd.prog 51 #[.agg #[.int .i64 f.kind, .int .i64 f.num, .slice a f.cnt cap], .int .i64 2, .int .i64 1] z fun e w' => Nq q z (slm f) e w') :
    Calls Tryd.prog 43 #[.agg #[.int .i64 f.kind, .int .i64 f.num, .slice a f.cnt cap]] w fun e w' => Nq p w (slm f) e w' := by
  obtain ⟨u, hu⟩ : ∃ y, y = (w.alloc (.cells #[.int .i64 f.kind, .int .i64 f.num, .slice a f.cnt cap] 24)).alloc (.cells #[.int .i64 0, .int .i64 0, .slice none 0 0] 24) := ⟨_, rfl⟩
  obtain ⟨hs, hBu, hT1, hT2⟩ := two_new w _ _ _ _ hu
  have HX : Hid (u.heap.size = w.heap.size + 1 + 1 ∧ Below w.heap.size w u ∧ Tri u (w.heap.size + 1) (.int .i64 0) (.int .i64 0) (.slice none 0 0)) := ⟨hs, hBu, hT2⟩
  have C := hid (C0 (fun k => p k && decide (k < w.heap.size)) u hBu (h.cut.stay hBu))
  have HU := hid hu
  have t4 : (f.kind == 4) = false := by rw [hk]; rfl
  have t5 : (f.kind == 5) = true := by rw [hk]; rfl
  generalize slm f = g at *
  clear hu hs hBu hT1 hT2 h C0 hk
  go_enter Tryd.func43, Tryd.ntmps43
  go_wp2_with fail
  rw [← HU.out]
  refine C.out.mono ?_
  rintro e w3 ⟨a3, c3, rfl, hk3, hb3⟩
  have hT3 := HX.out.2.2.below hb3
  have HT3 := hid hT3
  have HB3 : Hid (Below w.heap.size w w3) := HX.out.2.1.trans (hb3.mono HX.out.2.1.size)
  have HK3 := hid hk3
  obtain ⟨⟨r0, r1, r2⟩, z0, z1, z2⟩ := tri_cells hT3
  have hlt := hT3.lt
  clear hk3 hb3 hT3 C HU
  go_wp2
  (try simp only [Exit.inBlock, Exit.then])
  refine bodyPost_ret (results_cell_row rfl _ _ (w.heap.size + 1) 24 #[.int .i64 g.kind, .int .i64 g.num, .slice a3 g.cnt c3] (0, 0) _ rfl (tri_set HT3.out _ _ _) Tryd.underlying24 rfl (by kernel_rfl)) rfl ?_
  exact ⟨a3, c3, rfl, nq_fin HX.out.1 HK3.out _ _ _, below_tri HB3.out (by omega) _ _ _⟩

set_option maxHeartbeats 2000000 in
theorem sp6 {f : Fml} (p : Nat → Bool) (hk : f.kind = 6) (a : Option Addr) (cap : Nat) (w : World) (h : Kq p w f a)
    (C0 : ∀ (q : Nat → Bool) (z : World), Below w.heap.size w z → Kq q z f a → Calls Tryd.prog 51 #[.agg #[.int .i64 f.kind, .int .i64 f.num, .slice a f.cnt cap], .int .i64 1, .int .i64 2] z fun e w' => Nq q z (slm f) e w') :
    Calls Tryd.prog 43 #[.agg #[.int .i64 f.kind, .int .i64 f.num, .slice a f.cnt cap]] w fun e w' => Nq p w (slm f) e w' := by
  obtain ⟨u, hu⟩ : ∃ y, y = (w.alloc (.cells #[.int .i64 f.kind, .int .i64 f.num, .slice a f.cnt cap] 24)).alloc (.cells #[.int .i64 0, .int .i64 0, .slice none 0 0] 24) := ⟨_, rfl⟩
  obtain ⟨hs, hBu, hT1, hT2⟩ := two_new w _ _ _ _ hu
  have HX : Hid (u.heap.size = w.heap.size + 1 + 1 ∧ Below w.heap.size w u ∧ Tri u (w.heap.size + 1) (.int .i64 0) (.int .i64 0) (.slice none 0 0)) := ⟨hs, hBu, hT2⟩
  have C := hid (C0 (fun k => p k && decide (k < w.heap.size)) u hBu (h.cut.stay hBu))
  have HU := hid hu
  have t4 : (f.kind == 4) = false := by rw [hk]; rfl
  have t5 : (f.kind == 5) = false := by rw [hk]; rfl
  have t6 : (f.kind == 6) = true := by rw [hk]; rfl
  generalize slm f = g at *
  clear hu hs hBu hT1 hT2 h C0 hk
  go_enter Tryd.func43, Tryd.ntmps43
  go_wp2_with fail
  rw [← HU.out]
  refine C.out.mono ?_
  rintro e w3 ⟨a3, c3, rfl, hk3, hb3⟩
  have hT3 := HX.out.2.2.below hb3
  have HT3 := hid hT3
  have HB3 : Hid (Below w.heap.size w w3) := HX.out.2.1.trans (hb3.mono HX.out.2.1.size)
  have HK3 := hid hk3
  obtain ⟨⟨r0, r1, r2⟩, z0, z1, z2⟩ := tri_cells hT3
  have hlt := hT3.lt
  clear hk3 hb3 hT3 C HU
  go_wp2
  (try simp only [Exit.inBlock, Exit.then])
  refine bodyPost_ret (results_cell_row rfl _ _ (w.heap.size + 1) 24 #[.int .i64 g.kind, .int .i64 g.num, .slice a3 g.cnt c3] (0, 0) _ rfl (tri_set HT3.out _ _ _) Tryd.underlying24 rfl (by kernel_rfl)) rfl ?_
  exact ⟨a3, c3, rfl, nq_fin HX.out.1 HK3.out _ _ _, below_tri HB3.out (by omega) _ _ _⟩

set_option maxHeartbeats 2000000 in
theorem sp7 {f : Fml} (p : Nat → Bool) (hk : f.kind = 7) (a : Option Addr) (cap : Nat) (w : World) (h : Kq p w f a)
    (C0 : ∀ (q : Nat → Bool) (z : World), Below w.heap.size w z → Kq q z f a → Calls Tryd.prog 52 #[.agg #[.int .i64 f.kind, .int .i64 f.num, .slice a f.cnt cap]] z fun e w' => Nq q z (slm f) e w') :
    Calls Tryd.prog 43 #[.agg #[.int .i64 f.kind, .int .i64 f.num, .slice a f.cnt cap]] w fun e w' => Nq p w (slm f) e w' := by
  obtain ⟨u, hu⟩ : ∃ y, y = (w.alloc (.cells #[.int .i64 f.kind, .int .i64 f.num, .slice a f.cnt cap] 24)).alloc (.cells #[.int .i64 0, .int .i64 0, .slice none 0 0] 24) := ⟨_, rfl⟩
  obtain ⟨hs, hBu, hT1, hT2⟩ := two_new w _ _ _ _ hu
  have HX : Hid (u.heap.size = w.heap.size + 1 + 1 ∧ Below w.heap.size w u ∧ Tri u (w.heap.size + 1) (.int .i64 0) (.int .i64 0) (.slice none 0 0)) := ⟨hs, hBu, hT2⟩
  have C := hid (C0 (fun k => p k && decide (k < w.heap.size)) u hBu (h.cut.stay hBu))
  have HU := hid hu
  have t4 : (f.kind == 4) = false := by rw [hk]; rfl
  have t5 : (f.kind == 5) = false := by rw [hk]; rfl
  have t6 : (f.kind == 6) = false := by rw [hk]; rfl
  have t7 : (f.kind == 7) = true := by rw [hk]; rfl
  generalize slm f = g at *
  clear hu hs hBu hT1 hT2 h C0 hk
  go_enter Tryd.func43, Tryd.ntmps43
  go_wp2_with fail
  rw [← HU.out]
  refine C.out.mono ?_
  rintro e w3 ⟨a3, c3, rfl, hk3, hb3⟩
  have hT3 := HX.out.2.2.below hb3
  have HT3 := hid hT3
  have HB3 : Hid (Below w.heap.size w w3) := HX.out.2.1.trans (hb3.mono HX.out.2.1.size)
  have HK3 := hid hk3
  obtain ⟨⟨r0, r1, r2⟩, z0, z1, z2⟩ := tri_cells hT3
  have hlt := hT3.lt
  clear hk3 hb3 hT3 C HU
  go_wp2
  (try simp only [Exit.inBlock, Exit.then])
  refine bodyPost_ret (results_cell_row rfl _ _ (w.heap.size + 1) 24 #[.int .i64 g.kind, .int .i64 g.num, .slice a3 g.cnt c3] (0, 0) _ rfl (tri_set HT3.out _ _ _) Tryd.underlying24 rfl (by kernel_rfl)) rfl ?_
  exact ⟨a3, c3, rfl, nq_fin HX.out.1 HK3.out _ _ _, below_tri HB3.out (by omega) _ _ _⟩

set_option maxHeartbeats 2000000 in
theorem sp10 {f : Fml} (p : Nat → Bool) (hk : f.kind = 10) (a : Option Addr) (cap : Nat) (w : World) (h : Kq p w f a)
    (C0 : ∀ (q : Nat → Bool) (z : World), Below w.heap.size w z → Kq q z f a → Calls Tryd.prog 52 #[.agg #[.int .i64 f.kind, .int .i64 f.num, .slice a f.cnt cap]] z fun e w' => Nq q z (slm f) e w') :
    Calls Tryd.prog 43 #[.agg #[.int .i64 f.kind, .int .i64 f.num, .slice a f.cnt cap]] w fun e w' => Nq p w (slm f) e w' := by
  obtain ⟨u, hu⟩ : ∃ y, y = (w.alloc (.cells #[.int .i64 f.kind, .int .i64 f.num, .slice a f.cnt cap] 24)).alloc (.cells #[.int .i64 0, .int .i64 0, .slice none 0 0] 24) := ⟨_, rfl⟩
  obtain ⟨hs, hBu, hT1, hT2⟩ := two_new w _ _ _ _ hu
  have HX : Hid (u.heap.size = w.heap.size + 1 + 1 ∧ Below w.heap.size w u ∧ Tri u (w.heap.size + 1) (.int .i64 0) (.int .i64 0) (.slice none 0 0)) := ⟨hs, hBu, hT2⟩
  have C := hid (C0 (fun k => p k && decide (k < w.heap.size)) u hBu (h.cut.stay hBu))
  have HU := hid hu
  have t4 : (f.kind == 4) = false := by rw [hk]; rfl
  have t5 : (f.kind == 5) = false := by rw [hk]; rfl
  have t6 : (f.kind == 6) = false := by rw [hk]; rfl
  have t7 : (f.kind == 7) = false := by rw [hk]; rfl
  have t10 : (f.kind == 10) = true := by rw [hk]; rfl
  generalize slm f = g at *
  clear hu hs hBu hT1 hT2 h C0 hk
  go_enter Tryd.func43, Tryd.ntmps43
  go_wp2_with fail
  rw [← HU.out]
  refine C.out.mono ?_
  rintro e w3 ⟨a3, c3, rfl, hk3, hb3⟩
  have hT3 := HX.out.2.2.below hb3
  have HT3 := hid hT3
  have HB3 : Hid (Below w.heap.size w w3) := HX.out.2.1.trans (hb3.mono HX.out.2.1.size)
  have HK3 := hid hk3
  obtain ⟨⟨r0, r1, r2⟩, z0, z1, z2⟩ := tri_cells hT3
  have hlt := hT3.lt
  clear hk3 hb3 hT3 C HU
  go_wp2
  (try simp only [Exit.inBlock, Exit.then])
  refine bodyPost_ret (results_cell_row rfl _ _ (w.heap.size + 1) 24 #[.int .i64 g.kind, .int .i64 g.num, .slice a3 g.cnt c3] (0, 0) _ rfl (tri_set HT3.out _ _ _) Tryd.underlying24 rfl (by kernel_rfl)) rfl ?_
  exact ⟨a3, c3, rfl, nq_fin HX.out.1 HK3.out _ _ _, below_tri HB3.out (by omega) _ _ _⟩

set_option maxHeartbeats 2000000 in
theorem sp11 {f : Fml} (p : Nat → Bool) (hk : f.kind = 11) (a : Option Addr) (cap : Nat) (w : World) (h : Kq p w f a)
    (C0 : ∀ (q : Nat → Bool) (z : World), Below w.heap.size w z → Kq q z f a → Calls Tryd.prog 52 #[.agg #[.int .i64 f.kind, .int .i64 f.num, .slice a f.cnt cap]] z fun e w' => Nq q z (slm f) e w') :
    Calls Tryd.prog 43 #[.agg #[.int .i64 f.kind, .int .i64 f.num, .slice a f.cnt cap]] w fun e w' => Nq p w (slm f) e w' := by
  obtain ⟨u, hu⟩ : ∃ y, y = (w.alloc (.cells #[.int .i64 f.kind, .int .i64 f.num, .slice a f.cnt cap] 24)).alloc (.cells #[.int .i64 0, .int .i64 0, .slice none 0 0] 24) := ⟨_, rfl⟩
  obtain ⟨hs, hBu, hT1, hT2⟩ := two_new w _ _ _ _ hu
  have HX : Hid (u.heap.size = w.heap.size + 1 + 1 ∧ Below w.heap.size w u ∧ Tri u (w.heap.size + 1) (.int .i64 0) (.int .i64 0) (.slice none 0 0)) := ⟨hs, hBu, hT2⟩
  have C := hid (C0 (fun k => p k && decide (k < w.heap.size)) u hBu (h.cut.stay hBu))
  have HU := hid hu
  have t4 : (f.kind == 4) = false := by rw [hk]; rfl
  have t5 : (f.kind == 5) = false := by rw [hk]; rfl
  have t6 : (f.kind == 6) = false := by rw [hk]; rfl
  have t7 : (f.kind == 7) = false := by rw [hk]; rfl
  have t10 : (f.kind == 10) = false := by rw [hk]; rfl
  have t11 : (f.kind == 11) = true := by rw [hk]; rfl
  generalize slm f = g at *
  clear hu hs hBu hT1 hT2 h C0 hk
  go_enter Tryd.func43, Tryd.ntmps43
  go_wp2_with fail
  rw [← HU.out]
  refine C.out.mono ?_
  rintro e w3 ⟨a3, c3, rfl, hk3, hb3⟩
  have hT3 := HX.out.2.2.below hb3
  have HT3 := hid hT3
  have HB3 : Hid (Below w.heap.size w w3) := HX.out.2.1.trans (hb3.mono HX.out.2.1.size)
  have HK3 := hid hk3
  obtain ⟨⟨r0, r1, r2⟩, z0, z1, z2⟩ := tri_cells hT3
  have hlt := hT3.lt
  clear hk3 hb3 hT3 C HU
  go_wp2
  (try simp only [Exit.inBlock, Exit.then])
  refine bodyPost_ret (results_cell_row rfl _ _ (w.heap.size + 1) 24 #[.int .i64 g.kind, .int .i64 g.num, .slice a3 g.cnt c3] (0, 0) _ rfl (tri_set HT3.out _ _ _) Tryd.underlying24 rfl (by kernel_rfl)) rfl ?_
  exact ⟨a3, c3, rfl, nq_fin HX.out.1 HK3.out _ _ _, below_tri HB3.out (by omega) _ _ _⟩

set_option maxHeartbeats 2000000 in
theorem sp8 {f : Fml} (p : Nat → Bool) (hk : f.kind = 8) (a : Option Addr) (cap : Nat) (w : World) (h : Kq p w f a)
    (C0 : ∀ (q : Nat → Bool) (z : World), Below w.heap.size w z → Kq q z f a → Calls Tryd.prog 53 #[.agg #[.int .i64 f.kind, .int .i64 f.num, .slice a f.cnt cap], .int .i64 2, .int .i64 1, .int .i64 10] z fun e w' => Nq q z (slm f) e w') :
    Calls Tryd.prog 43 #[.agg #[.int .i64 f.kind, .int .i64 f.num, .slice a f.cnt cap]] w fun e w' => Nq p w (slm f) e w' := by
  obtain ⟨u, hu⟩ : ∃ y, y = (w.alloc (.cells #[.int .i64 f.kind, .int .i64 f.num, .slice a f.cnt cap] 24)).alloc (.cells #[.int .i64 0, .int .i64 0, .slice none 0 0] 24) := ⟨_, rfl⟩
  obtain ⟨hs, hBu, hT1, hT2⟩ := two_new w _ _ _ _ hu
  have HX : Hid (u.heap.size = w.heap.size + 1 + 1 ∧ Below w.heap.size w u ∧ Tri u (w.heap.size + 1) (.int .i64 0) (.int .i64 0) (.slice none 0 0)) := ⟨hs, hBu, hT2⟩
  have C := hid (C0 (fun k => p k && decide (k < w.heap.size)) u hBu (h.cut.stay hBu))
  have HU := hid hu
  have t4 : (f.kind == 4) = false := by rw [hk]; rfl
  have t5 : (f.kind == 5) = false := by rw [hk]; rfl
  have t6 : (f.kind == 6) = false := by rw [hk]; rfl
  have t7 : (f.kind == 7) = false := by rw [hk]; rfl
  have t10 : (f.kind == 10) = false := by rw [hk]; rfl
  have t11 : (f.kind == 11) = false := by rw [hk]; rfl
  have t8 : (f.kind == 8) = true := by rw [hk]; rfl
  generalize slm f = g at *
  clear hu hs hBu hT1 hT2 h C0 hk
  go_enter Tryd.func43, Tryd.ntmps43
  go_wp2_with fail
  rw [← HU.out]
  refine C.out.mono ?_
  rintro e w3 ⟨a3, c3, rfl, hk3, hb3⟩
  have hT3 := HX.out.2.2.below hb3
  have HT3 := hid hT3
  have HB3 : Hid (Below w.heap.size w w3) := HX.out.2.1.trans (hb3.mono HX.out.2.1.size)
  have HK3 := hid hk3
  obtain ⟨⟨r0, r1, r2⟩, z0, z1, z2⟩ := tri_cells hT3
  have hlt := hT3.lt
  clear hk3 hb3 hT3 C HU
  go_wp2
  (try simp only [Exit.inBlock, Exit.then])
  refine bodyPost_ret (results_cell_row rfl _ _ (w.heap.size + 1) 24 #[.int .i64 g.kind, .int .i64 g.num, .slice a3 g.cnt c3] (0, 0) _ rfl (tri_set HT3.out _ _ _) Tryd.underlying24 rfl (by kernel_rfl)) rfl ?_
  exact ⟨a3, c3, rfl, nq_fin HX.out.1 HK3.out _ _ _, below_tri HB3.out (by omega) _ _ _⟩

set_option maxHeartbeats 2000000 in
theorem sp9 {f : Fml} (p : Nat → Bool) (hk : f.kind = 9) (a : Option Addr) (cap : Nat) (w : World) (h : Kq p w f a)
    (C0 : ∀ (q : Nat → Bool) (z : World), Below w.heap.size w z → Kq q z f a → Calls Tryd.prog 53 #[.agg #[.int .i64 f.kind, .int .i64 f.num, .slice a f.cnt cap], .int .i64 1, .int .i64 2, .int .i64 11] z fun e w' => Nq q z (slm f) e w') :
    Calls Tryd.prog 43 #[.agg #[.int .i64 f.kind, .int .i64 f.num, .slice a f.cnt cap]] w fun e w' => Nq p w (slm f) e w' := by
  obtain ⟨u, hu⟩ : ∃ y, y = (w.alloc (.cells #[.int .i64 f.kind, .int .i64 f.num, .slice a f.cnt cap] 24)).alloc (.cells #[.int .i64 0, .int .i64 0, .slice none 0 0] 24) := ⟨_, rfl⟩
  obtain ⟨hs, hBu, hT1, hT2⟩ := two_new w _ _ _ _ hu
  have HX : Hid (u.heap.size = w.heap.size + 1 + 1 ∧ Below w.heap.size w u ∧ Tri u (w.heap.size + 1) (.int .i64 0) (.int .i64 0) (.slice none 0 0)) := ⟨hs, hBu, hT2⟩
  have C := hid (C0 (fun k => p k && decide (k < w.heap.size)) u hBu (h.cut.stay hBu))
  have HU := hid hu
  have t4 : (f.kind == 4) = false := by rw [hk]; rfl
  have t5 : (f.kind == 5) = false := by rw [hk]; rfl
  have t6 : (f.kind == 6) = false := by rw [hk]; rfl
  have t7 : (f.kind == 7) = false := by rw [hk]; rfl
  have t10 : (f.kind == 10) = false := by rw [hk]; rfl
  have t11 : (f.kind == 11) = false := by rw [hk]; rfl
  have t8 : (f.kind == 8) = false := by rw [hk]; rfl
  have t9 : (f.kind == 9) = true := by rw [hk]; rfl
  generalize slm f = g at *
  clear hu hs hBu hT1 hT2 h C0 hk
  go_enter Tryd.func43, Tryd.ntmps43
  go_wp2_with fail
  rw [← HU.out]
  refine C.out.mono ?_
  rintro e w3 ⟨a3, c3, rfl, hk3, hb3⟩
  have hT3 := HX.out.2.2.below hb3
  have HT3 := hid hT3
  have HB3 : Hid (Below w.heap.size w w3) := HX.out.2.1.trans (hb3.mono HX.out.2.1.size)
  have HK3 := hid hk3
  obtain ⟨⟨r0, r1, r2⟩, z0, z1, z2⟩ := tri_cells hT3
  have hlt := hT3.lt
  clear hk3 hb3 hT3 C HU
  go_wp2
  (try simp only [Exit.inBlock, Exit.then])
  refine bodyPost_ret (results_cell_row rfl _ _ (w.heap.size + 1) 24 #[.int .i64 g.kind, .int .i64 g.num, .slice a3 g.cnt c3] (0, 0) _ rfl (tri_set HT3.out _ _ _) Tryd.underlying24 rfl (by kernel_rfl)) rfl ?_
  exact ⟨a3, c3, rfl, nq_fin HX.out.1 HK3.out _ _ _, below_tri HB3.out (by omega) _ _ _⟩

set_option maxHeartbeats 2000000 in
theorem spo {f : Fml} (p : Nat → Bool) (hk : f.kind = 1 ∨ f.kind = 2 ∨ f.kind = 3) (a : Option Addr) (cap : Nat) (w : World) (h : Kq p w f a) :
    Calls Tryd.prog 43 #[.agg #[.int .i64 f.kind, .int .i64 f.num, .slice a f.cnt cap]] w fun e w' => Nq p w (slm f) e w' := by
  have hE : slm f = f := by
    unfold slm
    rw [if_neg (by omega), if_neg (by omega), if_neg (by omega), if_neg (by omega), if_neg (by omega), if_neg (by omega), if_neg (by omega), if_neg (by omega)]
  rw [hE]
  have HK := hid h
  have t4 : (f.kind == 4) = false := beq_eq_false_iff_ne.2 (by omega)
  have t5 : (f.kind == 5) = false := beq_eq_false_iff_ne.2 (by omega)
  have t6 : (f.kind == 6) = false := beq_eq_false_iff_ne.2 (by omega)
  have t7 : (f.kind == 7) = false := beq_eq_false_iff_ne.2 (by omega)
  have t10 : (f.kind == 10) = false := beq_eq_false_iff_ne.2 (by omega)
  have t11 : (f.kind == 11) = false := beq_eq_false_iff_ne.2 (by omega)
  have t8 : (f.kind == 8) = false := beq_eq_false_iff_ne.2 (by omega)
  have t9 : (f.kind == 9) = false := beq_eq_false_iff_ne.2 (by omega)
  clear h hk hE
  go_enter Tryd.func43, Tryd.ntmps43
  go_wp2
  (try simp only [Exit.inBlock, Exit.then])
  obtain ⟨v, hv⟩ : ∃ y, y = (w.alloc (.cells #[.int .i64 f.kind, .int .i64 f.num, .slice a f.cnt cap] 24)).alloc (.cells #[.int .i64 f.kind, .int .i64 f.num, .slice a f.cnt cap] 24) := ⟨_, rfl⟩
  obtain ⟨-, hBv, -, hTv⟩ := two_new w _ _ _ _ hv
  rw [← hv]
  refine bodyPost_ret (results_cell_row rfl _ _ (w.heap.size + 1) 24 #[.int .i64 f.kind, .int .i64 f.num, .slice a f.cnt cap] (0, 0) _ rfl hTv Tryd.underlying24 rfl (by kernel_rfl)) rfl ?_
  exact ⟨a, cap, rfl, HK.out.below hBv, hBv⟩

/-- slimPart of a right part of one Kid, no LNot. -/
theorem part_single {f : Fml} (p : Nat → Bool) (hw : Wf f) (hk : f.kind = 7 ∨ f.kind = 10 ∨ f.kind = 11) (a : Option Addr) (cap : Nat) (w : World) (h : Kq p w f a) :
    Calls Tryd.prog 43 #[.agg #[.int .i64 f.kind, .int .i64 f.num, .slice a f.cnt cap]] w fun e w' => Nq p w (slm f) e w' := by
  rcases id hk with h7 | h7 | h7
  · exact sp7 p h7 a cap w h (fun q z _ hz => single52 q hw hk a cap z hz)
  · exact sp10 p h7 a cap w h (fun q z _ hz => single52 q hw hk a cap z hz)
  · exact sp11 p h7 a cap w h (fun q z _ hz => single52 q hw hk a cap z hz)

set_option maxHeartbeats 4000000 in
theorem way53 {f : Fml} (p : Nat → Bool) (s g i : Int) (hi : i = 10 ∨ i = 11) (hw : Wf f) (hcc : f.cnt = 2) (a : Option Addr) (cap : Nat) (w : World) (h : Kq p w f a) :
    Calls Tryd.prog 53 #[.agg #[.int .i64 f.kind, .int .i64 f.num, .slice a f.cnt cap], .int .i64 s, .int .i64 g, .int .i64 i] w fun e w' => Nq p w (slW f s g i) e w' := by
  have hwk := hw.out.2 1 (by omega)
  obtain ⟨b, o, a0, c0, rfl, e1, e2, e3, e4, e5⟩ := kid_cells h (i := 0) (by omega)
  obtain ⟨b', o', a1, c1, hab, g1, g2, g3, g4, g5⟩ := kid_cells h (i := 1) (by omega)
  simp only [Option.some.injEq, Addr.mk.injEq, and_true] at hab
  obtain ⟨rfl, rfl⟩ := hab
  simp only [Nat.zero_mul, Nat.add_zero, Nat.one_mul] at e1 e2 e3 g1 g2 g3
  obtain ⟨u, hu⟩ : ∃ y, y = (w.alloc (.cells #[.int .i64 f.kind, .int .i64 f.num, .slice (some ⟨b, o, none⟩) f.cnt cap] 24)).alloc (.cells #[.int .i64 0, .int .i64 0, .slice none 0 0] 24) := ⟨_, rfl⟩
  obtain ⟨hs, hBu, hT1, hT2⟩ := two_new w _ _ _ _ hu
  obtain ⟨k0, hk0⟩ : ∃ y, y = f.kid 0 := ⟨_, rfl⟩
  obtain ⟨k1, hk1⟩ : ∃ y, y = f.kid 1 := ⟨_, rfl⟩
  rw [← hk0] at e1 e2 e3 e4 e5
  rw [← hk1] at g1 g2 g3 g4 g5
  have HS : Hid (∀ y, Below u.heap.size u y → y.cell? ⟨w.heap.size, 2, none⟩ = some (.slice (some ⟨b, o, none⟩) f.cnt cap) ∧ y.cell? ⟨b, o, none⟩ = some (.int .i64 k0.kind) ∧ y.cell? ⟨b, o + 1, none⟩ = some (.int .i64 k0.num) ∧ y.cell? ⟨b, o + 2, none⟩ = some (.slice a0 k0.cnt c0) ∧ y.cell? ⟨b, o + 3, none⟩ = some (.int .i64 k1.kind) ∧ y.cell? ⟨b, o + 3 + 1, none⟩ = some (.int .i64 k1.num) ∧ y.cell? ⟨b, o + 3 + 2, none⟩ = some (.slice a1 k1.cnt c1)) := fun y hy => by
    have hy2 := hBu.trans (hy.mono hBu.size)
    exact ⟨(tri_cells (Tri.below (show Tri u w.heap.size (.int .i64 f.kind) (.int .i64 f.num) (.slice (some ⟨b, o, none⟩) f.cnt cap) from hT1) hy)).1.2.2, below_cell hy2 (Nat.le_refl _) e1, below_cell hy2 (Nat.le_refl _) e2, below_cell hy2 (Nat.le_refl _) e3, below_cell hy2 (Nat.le_refl _) g1, below_cell hy2 (Nat.le_refl _) g2, below_cell hy2 (Nat.le_refl _) g3⟩
  have HX : Hid (u.heap.size = w.heap.size + 1 + 1 ∧ Below w.heap.size w u ∧ Tri u w.heap.size (.int .i64 f.kind) (.int .i64 f.num) (.slice (some ⟨b, o, none⟩) f.cnt cap) ∧ Tri u (w.heap.size + 1) (.int .i64 0) (.int .i64 0) (.slice none 0 0)) := ⟨hs, hBu, hT1, hT2⟩
  have HU := hid hu
  have HKF := hid h
  have HK0 := hid (And.intro e5 e4)
  have HK1 := hid (And.intro g5 g4)
  have hcz : (1 : Int) < f.cnt := by omega
  have hcz0 : (0 : Int) < f.cnt := by omega
  have hcn : 1 < f.cnt := by omega
  have hcn0 : 0 < f.cnt := by omega
  rw [← hk1] at hwk
  have hE : slW f s g i = if (k1.kind = 1 ∨ k1.kind = 2) ∨ k0.kind = s then k1 else if k0.kind = g then (if k1.kind = i then k1 else on i k1) else if same k0 k1 = true then k1 else f := by rw [hk0, hk1]; rfl
  have HW1 := hid hwk
  clear hu hs hBu hT1 hT2 h e1 e2 e3 e4 e5 g1 g2 g3 g4 g5 hk0 hk1 hcc hw hwk
  have HE := hid hE
  have HI := hid hi
  clear hE hi
  generalize slW f s g i = gg at *
  go_enter Tryd.func53, Tryd.ntmps53
  go_wp2
  rw [← HU.out]
  clear HU
  go_cut [9, 10] from 11 to 18 (fun v7 v8 wc => ∃ x7 x8, v7 = .pointer (some ⟨x7, 0, none⟩) ∧ v8 = .pointer (some ⟨x8, 0, none⟩) ∧ Hid (Below u.heap.size u wc ∧ Tri wc x7 (.int .i64 k0.kind) (.int .i64 k0.num) (.slice a0 k0.cnt c0) ∧ Tri wc x8 (.int .i64 k1.kind) (.int .i64 k1.num) (.slice a1 k1.cnt c1)))
  case first =>
    have hB0 : Below u.heap.size u u.drew := below_drewN (Below.refl _ _) 1
    refine G_region (fun y => y.cell? ⟨w.heap.size, 2, none⟩ = some (.slice (some ⟨b, o, none⟩) f.cnt cap) ∧ y.cell? ⟨b, o, none⟩ = some (.int .i64 k0.kind) ∧ y.cell? ⟨b, o + 1, none⟩ = some (.int .i64 k0.num) ∧ y.cell? ⟨b, o + 2, none⟩ = some (.slice a0 k0.cnt c0) ∧ y.cell? ⟨b, o + 3, none⟩ = some (.int .i64 k1.kind) ∧ y.cell? ⟨b, o + 3 + 1, none⟩ = some (.int .i64 k1.num) ∧ y.cell? ⟨b, o + 3 + 2, none⟩ = some (.slice a1 k1.cnt c1)) (fun _ => false) (by kernel_rfl) (HS.out _ hB0) (fun _ => ?_)
    refine G_take (i := 0) (oi := { dst := some 11, op := Op.fieldAddr 24 (Operand.tmp 4) 2, type := 0, pos := _, after := #[], guard := none }) (v := .pointer (some ⟨w.heap.size, 2, none⟩)) rfl (by kernel_rfl) (by kernel_rfl) (by kernel_rfl) (by kernel_rfl) (fun _ _ _ h => h) (by rfl) (fun u hu => ?_) (HS.out _ hB0) ?_
    · (try dsimp only at hu); go_simp
    (try simp only [Act.put, List.setIfInBounds_toArray, List.set_cons_zero, List.set_cons_succ])
    refine G_take (i := 1) (oi := { dst := some 12, op := Op.load 22 (Operand.tmp 11), type := 22, pos := _, after := #[{ on := 0, ground := Ground.data }], guard := none }) (v := .slice (some ⟨b, o, none⟩) f.cnt cap) rfl (by kernel_rfl) (by kernel_rfl) (by kernel_rfl) (by kernel_rfl) (fun _ _ _ h => h) (by rfl) (fun u hu => ?_) (HS.out _ hB0) ?_
    · (try dsimp only at hu); go_simp
    (try simp only [Act.put, List.setIfInBounds_toArray, List.set_cons_zero, List.set_cons_succ])
    refine G_take (i := 2) (oi := { dst := some 13, op := Op.indexAddr 22 (Operand.tmp 12) (Operand.const (Value.int IntKind.i64 0)), type := 0, pos := _, after := #[{ on := 1, ground := Ground.data }], guard := none }) (v := .pointer (some ⟨b, o, none⟩)) rfl (by kernel_rfl) (by kernel_rfl) (by kernel_rfl) (by kernel_rfl) (fun _ _ _ h => h) (by rfl) (fun u hu => ?_) (HS.out _ hB0) ?_
    · (try dsimp only at hu); go_simp
    (try simp only [Act.put, List.setIfInBounds_toArray, List.set_cons_zero, List.set_cons_succ])
    refine G_take (i := 3) (oi := { dst := some 14, op := Op.load 24 (Operand.tmp 13), type := 24, pos := _, after := #[{ on := 2, ground := Ground.data }], guard := none }) (v := .agg #[.int .i64 k0.kind, .int .i64 k0.num, .slice a0 k0.cnt c0]) rfl (by kernel_rfl) (by kernel_rfl) (by kernel_rfl) (by kernel_rfl) (fun _ _ _ h => h) (by rfl) (fun u hu => ?_) (HS.out _ hB0) ?_
    · (try dsimp only at hu); go_simp
    (try simp only [Act.put, List.setIfInBounds_toArray, List.set_cons_zero, List.set_cons_succ])
    refine G_take (i := 4) (oi := { dst := some 15, op := Op.fieldAddr 24 (Operand.tmp 4) 2, type := 0, pos := _, after := #[{ on := 10, ground := Ground.gcOnly Departure.lateStores }], guard := none }) (v := .pointer (some ⟨w.heap.size, 2, none⟩)) rfl (by kernel_rfl) (by kernel_rfl) (by kernel_rfl) (by kernel_rfl) (fun _ _ _ h => h) (by rfl) (fun u hu => ?_) (HS.out _ hB0) ?_
    · (try dsimp only at hu); go_simp
    (try simp only [Act.put, List.setIfInBounds_toArray, List.set_cons_zero, List.set_cons_succ])
    refine G_take (i := 5) (oi := { dst := some 16, op := Op.load 22 (Operand.tmp 15), type := 22, pos := _, after := #[{ on := 4, ground := Ground.data }, { on := 10, ground := Ground.gcOnly Departure.lateStores }], guard := none }) (v := .slice (some ⟨b, o, none⟩) f.cnt cap) rfl (by kernel_rfl) (by kernel_rfl) (by kernel_rfl) (by kernel_rfl) (fun _ _ _ h => h) (by rfl) (fun u hu => ?_) (HS.out _ hB0) ?_
    · (try dsimp only at hu); go_simp
    (try simp only [Act.put, List.setIfInBounds_toArray, List.set_cons_zero, List.set_cons_succ])
    refine G_take (i := 6) (oi := { dst := some 17, op := Op.indexAddr 22 (Operand.tmp 16) (Operand.const (Value.int IntKind.i64 1)), type := 0, pos := _, after := #[{ on := 5, ground := Ground.data }, { on := 10, ground := Ground.gcOnly Departure.lateStores }], guard := none }) (v := .pointer (some ⟨b, o + 3, none⟩)) rfl (by kernel_rfl) (by kernel_rfl) (by kernel_rfl) (by kernel_rfl) (fun _ _ _ h => h) (by rfl) (fun u hu => ?_) (HS.out _ hB0) ?_
    · (try dsimp only at hu); go_simp
    (try simp only [Act.put, List.setIfInBounds_toArray, List.set_cons_zero, List.set_cons_succ])
    refine G_take (i := 7) (oi := { dst := some 18, op := Op.load 24 (Operand.tmp 17), type := 24, pos := _, after := #[{ on := 6, ground := Ground.data }, { on := 10, ground := Ground.gcOnly Departure.lateStores }], guard := none }) (v := .agg #[.int .i64 k1.kind, .int .i64 k1.num, .slice a1 k1.cnt c1]) rfl (by kernel_rfl) (by kernel_rfl) (by kernel_rfl) (by kernel_rfl) (fun _ _ _ h => h) (by rfl) (fun u hu => ?_) (HS.out _ hB0) ?_
    · (try dsimp only at hu); go_simp
    (try simp only [Act.put, List.setIfInBounds_toArray, List.set_cons_zero, List.set_cons_succ])
    obtain ⟨y0, hy0⟩ : ∃ q, q = u.drew := ⟨_, rfl⟩
    rw [← hy0] at hB0 ⊢
    have hs0 : u.heap.size ≤ y0.heap.size := hB0.size
    clear hy0
    refine G_alt (l := [8, 9]) (by kernel_rfl) (by decide) ?_
    intro i hi
    have hi2 : i = 8 ∨ i = 9 := by simpa using hi
    clear hi
    rcases hi2 with rfl | rfl
    · refine ⟨{ dst := some 9, op := Op.alloc 24, type := 0, pos := _, after := #[], guard := none }, rfl, fun K' hK => ?_⟩
      go_simp
      obtain ⟨y1, hy1⟩ : ∃ q, q = y0.alloc (.cells #[.int .i64 0, .int .i64 0, .slice none 0 0] 24) := ⟨_, rfl⟩
      have hb1 : Below y0.heap.size y0 y1 := by rw [hy1]; exact box_below _ _
      have hx1 : Tri y1 y0.heap.size (.int .i64 0) (.int .i64 0) (.slice none 0 0) := by rw [hy1]; exact tri_new _ _ _ _
      have HS1 : Hid (y1.heap.size = y0.heap.size + 1) := by rw [hy1]; exact hid (by simp)
      rw [← hy1]
      have hB1 := hB0.trans (hb1.mono hB0.size)
      refine hK.out _ _ (fun _ => HS.out _ hB1) (fun _ => ?_)
      clear hK K' hy1
      (try simp only [Act.put, List.setIfInBounds_toArray, List.set_cons_zero, List.set_cons_succ])
      refine G_step (i := 9) (o := { dst := some 10, op := Op.alloc 24, type := 0, pos := _, after := #[], guard := none }) (by kernel_rfl) rfl (fun K' hK => ?_)
      go_simp
      obtain ⟨y2, hy2⟩ : ∃ q, q = y1.alloc (.cells #[.int .i64 0, .int .i64 0, .slice none 0 0] 24) := ⟨_, rfl⟩
      have hb2 : Below y1.heap.size y1 y2 := by rw [hy2]; exact box_below _ _
      have hx2 : Tri y2 y1.heap.size (.int .i64 0) (.int .i64 0) (.slice none 0 0) := by rw [hy2]; exact tri_new _ _ _ _
      have hx1 := hx1.below hb2
      rw [← hy2]
      have hB2 := hB1.trans (hb2.mono hB1.size)
      refine hK.out _ _ (fun _ => HS.out _ hB2) (fun _ => ?_)
      clear hK K' hy2
      (try simp only [Act.put, List.setIfInBounds_toArray, List.set_cons_zero, List.set_cons_succ])
      obtain ⟨x7, hx7⟩ : ∃ q, q = y0.heap.size := ⟨_, rfl⟩
      obtain ⟨x8, hx8⟩ : ∃ q, q = y1.heap.size := ⟨_, rfl⟩
      have hl7 : u.heap.size ≤ x7 := by have := HS1.out; omega
      have hl8 : u.heap.size ≤ x8 := by have := HS1.out; omega
      have hne : x7 ≠ x8 := by have := HS1.out; omega
      have hne' : x8 ≠ x7 := by have := HS1.out; omega
      have hA := hx1
      have hBk := hx2
      rw [← hx7] at hA ⊢
      rw [← hx8] at hBk ⊢
      clear hx1 hx2 hb1 hb2 hB1 hx7 hx8 HS1
      obtain ⟨⟨d0, d1, d2⟩, g0, g1, g2⟩ := tri_cells hA
      have hAl := hA.lt
      refine G_step (i := 10) (o := { dst := none, op := Op.store 24 (Operand.tmp 9) (Operand.tmp 14), type := 0, pos := _, after := #[{ on := 8, ground := Ground.data }, { on := 3, ground := Ground.data }, { on := 0, ground := Ground.phase }, { on := 1, ground := Ground.phase }, { on := 2, ground := Ground.phase }, { on := 3, ground := Ground.phase }, { on := 4, ground := Ground.textOnly Departure.lateStores }, { on := 5, ground := Ground.textOnly Departure.lateStores }, { on := 6, ground := Ground.textOnly Departure.lateStores }, { on := 7, ground := Ground.textOnly Departure.lateStores }, { on := 8, ground := Ground.phase }, { on := 9, ground := Ground.phase }], guard := none }) (by kernel_rfl) rfl (fun K' hK => ?_)
      go_simp
      obtain ⟨y3, hy3⟩ : ∃ q, q = ((y2.setCell ⟨x7, 0, none⟩ (.int .i64 k0.kind)).setCell ⟨x7, 1, none⟩ (.int .i64 k0.num)).setCell ⟨x7, 2, none⟩ (.slice a0 k0.cnt c0) := ⟨_, rfl⟩
      rw [← hy3]
      have hB3 : Below u.heap.size u y3 := by rw [hy3]; exact below_tri hB2 hl7 _ _ _
      have hA3 : Tri y3 x7 (.int .i64 k0.kind) (.int .i64 k0.num) (.slice a0 k0.cnt c0) := by rw [hy3]; exact tri_set hA _ _ _
      have hBk3 : Tri y3 x8 (.int .i64 0) (.int .i64 0) (.slice none 0 0) := by rw [hy3]; exact (blk_tri hne' _ _ _).trans hBk
      refine hK.out _ _ (fun _ => HS.out _ hB3) (fun _ => ?_)
      clear hK K' hy3 hA hBk hB2 d0 d1 d2 g0 g1 g2 hAl
      (try simp only [Act.put, List.setIfInBounds_toArray, List.set_cons_zero, List.set_cons_succ])
      obtain ⟨⟨d0, d1, d2⟩, g0, g1, g2⟩ := tri_cells hBk3
      have hBl := hBk3.lt
      refine G_step (i := 11) (o := { dst := none, op := Op.store 24 (Operand.tmp 10) (Operand.tmp 18), type := 0, pos := _, after := #[{ on := 9, ground := Ground.data }, { on := 7, ground := Ground.data }, { on := 10, ground := Ground.chain }, { on := 0, ground := Ground.phase }, { on := 1, ground := Ground.phase }, { on := 2, ground := Ground.phase }, { on := 3, ground := Ground.phase }, { on := 4, ground := Ground.phase }, { on := 5, ground := Ground.phase }, { on := 6, ground := Ground.phase }, { on := 7, ground := Ground.phase }, { on := 8, ground := Ground.phase }, { on := 9, ground := Ground.phase }, { on := 10, ground := Ground.phase }], guard := none }) (by kernel_rfl) rfl (fun K' hK => ?_)
      go_simp
      obtain ⟨y4, hy4⟩ : ∃ q, q = ((y3.setCell ⟨x8, 0, none⟩ (.int .i64 k1.kind)).setCell ⟨x8, 1, none⟩ (.int .i64 k1.num)).setCell ⟨x8, 2, none⟩ (.slice a1 k1.cnt c1) := ⟨_, rfl⟩
      rw [← hy4]
      have hB4 : Below u.heap.size u y4 := by rw [hy4]; exact below_tri hB3 hl8 _ _ _
      have hBk4 : Tri y4 x8 (.int .i64 k1.kind) (.int .i64 k1.num) (.slice a1 k1.cnt c1) := by rw [hy4]; exact tri_set hBk3 _ _ _
      have hA4 : Tri y4 x7 (.int .i64 k0.kind) (.int .i64 k0.num) (.slice a0 k0.cnt c0) := by rw [hy4]; exact (blk_tri hne _ _ _).trans hA3
      refine hK.out _ _ (fun _ => HS.out _ hB4) (fun _ => ?_)
      clear hK K' hy4 hA3 hBk3 hB3 d0 d1 d2 g0 g1 g2 hBl
      (try simp only [Act.put, List.setIfInBounds_toArray, List.set_cons_zero, List.set_cons_succ])
      refine G_done (by kernel_rfl) ?_ _
      have HFIN : Hid (Below u.heap.size u y4 ∧ Tri y4 x7 (.int .i64 k0.kind) (.int .i64 k0.num) (.slice a0 k0.cnt c0) ∧ Tri y4 x8 (.int .i64 k1.kind) (.int .i64 k1.num) (.slice a1 k1.cnt c1)) := ⟨hB4, hA4, hBk4⟩
      clear hB4 hA4 hBk4
      go_wp2_with fail
      go_meet
      exact ⟨x7, x8, rfl, rfl, HFIN⟩
    · refine ⟨{ dst := some 10, op := Op.alloc 24, type := 0, pos := _, after := #[], guard := none }, rfl, fun K' hK => ?_⟩
      go_simp
      obtain ⟨y1, hy1⟩ : ∃ q, q = y0.alloc (.cells #[.int .i64 0, .int .i64 0, .slice none 0 0] 24) := ⟨_, rfl⟩
      have hb1 : Below y0.heap.size y0 y1 := by rw [hy1]; exact box_below _ _
      have hx1 : Tri y1 y0.heap.size (.int .i64 0) (.int .i64 0) (.slice none 0 0) := by rw [hy1]; exact tri_new _ _ _ _
      have HS1 : Hid (y1.heap.size = y0.heap.size + 1) := by rw [hy1]; exact hid (by simp)
      rw [← hy1]
      have hB1 := hB0.trans (hb1.mono hB0.size)
      refine hK.out _ _ (fun _ => HS.out _ hB1) (fun _ => ?_)
      clear hK K' hy1
      (try simp only [Act.put, List.setIfInBounds_toArray, List.set_cons_zero, List.set_cons_succ])
      refine G_step (i := 8) (o := { dst := some 9, op := Op.alloc 24, type := 0, pos := _, after := #[], guard := none }) (by kernel_rfl) rfl (fun K' hK => ?_)
      go_simp
      obtain ⟨y2, hy2⟩ : ∃ q, q = y1.alloc (.cells #[.int .i64 0, .int .i64 0, .slice none 0 0] 24) := ⟨_, rfl⟩
      have hb2 : Below y1.heap.size y1 y2 := by rw [hy2]; exact box_below _ _
      have hx2 : Tri y2 y1.heap.size (.int .i64 0) (.int .i64 0) (.slice none 0 0) := by rw [hy2]; exact tri_new _ _ _ _
      have hx1 := hx1.below hb2
      rw [← hy2]
      have hB2 := hB1.trans (hb2.mono hB1.size)
      refine hK.out _ _ (fun _ => HS.out _ hB2) (fun _ => ?_)
      clear hK K' hy2
      (try simp only [Act.put, List.setIfInBounds_toArray, List.set_cons_zero, List.set_cons_succ])
      obtain ⟨x7, hx7⟩ : ∃ q, q = y1.heap.size := ⟨_, rfl⟩
      obtain ⟨x8, hx8⟩ : ∃ q, q = y0.heap.size := ⟨_, rfl⟩
      have hl7 : u.heap.size ≤ x7 := by have := HS1.out; omega
      have hl8 : u.heap.size ≤ x8 := by have := HS1.out; omega
      have hne : x7 ≠ x8 := by have := HS1.out; omega
      have hne' : x8 ≠ x7 := by have := HS1.out; omega
      have hA := hx2
      have hBk := hx1
      rw [← hx7] at hA ⊢
      rw [← hx8] at hBk ⊢
      clear hx1 hx2 hb1 hb2 hB1 hx7 hx8 HS1
      obtain ⟨⟨d0, d1, d2⟩, g0, g1, g2⟩ := tri_cells hA
      have hAl := hA.lt
      refine G_step (i := 10) (o := { dst := none, op := Op.store 24 (Operand.tmp 9) (Operand.tmp 14), type := 0, pos := _, after := #[{ on := 8, ground := Ground.data }, { on := 3, ground := Ground.data }, { on := 0, ground := Ground.phase }, { on := 1, ground := Ground.phase }, { on := 2, ground := Ground.phase }, { on := 3, ground := Ground.phase }, { on := 4, ground := Ground.textOnly Departure.lateStores }, { on := 5, ground := Ground.textOnly Departure.lateStores }, { on := 6, ground := Ground.textOnly Departure.lateStores }, { on := 7, ground := Ground.textOnly Departure.lateStores }, { on := 8, ground := Ground.phase }, { on := 9, ground := Ground.phase }], guard := none }) (by kernel_rfl) rfl (fun K' hK => ?_)
      go_simp
      obtain ⟨y3, hy3⟩ : ∃ q, q = ((y2.setCell ⟨x7, 0, none⟩ (.int .i64 k0.kind)).setCell ⟨x7, 1, none⟩ (.int .i64 k0.num)).setCell ⟨x7, 2, none⟩ (.slice a0 k0.cnt c0) := ⟨_, rfl⟩
      rw [← hy3]
      have hB3 : Below u.heap.size u y3 := by rw [hy3]; exact below_tri hB2 hl7 _ _ _
      have hA3 : Tri y3 x7 (.int .i64 k0.kind) (.int .i64 k0.num) (.slice a0 k0.cnt c0) := by rw [hy3]; exact tri_set hA _ _ _
      have hBk3 : Tri y3 x8 (.int .i64 0) (.int .i64 0) (.slice none 0 0) := by rw [hy3]; exact (blk_tri hne' _ _ _).trans hBk
      refine hK.out _ _ (fun _ => HS.out _ hB3) (fun _ => ?_)
      clear hK K' hy3 hA hBk hB2 d0 d1 d2 g0 g1 g2 hAl
      (try simp only [Act.put, List.setIfInBounds_toArray, List.set_cons_zero, List.set_cons_succ])
      obtain ⟨⟨d0, d1, d2⟩, g0, g1, g2⟩ := tri_cells hBk3
      have hBl := hBk3.lt
      refine G_step (i := 11) (o := { dst := none, op := Op.store 24 (Operand.tmp 10) (Operand.tmp 18), type := 0, pos := _, after := #[{ on := 9, ground := Ground.data }, { on := 7, ground := Ground.data }, { on := 10, ground := Ground.chain }, { on := 0, ground := Ground.phase }, { on := 1, ground := Ground.phase }, { on := 2, ground := Ground.phase }, { on := 3, ground := Ground.phase }, { on := 4, ground := Ground.phase }, { on := 5, ground := Ground.phase }, { on := 6, ground := Ground.phase }, { on := 7, ground := Ground.phase }, { on := 8, ground := Ground.phase }, { on := 9, ground := Ground.phase }, { on := 10, ground := Ground.phase }], guard := none }) (by kernel_rfl) rfl (fun K' hK => ?_)
      go_simp
      obtain ⟨y4, hy4⟩ : ∃ q, q = ((y3.setCell ⟨x8, 0, none⟩ (.int .i64 k1.kind)).setCell ⟨x8, 1, none⟩ (.int .i64 k1.num)).setCell ⟨x8, 2, none⟩ (.slice a1 k1.cnt c1) := ⟨_, rfl⟩
      rw [← hy4]
      have hB4 : Below u.heap.size u y4 := by rw [hy4]; exact below_tri hB3 hl8 _ _ _
      have hBk4 : Tri y4 x8 (.int .i64 k1.kind) (.int .i64 k1.num) (.slice a1 k1.cnt c1) := by rw [hy4]; exact tri_set hBk3 _ _ _
      have hA4 : Tri y4 x7 (.int .i64 k0.kind) (.int .i64 k0.num) (.slice a0 k0.cnt c0) := by rw [hy4]; exact (blk_tri hne _ _ _).trans hA3
      refine hK.out _ _ (fun _ => HS.out _ hB4) (fun _ => ?_)
      clear hK K' hy4 hA3 hBk3 hB3 d0 d1 d2 g0 g1 g2 hBl
      (try simp only [Act.put, List.setIfInBounds_toArray, List.set_cons_zero, List.set_cons_succ])
      refine G_done (by kernel_rfl) ?_ _
      have HFIN : Hid (Below u.heap.size u y4 ∧ Tri y4 x7 (.int .i64 k0.kind) (.int .i64 k0.num) (.slice a0 k0.cnt c0) ∧ Tri y4 x8 (.int .i64 k1.kind) (.int .i64 k1.num) (.slice a1 k1.cnt c1)) := ⟨hB4, hA4, hBk4⟩
      clear hB4 hA4 hBk4
      go_wp2_with fail
      go_meet
      exact ⟨x7, x8, rfl, rfl, HFIN⟩
  obtain ⟨x7, x8, rfl, rfl, HC0⟩ := hcut
  have C := hid (fixed63 k1.kind k1.num a1 k1.cnt c1 wc)
  obtain ⟨⟨s0, s1, s2⟩, -⟩ := tri_cells HC0.out.2.2
  go_wp2_with fail
  refine C.out.mono ?_
  rintro e wd ⟨rfl, hbd⟩
  have HC : Hid (Below u.heap.size u wd ∧ Tri wd x7 (.int .i64 k0.kind) (.int .i64 k0.num) (.slice a0 k0.cnt c0) ∧ Tri wd x8 (.int .i64 k1.kind) (.int .i64 k1.num) (.slice a1 k1.cnt c1)) := ⟨HC0.out.1.trans (hbd.mono HC0.out.1.size), HC0.out.2.1.below hbd, HC0.out.2.2.below hbd⟩
  clear hbd HC0 C s0 s1 s2
  obtain ⟨⟨v0, v1, v2⟩, -⟩ := tri_cells HC.out.2.1
  obtain ⟨⟨s0, s1, s2⟩, -⟩ := tri_cells HC.out.2.2
  obtain ⟨⟨f0, f1, f2⟩, -⟩ := tri_cells (HX.out.2.2.1.below HC.out.1)
  obtain ⟨⟨r0, r1, r2⟩, z0, z1, z2⟩ := tri_cells (HX.out.2.2.2.below HC.out.1)
  have hlt := (HX.out.2.2.2.below HC.out.1).lt
  have HB3 : Hid (Below w.heap.size w wd) := HX.out.2.1.trans (HC.out.1.mono HX.out.2.1.size)
  have HT3 := hid (HX.out.2.2.2.below HC.out.1)
  have hE := HE.out
  by_cases q1 : fxd k1.kind = true
  · have HEq := hid (hE.trans (if_pos (Or.inl (of_decide_eq_true q1))))
    clear hE HE
    rw [q1]
    clear q1
    go_wp2
    (try simp only [Exit.inBlock, Exit.then])
    refine bodyPost_ret (results_cell_row rfl _ _ (w.heap.size + 1) 24 #[.int .i64 k1.kind, .int .i64 k1.num, .slice a1 k1.cnt c1] (0, 0) _ rfl (tri_set HT3.out _ _ _) Tryd.underlying24 rfl (by kernel_rfl)) rfl ?_
    rw [HEq.out]
    have hbf := below_tri (x := w.heap.size + 1) HB3.out (by omega) (.int .i64 k1.kind) (.int .i64 k1.num) (.slice a1 k1.cnt c1)
    exact ⟨a1, c1, rfl, HK1.out.1.below hbf, hbf⟩
  have q1' : fxd k1.kind = false := by simpa using q1
  have q1n : ¬ (k1.kind = 1 ∨ k1.kind = 2) := fun hh => q1 (decide_eq_true hh)
  rw [q1']
  clear q1 q1'
  by_cases q2 : k0.kind = s
  · have HEq := hid (hE.trans (if_pos (Or.inr q2)))
    have q2b : (k0.kind == s) = true := beq_iff_eq.2 q2
    clear hE HE q2 q1n
    go_wp2
    (try simp only [Exit.inBlock, Exit.then])
    refine bodyPost_ret (results_cell_row rfl _ _ (w.heap.size + 1) 24 #[.int .i64 k1.kind, .int .i64 k1.num, .slice a1 k1.cnt c1] (0, 0) _ rfl (tri_set HT3.out _ _ _) Tryd.underlying24 rfl (by kernel_rfl)) rfl ?_
    rw [HEq.out]
    have hbf := below_tri (x := w.heap.size + 1) HB3.out (by omega) (.int .i64 k1.kind) (.int .i64 k1.num) (.slice a1 k1.cnt c1)
    exact ⟨a1, c1, rfl, HK1.out.1.below hbf, hbf⟩
  have q2b : (k0.kind == s) = false := beq_eq_false_iff_ne.2 q2
  rw [if_neg (by rintro (h1 | h1); exact q1n h1; exact q2 h1)] at hE
  by_cases q3 : k0.kind = g
  · have q3b : (k0.kind == g) = true := beq_iff_eq.2 q3
    rw [if_pos q3] at hE
    have HEq : Hid (gg = slm (on i k1)) := by
      have e1 := slm_single (f := on i k1) (by have : (on i k1).kind = i := rfl; rw [this]; exact Or.inr HI.out)
      rw [on_kid] at e1
      have e2 : (on i k1).kind = i := rfl
      rw [e2] at e1
      refine hid (hE.trans (Eq.trans ?_ e1.symm))
      have hf : fxd k1.kind = false := decide_eq_false q1n
      have hi7 : i ≠ 7 := by have := HI.out; omega
      rw [hf]
      simp [hi7]
    obtain ⟨we, hwe⟩ : ∃ y, y = wd.alloc (.cells #[.int .i64 k1.kind, .int .i64 k1.num, .slice a1 k1.cnt c1] 24) := ⟨_, rfl⟩
    have hbe : Below wd.heap.size wd we := by rw [hwe]; exact box_below _ _
    have hxe : we.heap[wd.heap.size]? = some (.cells #[.int .i64 k1.kind, .int .i64 k1.num, .slice a1 k1.cnt c1] 24) := by rw [hwe]; exact Go.Deep.blk_alloc_new _ _
    have hbw := HB3.out.trans (hbe.mono HB3.out.size)
    have hKe : Kq (nw (fun k => p k && decide (k < w.heap.size)) u) we (on i k1) (some ⟨wd.heap.size, 0, none⟩) := by
      have hk1e : Kds (lim (nw (fun k => p k && decide (k < w.heap.size)) u) we) k1 a1 := kl_keep HK1.out.1 (fun k h1 h2 => ⟨by simp [nw, h1, h2], hbw.block k h2⟩)
      exact kds_on (cap := c1) ((lim_at (by simp [nw, HC.out.1.size])).trans hxe) HK1.out.2 hk1e
    have HWe := hid hwe
    have HBe := hid hbe
    have hbue := HC.out.1.trans (hbe.mono HC.out.1.size)
    have C1 := hid (part_g i (some ⟨wd.heap.size, 0, none⟩) 1 1 we)
    have C2 : Hid (∀ z, Below we.heap.size we z → Calls Tryd.prog 43 #[.agg #[.int .i64 i, .int .i64 0, .slice (some ⟨wd.heap.size, 0, none⟩) 1 1]] z fun e w' => Nq (nw (fun k => p k && decide (k < w.heap.size)) u) z (slm (on i k1)) e w') := fun z hz =>
      part_single (f := on i k1) _ (wf_on (by have := HI.out; omega) HW1.out) (by have : (on i k1).kind = i := rfl; rw [this]; exact Or.inr HI.out) _ _ z (hKe.stay hz)
    have HBU := hid hbue
    generalize slm (on i k1) = sg at *
    clear hE HE q1n q2 q3 hwe hbe hxe hbw hKe hbue
    go_wp2_with fail
    rw [← HWe.out]
    refine C1.out.mono ?_
    rintro e wf ⟨rfl, hbf⟩
    have C3 := hid (C2.out wf hbf)
    have HBf : Hid (Below u.heap.size u wf) := HBU.out.trans (hbf.mono HBU.out.size)
    clear hbf C1 C2 HWe
    clear v0 v1 v2 s0 s1 s2 f0 f1 f2 r0 r1 r2 z0 z1 z2 hlt HB3 HT3
    go_wp2_with fail
    refine C3.out.mono ?_
    rintro e w4 ⟨a4, c4, rfl, hk4, hb4⟩
    have hbu4 := HBf.out.trans (hb4.mono HBf.out.size)
    obtain ⟨⟨r0, r1, r2⟩, z0, z1, z2⟩ := tri_cells (HX.out.2.2.2.below hbu4)
    have hlt := (HX.out.2.2.2.below hbu4).lt
    have HB3 : Hid (Below w.heap.size w w4) := HX.out.2.1.trans (hbu4.mono HX.out.2.1.size)
    have HT3 := hid (HX.out.2.2.2.below hbu4)
    have HK4 : Hid (Kq (nw (fun k => p k && decide (k < w.heap.size)) u) w4 sg a4) := by
      refine kl_keep hk4 (fun k h1 _ => ⟨?_, rfl⟩)
      have hsz := HBf.out.size
      simp only [nw, Bool.or_eq_true, Bool.and_eq_true, decide_eq_true_eq] at h1 ⊢
      rcases h1 with h1 | h1
      · exact h1
      · exact Or.inr (by omega)
    clear hk4 hb4 hbu4 C3
    go_wp2
    (try simp only [Exit.inBlock, Exit.then])
    refine bodyPost_ret (results_cell_row rfl _ _ (w.heap.size + 1) 24 #[.int .i64 sg.kind, .int .i64 sg.num, .slice a4 sg.cnt c4] (0, 0) _ rfl (tri_set HT3.out _ _ _) Tryd.underlying24 rfl (by kernel_rfl)) rfl ?_
    rw [HEq.out]
    exact ⟨a4, c4, rfl, nq_fin HX.out.1 HK4.out _ _ _, below_tri HB3.out (by omega) _ _ _⟩
  have q3b : (k0.kind == g) = false := beq_eq_false_iff_ne.2 q3
  rw [if_neg q3] at hE
  have C := hid (same62 k0 k1 a0 a1 c0 c1 wd (HK0.out.1.out.below HB3.out) (HK1.out.1.out.below HB3.out) HK0.out.2 HK1.out.2)
  by_cases q5 : same k0 k1 = true
  · have HEq : Hid (gg = k0) := hid ((hE.trans (if_pos q5)).trans ((same_iff _ _).1 q5).symm)
    rw [q5] at C
    clear hE HE q1n q2 q3 q5
    go_wp2_with fail
    refine C.out.mono ?_
    rintro e w4 ⟨rfl, hb4⟩
    clear v0 v1 v2 s0 s1 s2 f0 f1 f2 r0 r1 r2 z0 z1 z2 hlt HB3 HT3 C
    obtain ⟨⟨v0, v1, v2⟩, -⟩ := tri_cells (HC.out.2.1.below hb4)
    obtain ⟨⟨s0, s1, s2⟩, -⟩ := tri_cells (HC.out.2.2.below hb4)
    have hbu4 := HC.out.1.trans (hb4.mono HC.out.1.size)
    obtain ⟨⟨f0, f1, f2⟩, -⟩ := tri_cells (HX.out.2.2.1.below hbu4)
    obtain ⟨⟨r0, r1, r2⟩, z0, z1, z2⟩ := tri_cells (HX.out.2.2.2.below hbu4)
    have hlt := (HX.out.2.2.2.below hbu4).lt
    have HB3 : Hid (Below w.heap.size w w4) := HX.out.2.1.trans (hbu4.mono HX.out.2.1.size)
    have HT3 := hid (HX.out.2.2.2.below hbu4)
    clear hb4 hbu4
    go_wp2
    (try simp only [Exit.inBlock, Exit.then])
    refine bodyPost_ret (results_cell_row rfl _ _ (w.heap.size + 1) 24 #[.int .i64 k0.kind, .int .i64 k0.num, .slice a0 k0.cnt c0] (0, 0) _ rfl (tri_set HT3.out _ _ _) Tryd.underlying24 rfl (by kernel_rfl)) rfl ?_
    rw [HEq.out]
    have hbf := below_tri (x := w.heap.size + 1) HB3.out (by omega) (.int .i64 k0.kind) (.int .i64 k0.num) (.slice a0 k0.cnt c0)
    exact ⟨a0, c0, rfl, HK0.out.1.below hbf, hbf⟩
  · have HEq : Hid (gg = f) := hid (hE.trans (if_neg q5))
    have q5' : same k0 k1 = false := by simpa using q5
    rw [q5'] at C
    clear hE HE q1n q2 q3 q5 q5'
    go_wp2_with fail
    refine C.out.mono ?_
    rintro e w4 ⟨rfl, hb4⟩
    clear v0 v1 v2 s0 s1 s2 f0 f1 f2 r0 r1 r2 z0 z1 z2 hlt HB3 HT3 C
    obtain ⟨⟨v0, v1, v2⟩, -⟩ := tri_cells (HC.out.2.1.below hb4)
    obtain ⟨⟨s0, s1, s2⟩, -⟩ := tri_cells (HC.out.2.2.below hb4)
    have hbu4 := HC.out.1.trans (hb4.mono HC.out.1.size)
    obtain ⟨⟨f0, f1, f2⟩, -⟩ := tri_cells (HX.out.2.2.1.below hbu4)
    obtain ⟨⟨r0, r1, r2⟩, z0, z1, z2⟩ := tri_cells (HX.out.2.2.2.below hbu4)
    have hlt := (HX.out.2.2.2.below hbu4).lt
    have HB3 : Hid (Below w.heap.size w w4) := HX.out.2.1.trans (hbu4.mono HX.out.2.1.size)
    have HT3 := hid (HX.out.2.2.2.below hbu4)
    clear hb4 hbu4
    go_wp2
    (try simp only [Exit.inBlock, Exit.then])
    refine bodyPost_ret (results_cell_row rfl _ _ (w.heap.size + 1) 24 #[.int .i64 f.kind, .int .i64 f.num, .slice (some ⟨b, o, none⟩) f.cnt cap] (0, 0) _ rfl (tri_set HT3.out _ _ _) Tryd.underlying24 rfl (by kernel_rfl)) rfl ?_
    rw [HEq.out]
    have hbf := below_tri (x := w.heap.size + 1) HB3.out (by omega) (.int .i64 f.kind) (.int .i64 f.num) (.slice (some ⟨b, o, none⟩) f.cnt cap)
    exact ⟨(some ⟨b, o, none⟩), cap, rfl, HKF.out.below hbf, hbf⟩


/-- slimPart of a right part. -/
theorem slimPart_any {f : Fml} (p : Nat → Bool) (hw : Wf f) (a : Option Addr) (cap : Nat) (w : World) (ho : opA 1 w) (h : Kq p w f a) :
    Calls Tryd.prog 43 #[.agg #[.int .i64 f.kind, .int .i64 f.num, .slice a f.cnt cap]] w fun e w' => Nq p w (slm f) e w' := by
  have hq := fit_cases hw.out.1
  by_cases k4 : f.kind = 4
  · exact sp4 p k4 a cap w h (fun q z hz hh => not50 q hw k4 a cap z (ho.below hz) hh)
  by_cases k5 : f.kind = 5
  · refine sp5 p k5 a cap w h (fun q z hz hh => ?_)
    rw [slm_and k5]
    exact pair51 q 2 1 (by omega) a cap z hh
  by_cases k6 : f.kind = 6
  · refine sp6 p k6 a cap w h (fun q z hz hh => ?_)
    rw [slm_or k6]
    exact pair51 q 1 2 (by omega) a cap z hh
  by_cases k8 : f.kind = 8
  · refine sp8 p k8 a cap w h (fun q z hz hh => ?_)
    rw [slm_until k8]
    exact way53 q 2 1 10 (by omega) hw (by omega) a cap z hh
  by_cases k9 : f.kind = 9
  · refine sp9 p k9 a cap w h (fun q z hz hh => ?_)
    rw [slm_release k9]
    exact way53 q 1 2 11 (by omega) hw (by omega) a cap z hh
  by_cases k7 : f.kind = 7 ∨ f.kind = 10 ∨ f.kind = 11
  · exact part_single p hw k7 a cap w h
  · exact spo p (by omega) a cap w h

/-- What slim answers of a formula. -/
def Sl (t : Fml) : Prop := ∀ (a : Option Addr) (cap : Nat) (w : World), opA 1 w → Kds w t a → Calls Tryd.prog 33 #[.agg #[.int .i64 t.kind, .int .i64 t.num, .slice a t.cnt cap]] w fun e w' => Nk w.heap.size w (sl t) e w'

set_option maxHeartbeats 2000000 in
theorem slim_any : ∀ t, Wf t → Sl t := by
  intro t
  induction t using Fml.ind with
  | h t ih =>
  intro hw a cap w ho hk
  have hI : ∀ i, i < t.cnt → Wf (sl (t.kid i)) := fun i hi => (sl_right _ (hw.out.2 i hi)).1
  have hf := fit_parts hw.out.1
  have hwm : Wf (mkn t.kind t.num t.cnt (fun i => sl (t.kid i))) := wf_mkn hf.1 hf.2 (fun h => wf_num hw h) (fun i hi => hI i hi)
  obtain ⟨u, hu⟩ : ∃ y, y = (w.alloc (.cells #[.int .i64 t.kind, .int .i64 t.num, .slice a t.cnt cap] 24)).alloc (.cells #[.int .i64 0, .int .i64 0, .slice none 0 0] 24) := ⟨_, rfl⟩
  obtain ⟨hs, hB, hT1, hT2⟩ := two_new w _ _ _ _ hu
  have HX : Hid (u.heap.size = w.heap.size + 1 + 1 ∧ Below w.heap.size w u ∧ Tri u (w.heap.size + 1) (.int .i64 0) (.int .i64 0) (.slice none 0 0)) := ⟨hs, hB, hT2⟩
  obtain ⟨bb, o, ha, hkid⟩ := hk.out
  have C : Hid (Calls Tryd.prog 41 #[.agg #[.int .i64 t.kind, .int .i64 t.num, .slice a t.cnt cap], .func (.func 33) #[] #[]] u fun e w' => Nk u.heap.size u (mkn t.kind t.num t.cnt (fun i => sl (t.kid i))) e w') := by
    refine withKids33 (b := bb) (o := o) (kid := t.kid) ha (wf_cnt hw) (fun i hi => ?_) (fun i hi => wf_big (hI i hi)) (fun i hi ai ci z hz hkz => ih i hi (hw.out.2 i hi) ai ci z ((ho.below hB).below hz) hkz)
    obtain ⟨ai, ci, e1, e2, e3, e4, e5⟩ := hkid i hi
    exact ⟨ai, ci, below_cell hB (Nat.le_refl _) e1, below_cell hB (Nat.le_refl _) e2, below_cell hB (Nat.le_refl _) e3, e4, e5.below hB⟩
  have C2 : Hid (∀ (z : World) (a3 : Option Addr) (c3 : Nat), Below u.heap.size u z → Kn u.heap.size z (mkn t.kind t.num t.cnt (fun i => sl (t.kid i))) a3 → Calls Tryd.prog 43 #[.agg #[.int .i64 (mkn t.kind t.num t.cnt (fun i => sl (t.kid i))).kind, .int .i64 (mkn t.kind t.num t.cnt (fun i => sl (t.kid i))).num, .slice a3 (mkn t.kind t.num t.cnt (fun i => sl (t.kid i))).cnt c3]] z fun e w' => Nq (fun k => decide (u.heap.size ≤ k)) z (sl t) e w') := fun z a3 c3 hz hkz => by
    rw [sl_eq]
    exact slimPart_any _ hwm a3 c3 z ((ho.below hB).below hz) hkz
  have HU := hid hu
  generalize mkn t.kind t.num t.cnt (fun i => sl (t.kid i)) = m at *
  generalize sl t = g at *
  clear hu hs hB hT1 hT2 ih hw hk ho ha hkid hI hf hwm
  go_enter Tryd.func33, Tryd.ntmps33
  go_wp2_with fail
  rw [← HU.out]
  refine C.out.mono ?_
  rintro e w3 ⟨a3, c3, rfl, hk3, hb3⟩
  have C3 := hid (C2.out w3 a3 c3 hb3 hk3)
  have HB2 := hid hb3
  clear hk3 hb3 C C2 HU
  go_wp2_with fail
  refine C3.out.mono ?_
  rintro e w4 ⟨a4, c4, rfl, hk4, hb4⟩
  have hb4u := HB2.out.trans (hb4.mono HB2.out.size)
  have hT4 := HX.out.2.2.below hb4u
  have hk4' : Kn u.heap.size w4 g a4 := kl_keep hk4 (fun k h1 _ => ⟨by
    have hsz := HB2.out.size
    simp only [nw, Bool.or_eq_true, decide_eq_true_eq] at h1 ⊢
    omega, rfl⟩)
  have H4 : Hid (Kn u.heap.size w4 g a4 ∧ Below w.heap.size w w4 ∧ Tri w4 (w.heap.size + 1) (.int .i64 0) (.int .i64 0) (.slice none 0 0)) := ⟨hk4', HX.out.2.1.trans (hb4u.mono HX.out.2.1.size), hT4⟩
  obtain ⟨⟨r0, r1, r2⟩, z0, z1, z2⟩ := tri_cells hT4
  have hlt := hT4.lt
  clear hk4 hb4 hb4u hT4 hk4' C3
  go_wp2
  (try simp only [Exit.inBlock, Exit.then])
  refine bodyPost_ret (results_cell_row rfl _ _ (w.heap.size + 1) 24 #[.int .i64 g.kind, .int .i64 g.num, .slice a4 g.cnt c4] (0, 0) _ rfl (tri_set H4.out.2.2 _ _ _) Tryd.underlying24 rfl (by kernel_rfl)) rfl ?_
  exact ⟨a4, c4, rfl, kn_tri H4.out.1 (by have := HX.out.1; omega) (by have := HX.out.1; omega) _ _ _, below_tri H4.out.2.1 (by omega) _ _ _⟩

end Go.Proofs.YtinacgkiigbmjaaDoor
