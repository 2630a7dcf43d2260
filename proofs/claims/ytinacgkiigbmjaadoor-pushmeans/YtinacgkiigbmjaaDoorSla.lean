/- The rules of push for single Kids: slimSingle, slimNot. -/
import Derived.Test.YtinacgkiigbmjaaDoorPln
import Derived.Test.YtinacgkiigbmjaaDoorPsh3
namespace Go.Proofs.YtinacgkiigbmjaaDoor
open Go.RowKit

theorem slm_single {f : Fml} (hk : f.kind = 7 ∨ f.kind = 10 ∨ f.kind = 11) : slm f = if fxd (f.kid 0).kind = true ∨ ((f.kid 0).kind = f.kind ∧ f.kind ≠ 7) then f.kid 0 else f := by
  unfold slm fxd
  rcases hk with hk | hk | hk
  · rw [hk]; simp
  · rw [hk]; simp [or_assoc]
  · rw [hk]; simp [or_assoc]
theorem slm_not {f : Fml} (hk : f.kind = 4) : slm f = if fxd (f.kid 0).kind = true then nd (opp (f.kid 0).kind) 0 else if (f.kid 0).kind = 4 then (f.kid 0).kid 0 else f := by
  unfold slm fxd
  rw [hk]
  by_cases h1 : (f.kid 0).kind = 1
  · simp [h1, opp]
  · by_cases h2 : (f.kid 0).kind = 2
    · simp [h2, opp]
    · simp [h1, h2]

/-- The formula's Kids lie in the blocks that p names. -/
def Kq (p : Nat → Bool) (w : World) (t : Fml) (a : Option Addr) : Prop := Kds (lim p w) t a
/-- .. or in new ones. -/
def nw (p : Nat → Bool) (w : World) (k : Nat) : Bool := p k || decide (w.heap.size ≤ k)
/-- A formula is answered, in the blocks that p names or in new ones; old memory stays. -/
def Nq (p : Nat → Bool) (w : World) (t : Fml) (e : Ending) (w' : World) : Prop := ∃ (a : Option Addr) (cap : Nat), e = .returned (.agg #[.int .i64 t.kind, .int .i64 t.num, .slice a t.cnt cap]) ∧ Kq (nw p w) w' t a ∧ Below w.heap.size w w'

theorem Kq.below {p : Nat → Bool} {w w' : World} {t : Fml} {a : Option Addr} (h : Kq p w t a) (hb : Below w.heap.size w w') : Kq (nw p w) w' t a := kl_keep h (fun k h1 h2 => ⟨by simp [nw, h1], hb.block k h2⟩)
theorem Kq.stay {p : Nat → Bool} {w w' : World} {t : Fml} {a : Option Addr} (h : Kq p w t a) (hb : Below w.heap.size w w') : Kq p w' t a := kl_keep h (fun k h1 h2 => ⟨h1, hb.block k h2⟩)
theorem Kq.out {p : Nat → Bool} {w : World} {t : Fml} {a : Option Addr} (h : Kq p w t a) : Kds w t a := kl_out h
theorem Kq.nd {p : Nat → Bool} {w : World} (k n : Int) (a : Option Addr) : Kq p w (nd k n) a := kds_nd _ _ _ _
theorem Kq.cut {p : Nat → Bool} {w : World} {t : Fml} {a : Option Addr} (h : Kq p w t a) : Kq (fun k => p k && decide (k < w.heap.size)) w t a := kl_keep h (fun k h1 h2 => ⟨by simp [h1, h2], rfl⟩)

theorem kid_cells {p : Nat → Bool} {w : World} {f : Fml} {a : Option Addr} (h : Kq p w f a) {i : Nat} (hi : i < f.cnt) : ∃ b o ai ci, a = some ⟨b, o, none⟩ ∧ w.cell? ⟨b, o + i * 3, none⟩ = some (.int .i64 (f.kid i).kind) ∧ w.cell? ⟨b, o + i * 3 + 1, none⟩ = some (.int .i64 (f.kid i).num) ∧ w.cell? ⟨b, o + i * 3 + 2, none⟩ = some (.slice ai (f.kid i).cnt ci) ∧ (f.kid i).cnt ≤ 9223372036854775807 ∧ Kq p w (f.kid i) ai := by
  obtain ⟨b, o, h1, h2⟩ := Kds.out h
  obtain ⟨ai, ci, e1, e2, e3, e4, e5⟩ := h2 i hi
  exact ⟨b, o, ai, ci, h1 (by omega), (lim_out e1).2, (lim_out e2).2, (lim_out e3).2, e4, e5⟩

set_option maxHeartbeats 4000000 in
theorem single52 {f : Fml} (p : Nat → Bool) (hw : Wf f) (hk : f.kind = 7 ∨ f.kind = 10 ∨ f.kind = 11) (a : Option Addr) (cap : Nat) (w : World) (h : Kq p w f a) :
    Calls Tryd.prog 52 #[.agg #[.int .i64 f.kind, .int .i64 f.num, .slice a f.cnt cap]] w fun e w' => Nq p w (slm f) e w' := by
  have hq := fit_cases hw.out.1
  have hc : f.cnt = 1 := by omega
  obtain ⟨b, o, ai, ci, rfl, e1, e2, e3, e4, e5⟩ := kid_cells h (i := 0) (by omega)
  simp only [Nat.zero_mul, Nat.add_zero] at e1 e2 e3
  have hE := slm_single hk
  obtain ⟨kk, hkk⟩ : ∃ y, y = f.kid 0 := ⟨_, rfl⟩
  rw [← hkk] at e1 e2 e3 e4 e5 hE
  obtain ⟨u, hu⟩ : ∃ y, y = ((w.alloc (.cells #[.int .i64 f.kind, .int .i64 f.num, .slice (some ⟨b, o, none⟩) f.cnt cap] 24)).alloc (.cells #[.int .i64 0, .int .i64 0, .slice none 0 0] 24)).alloc (.cells #[.int .i64 kk.kind, .int .i64 kk.num, .slice ai kk.cnt ci] 24) := ⟨_, rfl⟩
  obtain ⟨hs, hBu, hT1, hT2, hT3⟩ := three_new w _ _ _ _ _ _ hu
  have C := hid (fixed63 kk.kind kk.num ai kk.cnt ci u)
  have HU := hid hu
  have HX : Hid (Below w.heap.size w u ∧ Tri u w.heap.size (.int .i64 f.kind) (.int .i64 f.num) (.slice (some ⟨b, o, none⟩) f.cnt cap) ∧ Tri u (w.heap.size + 1) (.int .i64 0) (.int .i64 0) (.slice none 0 0) ∧ Tri u (w.heap.size + 1 + 1) (.int .i64 kk.kind) (.int .i64 kk.num) (.slice ai kk.cnt ci)) := ⟨hBu, hT1, hT2, hT3⟩
  have HKF := hid h
  have HKK := hid e5
  have hbw : b < w.heap.size := World.block_lt_of_cell? _ _ e1
  have hcz : (0 : Int) < f.cnt := by omega
  have hcn : 0 < f.cnt := by omega
  clear hu hs hBu hT1 hT2 hT3 hw hk hq h e4 e5 hkk hc
  by_cases q1 : fxd kk.kind = true
  · rw [if_pos (Or.inl q1)] at hE
    rw [hE]
    rw [q1] at C
    clear hE q1
    go_enter Tryd.func52, Tryd.ntmps52
    go_wp2_with fail
    rw [← HU.out]
    refine C.out.mono ?_
    rintro e w3 ⟨rfl, hb3⟩
    obtain ⟨⟨v0, v1, v2⟩, -⟩ := tri_cells (HX.out.2.1.below hb3)
    obtain ⟨⟨r0, r1, r2⟩, z0, z1, z2⟩ := tri_cells (HX.out.2.2.1.below hb3)
    obtain ⟨⟨k0, k1, k2⟩, -⟩ := tri_cells (HX.out.2.2.2.below hb3)
    have HB3 : Hid (Below w.heap.size w w3) := HX.out.1.trans (hb3.mono HX.out.1.size)
    have HT3 := hid (HX.out.2.2.1.below hb3)
    have hlt := (HX.out.2.2.1.below hb3).lt
    clear hb3 C
    go_wp2
    (try simp only [Exit.inBlock, Exit.then])
    refine bodyPost_ret (results_cell_row rfl _ _ (w.heap.size + 1) 24 #[.int .i64 kk.kind, .int .i64 kk.num, .slice ai kk.cnt ci] (0, 0) _ rfl (tri_set HT3.out _ _ _) Tryd.underlying24 rfl (by kernel_rfl)) rfl ?_
    have hbf := below_tri (x := w.heap.size + 1) HB3.out (by omega) (.int .i64 kk.kind) (.int .i64 kk.num) (.slice ai kk.cnt ci)
    exact ⟨ai, ci, rfl, HKK.out.below hbf, hbf⟩
  have q1' : fxd kk.kind = false := by simpa using q1
  rw [q1'] at C
  by_cases q2 : kk.kind = f.kind
  · have q2b : (kk.kind == f.kind) = true := beq_iff_eq.2 q2
    by_cases q3 : f.kind = 7
    · have q3b : (f.kind != 7) = false := by rw [q3]; rfl
      rw [if_neg (by rintro (h1 | h1); exact q1 h1; exact h1.2 q3)] at hE
      rw [hE]
      clear hE q1 q1' q2 q3
      go_enter Tryd.func52, Tryd.ntmps52
      go_wp2_with fail
      rw [← HU.out]
      refine C.out.mono ?_
      rintro e w3 ⟨rfl, hb3⟩
      obtain ⟨⟨v0, v1, v2⟩, -⟩ := tri_cells (HX.out.2.1.below hb3)
      obtain ⟨⟨r0, r1, r2⟩, z0, z1, z2⟩ := tri_cells (HX.out.2.2.1.below hb3)
      obtain ⟨⟨k0, k1, k2⟩, -⟩ := tri_cells (HX.out.2.2.2.below hb3)
      have HB3 : Hid (Below w.heap.size w w3) := HX.out.1.trans (hb3.mono HX.out.1.size)
      have HT3 := hid (HX.out.2.2.1.below hb3)
      have hlt := (HX.out.2.2.1.below hb3).lt
      clear hb3 C
      go_wp2
      (try simp only [Exit.inBlock, Exit.then])
      refine bodyPost_ret (results_cell_row rfl _ _ (w.heap.size + 1) 24 #[.int .i64 f.kind, .int .i64 f.num, .slice (some ⟨b, o, none⟩) f.cnt cap] (0, 0) _ rfl (tri_set HT3.out _ _ _) Tryd.underlying24 rfl (by kernel_rfl)) rfl ?_
      have hbf := below_tri (x := w.heap.size + 1) HB3.out (by omega) (.int .i64 f.kind) (.int .i64 f.num) (.slice (some ⟨b, o, none⟩) f.cnt cap)
      exact ⟨(some ⟨b, o, none⟩), cap, rfl, HKF.out.below hbf, hbf⟩
    · have q3b : (f.kind != 7) = true := by simpa using q3
      rw [if_pos (Or.inr ⟨q2, q3⟩)] at hE
      rw [hE]
      clear hE q1 q1' q2 q3
      go_enter Tryd.func52, Tryd.ntmps52
      go_wp2_with fail
      rw [← HU.out]
      refine C.out.mono ?_
      rintro e w3 ⟨rfl, hb3⟩
      obtain ⟨⟨v0, v1, v2⟩, -⟩ := tri_cells (HX.out.2.1.below hb3)
      obtain ⟨⟨r0, r1, r2⟩, z0, z1, z2⟩ := tri_cells (HX.out.2.2.1.below hb3)
      obtain ⟨⟨k0, k1, k2⟩, -⟩ := tri_cells (HX.out.2.2.2.below hb3)
      have HB3 : Hid (Below w.heap.size w w3) := HX.out.1.trans (hb3.mono HX.out.1.size)
      have HT3 := hid (HX.out.2.2.1.below hb3)
      have hlt := (HX.out.2.2.1.below hb3).lt
      clear hb3 C
      go_wp2
      (try simp only [Exit.inBlock, Exit.then])
      refine bodyPost_ret (results_cell_row rfl _ _ (w.heap.size + 1) 24 #[.int .i64 kk.kind, .int .i64 kk.num, .slice ai kk.cnt ci] (0, 0) _ rfl (tri_set HT3.out _ _ _) Tryd.underlying24 rfl (by kernel_rfl)) rfl ?_
      have hbf := below_tri (x := w.heap.size + 1) HB3.out (by omega) (.int .i64 kk.kind) (.int .i64 kk.num) (.slice ai kk.cnt ci)
      exact ⟨ai, ci, rfl, HKK.out.below hbf, hbf⟩
  · have q2b : (kk.kind == f.kind) = false := beq_eq_false_iff_ne.2 q2
    rw [if_neg (by rintro (h1 | h1); exact q1 h1; exact q2 h1.1)] at hE
    rw [hE]
    clear hE q1 q1' q2
    go_enter Tryd.func52, Tryd.ntmps52
    go_wp2_with fail
    rw [← HU.out]
    refine C.out.mono ?_
    rintro e w3 ⟨rfl, hb3⟩
    obtain ⟨⟨v0, v1, v2⟩, -⟩ := tri_cells (HX.out.2.1.below hb3)
    obtain ⟨⟨r0, r1, r2⟩, z0, z1, z2⟩ := tri_cells (HX.out.2.2.1.below hb3)
    obtain ⟨⟨k0, k1, k2⟩, -⟩ := tri_cells (HX.out.2.2.2.below hb3)
    have HB3 : Hid (Below w.heap.size w w3) := HX.out.1.trans (hb3.mono HX.out.1.size)
    have HT3 := hid (HX.out.2.2.1.below hb3)
    have hlt := (HX.out.2.2.1.below hb3).lt
    clear hb3 C
    go_wp2
    (try simp only [Exit.inBlock, Exit.then])
    refine bodyPost_ret (results_cell_row rfl _ _ (w.heap.size + 1) 24 #[.int .i64 f.kind, .int .i64 f.num, .slice (some ⟨b, o, none⟩) f.cnt cap] (0, 0) _ rfl (tri_set HT3.out _ _ _) Tryd.underlying24 rfl (by kernel_rfl)) rfl ?_
    have hbf := below_tri (x := w.heap.size + 1) HB3.out (by omega) (.int .i64 f.kind) (.int .i64 f.num) (.slice (some ⟨b, o, none⟩) f.cnt cap)
    exact ⟨(some ⟨b, o, none⟩), cap, rfl, HKF.out.below hbf, hbf⟩

set_option maxHeartbeats 4000000 in
set_option maxRecDepth 100000 in
theorem not50 {f : Fml} (p : Nat → Bool) (hw : Wf f) (hk : f.kind = 4) (a : Option Addr) (cap : Nat) (w : World) (ho : opA 1 w) (h : Kq p w f a) :
    Calls Tryd.prog 50 #[.agg #[.int .i64 f.kind, .int .i64 f.num, .slice a f.cnt cap]] w fun e w' => Nq p w (slm f) e w' := by
  have hq := fit_cases hw.out.1
  have hc : f.cnt = 1 := by omega
  obtain ⟨b, o, ai, ci, rfl, e1, e2, e3, e4, e5⟩ := kid_cells h (i := 0) (by omega)
  simp only [Nat.zero_mul, Nat.add_zero] at e1 e2 e3
  have hE := slm_not hk
  have hwk := hw.out.2 0 (by omega)
  have hq2 := fit_cases hwk.out.1
  obtain ⟨kk, hkk⟩ : ∃ y, y = f.kid 0 := ⟨_, rfl⟩
  rw [← hkk] at e1 e2 e3 e4 e5 hE hq2
  obtain ⟨u, hu⟩ : ∃ y, y = ((w.alloc (.cells #[.int .i64 f.kind, .int .i64 f.num, .slice (some ⟨b, o, none⟩) f.cnt cap] 24)).alloc (.cells #[.int .i64 0, .int .i64 0, .slice none 0 0] 24)).alloc (.cells #[.int .i64 kk.kind, .int .i64 kk.num, .slice ai kk.cnt ci] 24) := ⟨_, rfl⟩
  obtain ⟨hs, hBu, hT1, hT2, hT3⟩ := three_new w _ _ _ _ _ _ hu
  have HU := hid hu
  have HX : Hid (Below w.heap.size w u ∧ Tri u w.heap.size (.int .i64 f.kind) (.int .i64 f.num) (.slice (some ⟨b, o, none⟩) f.cnt cap) ∧ Tri u (w.heap.size + 1) (.int .i64 0) (.int .i64 0) (.slice none 0 0) ∧ Tri u (w.heap.size + 1 + 1) (.int .i64 kk.kind) (.int .i64 kk.num) (.slice ai kk.cnt ci)) := ⟨hBu, hT1, hT2, hT3⟩
  have HKF := hid h
  have HKK := hid e5
  have hbw : b < w.heap.size := World.block_lt_of_cell? _ _ e1
  have hcz : (0 : Int) < f.cnt := by omega
  have hcn : 0 < f.cnt := by omega
  have hg1 : 1 < w.heap.size := ho.lt
  have hg0 : 0 < w.heap.size := by omega
  have hgn : ¬ w.heap.size = 0 := by omega
  have HO := hid ho
  clear hu hs hBu hT1 hT2 hT3 hw hk hq h e4 e5 hkk hc ho hwk
  by_cases q1 : fxd kk.kind = true
  · rw [if_pos q1] at hE
    rw [hE]
    have hkz : kk.kind = 1 ∨ kk.kind = 2 := of_decide_eq_true q1
    obtain ⟨kq, hkq⟩ : ∃ q : Nat, kk.kind = q := ⟨kk.kind.toNat, by omega⟩
    have hqc := HO.out kq (by omega) (by omega)
    have hq12 : (kq : Int) < 12 := by omega
    have hq0 : (0 : Int) ≤ kq := by omega
    rw [← hkq] at hqc
    have C := hid (part_g (opp kk.kind) none 0 0 u)
    generalize opp kk.kind = oq at *
    clear hE q1 HO
    rcases hkz with hkz | hkz
    all_goals
      rw [hkz] at hkq e1 HU HX
      obtain rfl : kq = _ := by
        have := hkq.symm
        exact Int.ofNat.inj this
      clear hkz hkq hq2
      go_enter Tryd.func50, Tryd.ntmps50
      go_wp2_with fail
      rw [← HU.out]
      refine C.out.mono ?_
      rintro e w3 ⟨rfl, hb3⟩
      obtain ⟨⟨r0, r1, r2⟩, z0, z1, z2⟩ := tri_cells (HX.out.2.2.1.below hb3)
      have HB3 : Hid (Below w.heap.size w w3) := HX.out.1.trans (hb3.mono HX.out.1.size)
      have HT3 := hid (HX.out.2.2.1.below hb3)
      have hlt := (HX.out.2.2.1.below hb3).lt
      clear hb3 C
      go_wp2
      (try simp only [Exit.inBlock, Exit.then])
      refine bodyPost_ret (results_cell_row rfl _ _ (w.heap.size + 1) 24 #[.int .i64 oq, .int .i64 0, .slice none 0 0] (0, 0) _ rfl (tri_set HT3.out _ _ _) Tryd.underlying24 rfl (by kernel_rfl)) rfl ?_
      have hbf := below_tri (x := w.heap.size + 1) HB3.out (by omega) (.int .i64 oq) (.int .i64 0) (.slice none 0 0)
      exact ⟨none, 0, rfl, Kq.nd _ _ _, hbf⟩

  have q1' : ¬ (kk.kind = 1 ∨ kk.kind = 2) := fun hh => q1 (decide_eq_true hh)
  have k1b : (kk.kind == 1) = false := beq_eq_false_iff_ne.2 (fun hh => q1' (Or.inl hh))
  have k2b : (kk.kind == 2) = false := beq_eq_false_iff_ne.2 (fun hh => q1' (Or.inr hh))
  rw [if_neg q1] at hE
  by_cases q2 : kk.kind = 4
  · rw [if_pos q2] at hE
    rw [hE]
    have hck : kk.cnt = 1 := by omega
    obtain ⟨b2, o2, ai2, ci2, rfl, g1, g2, g3, g4, g5⟩ := kid_cells HKK.out (i := 0) (by omega)
    simp only [Nat.zero_mul, Nat.add_zero] at g1 g2 g3
    have hbw2 : b2 < w.heap.size := World.block_lt_of_cell? _ _ g1
    have x1 := below_cell HX.out.1 (Nat.le_refl _) g1
    have x2 := below_cell HX.out.1 (Nat.le_refl _) g2
    have x3 := below_cell HX.out.1 (Nat.le_refl _) g3
    rw [HU.out] at x1 x2 x3
    have hkz : (0 : Int) < kk.cnt := by omega
    have hkn : 0 < kk.cnt := by omega
    have k4b : (kk.kind == 4) = true := beq_iff_eq.2 q2
    have HK2 := hid g5
    generalize kk.kid 0 = k2 at *
    clear hE q1 q1' q2 HO hck hq2 g4 g5
    go_enter Tryd.func50, Tryd.ntmps50
    go_wp2
    (try simp only [Exit.inBlock, Exit.then])
    obtain ⟨v, hv⟩ : ∃ y, y = ((w.alloc (.cells #[.int .i64 f.kind, .int .i64 f.num, .slice (some ⟨b, o, none⟩) f.cnt cap] 24)).alloc (.cells #[.int .i64 k2.kind, .int .i64 k2.num, .slice ai2 k2.cnt ci2] 24)).alloc (.cells #[.int .i64 kk.kind, .int .i64 kk.num, .slice (some ⟨b2, o2, none⟩) kk.cnt ci] 24) := ⟨_, rfl⟩
    obtain ⟨-, hBv, -, hTv, -⟩ := three_new w _ _ _ _ _ _ hv
    rw [← hv]
    refine bodyPost_ret (results_cell_row rfl _ _ (w.heap.size + 1) 24 #[.int .i64 k2.kind, .int .i64 k2.num, .slice ai2 k2.cnt ci2] (0, 0) _ rfl hTv Tryd.underlying24 rfl (by kernel_rfl)) rfl ?_
    exact ⟨ai2, ci2, rfl, HK2.out.below hBv, hBv⟩
  · rw [if_neg q2] at hE
    rw [hE]
    have k4b : (kk.kind == 4) = false := beq_eq_false_iff_ne.2 q2
    clear hE q1 q1' q2 HO hq2
    go_enter Tryd.func50, Tryd.ntmps50
    go_wp2
    (try simp only [Exit.inBlock, Exit.then])
    obtain ⟨v, hv⟩ : ∃ y, y = ((w.alloc (.cells #[.int .i64 f.kind, .int .i64 f.num, .slice (some ⟨b, o, none⟩) f.cnt cap] 24)).alloc (.cells #[.int .i64 f.kind, .int .i64 f.num, .slice (some ⟨b, o, none⟩) f.cnt cap] 24)).alloc (.cells #[.int .i64 kk.kind, .int .i64 kk.num, .slice ai kk.cnt ci] 24) := ⟨_, rfl⟩
    obtain ⟨-, hBv, -, hTv, -⟩ := three_new w _ _ _ _ _ _ hv
    rw [← hv]
    refine bodyPost_ret (results_cell_row rfl _ _ (w.heap.size + 1) 24 #[.int .i64 f.kind, .int .i64 f.num, .slice (some ⟨b, o, none⟩) f.cnt cap] (0, 0) _ rfl hTv Tryd.underlying24 rfl (by kernel_rfl)) rfl ?_
    exact ⟨(some ⟨b, o, none⟩), cap, rfl, HKF.out.below hBv, hBv⟩

end Go.Proofs.YtinacgkiigbmjaaDoor
