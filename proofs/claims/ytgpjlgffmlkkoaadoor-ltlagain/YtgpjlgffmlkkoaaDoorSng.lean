/- single. -/
import Derived.Test.YtgpjlgffmlkkoaaDoorSgn
import Derived.Deep.RegionWith
namespace Go.Proofs.YtgpjlgffmlkkoaaDoor
open Go.RowKit

/-- An answer handed on: what was answered is laid into the result's own cell. -/
theorem Sp.Ans.lay {z : Sp} (hz : z.Ok) {w u w3 : World} {k o : Nat} {r : Rs} {e : Ending} (hA : z.At w k o) (hu : But z.b w u) (hs : w.heap.size < u.heap.size) (h : z.Ans u o r e w3) :
    ∃ x y a n cap v, e = .returned (.tuple #[.agg #[.int .i64 x, .int .i64 y, .slice a n cap], v]) ∧
      z.Ans w o r e (((w3.setCell ⟨w.heap.size, 0, none⟩ (.int .i64 x)).setCell ⟨w.heap.size, 1, none⟩ (.int .i64 y)).setCell ⟨w.heap.size, 2, none⟩ (.slice a n cap)) := by
  obtain ⟨hb, h2⟩ := h
  cases r with
  | ok q =>
    obtain ⟨t, s⟩ := q
    obtain ⟨a, cap, k', he, h4, h5, h6, h7⟩ := h2
    exact ⟨t.kind, t.num, a, t.cnt, cap, .nilIface, he, by rw [he]; exact fin_ok hz hA (hu.trans hb) h6 h4 hs h5 h7⟩
  | error q =>
    obtain ⟨c, m⟩ := q
    obtain ⟨x, y, a, n, cap, k', he, h4, h5, h6⟩ := h2
    exact ⟨x, y, a, n, cap, _, he, by rw [he]; exact fin_err hz hA (hu.trans hb) h5 h4 h6⟩

theorem lft_drop (S : ByteArray) (k n : Nat) : (lft S k).drop n = lft S (k + n) := by
  unfold lft
  rw [List.drop_drop]

theorem lv_deep {z : Sp} {k : Nat} {c : UInt8} {r : List UInt8} (h : lft z.S k = c :: r) : r.length + 1 = z.S.size - k := by
  have := lft_len z.S k
  rw [h] at this
  simpa using this

set_option maxHeartbeats 8000000 in
theorem single_any {z : Sp} (hz : z.Ok) (k : Nat) (IHf : ∀ k', k < k' → k' ≤ z.S.size → LvC z 35 0 k') (IHs : ∀ k', k < k' → k' ≤ z.S.size → LvC z 74 4 k') : LvC z 74 4 k := by
  intro o ho w h
  have HZ := hid hz
  have HA := hid h
  have hlt := h.1.lt
  have hne : w.heap.size ≠ z.b := by omega
  have HIf := hid IHf
  have HIs := hid IHs
  obtain ⟨u, hu⟩ : ∃ y, y = w.alloc (.cells #[.int .i64 0, .int .i64 0, .slice none 0 0] 24) := ⟨_, rfl⟩
  have hus : u.heap.size = w.heap.size + 1 := by rw [hu]; simp
  have hBu : But z.b w u := by rw [hu]; exact (But.refl _ _).alloc _
  have hTu : Tri u w.heap.size (.int .i64 0) (.int .i64 0) (.slice none 0 0) := by rw [hu]; exact tri_new _ _ _ _
  have hAu : z.At u k o := by rw [hu]; exact h.alloc _
  have HU : Hid (Tri u w.heap.size (.int .i64 0) (.int .i64 0) (.slice none 0 0) ∧ But z.b w u ∧ u.heap.size = w.heap.size + 1 ∧ z.At u k o) := ⟨hTu, hBu, hus, hAu⟩
  have c2 := h.1.c2
  have HE := hid hu
  have HN : Hid (∀ (c : UInt8) v, z.At v k o → (∀ r, lft z.S k ≠ c :: r) → Calls Tryd.prog 48 #[.pointer (some ⟨z.b, 0, none⟩), .string (byt [c])] v fun e w' => e = .returned (.bool false) ∧ But z.b v w' ∧ z.At w' k o) := fun c v hv hn => take_no hz c hv hn
  have HY : Hid (∀ (c : UInt8) r v, z.At v k o → lft z.S k = c :: r → Calls Tryd.prog 48 #[.pointer (some ⟨z.b, 0, none⟩), .string (byt [c])] v fun e w' => e = .returned (.bool true) ∧ But z.b v w' ∧ ∃ k2, z.At w' k2 o ∧ lft z.S k2 = skp r ∧ k < k2) := fun c r v hv hy => take_yes hz c hv hy
  have hk := h.2.2
  clear hu hus hBu hTu h hz hAu IHf IHs
  by_cases h40 : ∃ r, lft z.S k = 40 :: r
  · obtain ⟨r, hy⟩ := h40
    have hnot : ∀ d : UInt8, d ≠ 40 → ∀ r, lft z.S k ≠ d :: r := fun d hd r' hh => by rw [hy] at hh; exact hd (List.cons.inj hh).1.symm
    have hlen := lv_deep hy
    go_enter Tryd.func74, Tryd.ntmps74
    go_wp2_with fail
    rw [← HE.out]
    refine (HY.out 40 r u HU.out.2.2.2 hy).mono ?_
    rintro e w2 ⟨rfl, hb2, k2, hA2, hl2, hk2⟩
    have H2 : Hid (But z.b u w2 ∧ z.At w2 k2 o ∧ lft z.S k2 = skp r ∧ k < k2) := ⟨hb2, hA2, hl2, hk2⟩
    have hT2 := HU.out.1.but H2.out.1 hne
    clear hb2 hA2 hl2 hk2
    have CC := hid (within78 HZ.out (X := fun q => ClIs z.N z.M (lft z.S k2) (o + 1) q) k2 o k w2 H2.out.2.1 hk (fun h20 v hv => closed_any HZ.out k2 (o + 1) v hv (HIf.out k2 H2.out.2.2.2 H2.out.2.1.2.2 (o + 1) (by omega))) ho)
    go_wp2_with fail
    refine CC.out.mono ?_
    rintro e w3 hans0
    obtain ⟨q, hX, hAns⟩ : ∃ q, Ev z.N z.M 4 .leaf (lft z.S k) o q ∧ z.Ans w2 o q e w3 := by
      by_cases h20 : o = 20
      · refine ⟨_, ?_, hans0.1 h20⟩
        rw [hy, ← hlen]
        exact ev4_deep h20 (Or.inl rfl)
      · obtain ⟨q, h1, h2⟩ := hans0.2 h20
        refine ⟨q, ?_, h2⟩
        rw [H2.out.2.2.1] at h1
        rw [hy]
        rcases h1 with ⟨e, h3, rfl⟩ | ⟨a, s2, h3, rfl⟩ | ⟨a, s1, h3, h4, rfl⟩
        · exact ev4_par_err h20 h3
        · exact ev4_par h20 h3
        · exact ev4_par_wrong h20 h3 h4
    have HX := hid hX
    clear CC hans0 hX
    obtain ⟨x, y, a, n, cap, v, rfl, hfin⟩ := Sp.Ans.lay HZ.out HA.out (HU.out.2.1.trans H2.out.1) (by have := HU.out.2.2.1; have := H2.out.1.size; omega) hAns
    have hT3 := hT2.but hAns.1 hne
    obtain ⟨⟨d0, d1, d2⟩, f0, f1, f2⟩ := tri_cells hT3
    have HT3 := hid hT3
    have HF := hid hfin
    clear hT3 hfin hAns hT2
    go_wp2
    (try simp only [Exit.inBlock, Exit.then])
    refine bodyPost_ret (results_cell_tmp1 rfl _ _ w.heap.size 24 #[.int .i64 x, .int .i64 y, .slice a n cap] (0, 0) _ rfl (tri_set HT3.out _ _ _) Tryd.underlying24 rfl (by kernel_rfl)) rfl ?_
    exact ⟨_, HX.out, HF.out⟩
  by_cases h33 : ∃ r, lft z.S k = 33 :: r
  · obtain ⟨r, hy⟩ := h33
    have hnot : ∀ d : UInt8, d ≠ 33 → ∀ r, lft z.S k ≠ d :: r := fun d hd r' hh => by rw [hy] at hh; exact hd (List.cons.inj hh).1.symm
    have hlen := lv_deep hy
    go_enter Tryd.func74, Tryd.ntmps74
    go_wp2_with fail
    rw [← HE.out]
    refine (HN.out 40 u HU.out.2.2.2 (hnot 40 (by decide))).mono ?_
    rintro e v0 ⟨rfl, hb0, ha0⟩
    have Hv0 : Hid (But z.b u v0 ∧ z.At v0 k o) := ⟨hb0, ha0⟩
    clear hb0 ha0
    go_wp2_with fail
    refine (HY.out 33 r v0 Hv0.out.2 hy).mono ?_
    rintro e w2 ⟨rfl, hb2, k2, hA2, hl2, hk2⟩
    have H2 : Hid (But z.b u w2 ∧ z.At w2 k2 o ∧ lft z.S k2 = skp r ∧ k < k2) := ⟨Hv0.out.1.trans hb2, hA2, hl2, hk2⟩
    have hT2 := HU.out.1.but H2.out.1 hne
    clear hb2 hA2 hl2 hk2
    have CC := hid (signed_any HZ.out k2 o k 4 w2 H2.out.2.1 hk ho (HIs.out k2 H2.out.2.2.2 H2.out.2.1.2.2))
    go_wp2_with fail
    refine CC.out.mono ?_
    rintro e w3 hans0
    obtain ⟨q, hX, hAns⟩ : ∃ q, Ev z.N z.M 4 .leaf (lft z.S k) o q ∧ z.Ans w2 o q e w3 := by
      by_cases h20 : o = 20
      · refine ⟨_, ?_, hans0.1 h20⟩
        rw [hy, ← hlen]
        exact ev4_deep h20 (Or.inr ⟨4, rfl⟩)
      · obtain ⟨q, h1, h2⟩ := hans0.2 h20
        refine ⟨q, ?_, h2⟩
        rw [H2.out.2.2.1] at h1
        rw [hy]
        rcases h1 with ⟨e, h3, rfl⟩ | ⟨t, s, h3, rfl⟩
        · exact ev4_sgn_err (k := 4) rfl h20 h3
        · exact ev4_sgn (k := 4) rfl h20 h3
    have HX := hid hX
    clear CC hans0 hX
    obtain ⟨x, y, a, n, cap, v, rfl, hfin⟩ := Sp.Ans.lay HZ.out HA.out (HU.out.2.1.trans H2.out.1) (by have := HU.out.2.2.1; have := H2.out.1.size; omega) hAns
    have hT3 := hT2.but hAns.1 hne
    obtain ⟨⟨d0, d1, d2⟩, f0, f1, f2⟩ := tri_cells hT3
    have HT3 := hid hT3
    have HF := hid hfin
    clear hT3 hfin hAns hT2
    go_wp2
    (try simp only [Exit.inBlock, Exit.then])
    refine bodyPost_ret (results_cell_tmp1 rfl _ _ w.heap.size 24 #[.int .i64 x, .int .i64 y, .slice a n cap] (0, 0) _ rfl (tri_set HT3.out _ _ _) Tryd.underlying24 rfl (by kernel_rfl)) rfl ?_
    exact ⟨_, HX.out, HF.out⟩
  by_cases h88 : ∃ r, lft z.S k = 88 :: r
  · obtain ⟨r, hy⟩ := h88
    have hnot : ∀ d : UInt8, d ≠ 88 → ∀ r, lft z.S k ≠ d :: r := fun d hd r' hh => by rw [hy] at hh; exact hd (List.cons.inj hh).1.symm
    have hlen := lv_deep hy
    go_enter Tryd.func74, Tryd.ntmps74
    go_wp2_with fail
    rw [← HE.out]
    refine (HN.out 40 u HU.out.2.2.2 (hnot 40 (by decide))).mono ?_
    rintro e v0 ⟨rfl, hb0, ha0⟩
    have Hv0 : Hid (But z.b u v0 ∧ z.At v0 k o) := ⟨hb0, ha0⟩
    clear hb0 ha0
    go_wp2_with fail
    refine (HN.out 33 v0 Hv0.out.2 (hnot 33 (by decide))).mono ?_
    rintro e v1 ⟨rfl, hb1, ha1⟩
    have Hv1 : Hid (But z.b u v1 ∧ z.At v1 k o) := ⟨Hv0.out.1.trans hb1, ha1⟩
    clear hb1 ha1
    go_wp2_with fail
    refine (HY.out 88 r v1 Hv1.out.2 hy).mono ?_
    rintro e w2 ⟨rfl, hb2, k2, hA2, hl2, hk2⟩
    have H2 : Hid (But z.b u w2 ∧ z.At w2 k2 o ∧ lft z.S k2 = skp r ∧ k < k2) := ⟨Hv1.out.1.trans hb2, hA2, hl2, hk2⟩
    have hT2 := HU.out.1.but H2.out.1 hne
    clear hb2 hA2 hl2 hk2
    have CC := hid (signed_any HZ.out k2 o k 7 w2 H2.out.2.1 hk ho (HIs.out k2 H2.out.2.2.2 H2.out.2.1.2.2))
    go_wp2_with fail
    refine CC.out.mono ?_
    rintro e w3 hans0
    obtain ⟨q, hX, hAns⟩ : ∃ q, Ev z.N z.M 4 .leaf (lft z.S k) o q ∧ z.Ans w2 o q e w3 := by
      by_cases h20 : o = 20
      · refine ⟨_, ?_, hans0.1 h20⟩
        rw [hy, ← hlen]
        exact ev4_deep h20 (Or.inr ⟨7, rfl⟩)
      · obtain ⟨q, h1, h2⟩ := hans0.2 h20
        refine ⟨q, ?_, h2⟩
        rw [H2.out.2.2.1] at h1
        rw [hy]
        rcases h1 with ⟨e, h3, rfl⟩ | ⟨t, s, h3, rfl⟩
        · exact ev4_sgn_err (k := 7) rfl h20 h3
        · exact ev4_sgn (k := 7) rfl h20 h3
    have HX := hid hX
    clear CC hans0 hX
    obtain ⟨x, y, a, n, cap, v, rfl, hfin⟩ := Sp.Ans.lay HZ.out HA.out (HU.out.2.1.trans H2.out.1) (by have := HU.out.2.2.1; have := H2.out.1.size; omega) hAns
    have hT3 := hT2.but hAns.1 hne
    obtain ⟨⟨d0, d1, d2⟩, f0, f1, f2⟩ := tri_cells hT3
    have HT3 := hid hT3
    have HF := hid hfin
    clear hT3 hfin hAns hT2
    go_wp2
    (try simp only [Exit.inBlock, Exit.then])
    refine bodyPost_ret (results_cell_tmp1 rfl _ _ w.heap.size 24 #[.int .i64 x, .int .i64 y, .slice a n cap] (0, 0) _ rfl (tri_set HT3.out _ _ _) Tryd.underlying24 rfl (by kernel_rfl)) rfl ?_
    exact ⟨_, HX.out, HF.out⟩
  by_cases h70 : ∃ r, lft z.S k = 70 :: r
  · obtain ⟨r, hy⟩ := h70
    have hnot : ∀ d : UInt8, d ≠ 70 → ∀ r, lft z.S k ≠ d :: r := fun d hd r' hh => by rw [hy] at hh; exact hd (List.cons.inj hh).1.symm
    have hlen := lv_deep hy
    go_enter Tryd.func74, Tryd.ntmps74
    go_wp2_with fail
    rw [← HE.out]
    refine (HN.out 40 u HU.out.2.2.2 (hnot 40 (by decide))).mono ?_
    rintro e v0 ⟨rfl, hb0, ha0⟩
    have Hv0 : Hid (But z.b u v0 ∧ z.At v0 k o) := ⟨hb0, ha0⟩
    clear hb0 ha0
    go_wp2_with fail
    refine (HN.out 33 v0 Hv0.out.2 (hnot 33 (by decide))).mono ?_
    rintro e v1 ⟨rfl, hb1, ha1⟩
    have Hv1 : Hid (But z.b u v1 ∧ z.At v1 k o) := ⟨Hv0.out.1.trans hb1, ha1⟩
    clear hb1 ha1
    go_wp2_with fail
    refine (HN.out 88 v1 Hv1.out.2 (hnot 88 (by decide))).mono ?_
    rintro e v2 ⟨rfl, hb2, ha2⟩
    have Hv2 : Hid (But z.b u v2 ∧ z.At v2 k o) := ⟨Hv1.out.1.trans hb2, ha2⟩
    clear hb2 ha2
    go_wp2_with fail
    refine (HY.out 70 r v2 Hv2.out.2 hy).mono ?_
    rintro e w2 ⟨rfl, hb2, k2, hA2, hl2, hk2⟩
    have H2 : Hid (But z.b u w2 ∧ z.At w2 k2 o ∧ lft z.S k2 = skp r ∧ k < k2) := ⟨Hv2.out.1.trans hb2, hA2, hl2, hk2⟩
    have hT2 := HU.out.1.but H2.out.1 hne
    clear hb2 hA2 hl2 hk2
    have CC := hid (signed_any HZ.out k2 o k 10 w2 H2.out.2.1 hk ho (HIs.out k2 H2.out.2.2.2 H2.out.2.1.2.2))
    go_wp2_with fail
    refine CC.out.mono ?_
    rintro e w3 hans0
    obtain ⟨q, hX, hAns⟩ : ∃ q, Ev z.N z.M 4 .leaf (lft z.S k) o q ∧ z.Ans w2 o q e w3 := by
      by_cases h20 : o = 20
      · refine ⟨_, ?_, hans0.1 h20⟩
        rw [hy, ← hlen]
        exact ev4_deep h20 (Or.inr ⟨10, rfl⟩)
      · obtain ⟨q, h1, h2⟩ := hans0.2 h20
        refine ⟨q, ?_, h2⟩
        rw [H2.out.2.2.1] at h1
        rw [hy]
        rcases h1 with ⟨e, h3, rfl⟩ | ⟨t, s, h3, rfl⟩
        · exact ev4_sgn_err (k := 10) rfl h20 h3
        · exact ev4_sgn (k := 10) rfl h20 h3
    have HX := hid hX
    clear CC hans0 hX
    obtain ⟨x, y, a, n, cap, v, rfl, hfin⟩ := Sp.Ans.lay HZ.out HA.out (HU.out.2.1.trans H2.out.1) (by have := HU.out.2.2.1; have := H2.out.1.size; omega) hAns
    have hT3 := hT2.but hAns.1 hne
    obtain ⟨⟨d0, d1, d2⟩, f0, f1, f2⟩ := tri_cells hT3
    have HT3 := hid hT3
    have HF := hid hfin
    clear hT3 hfin hAns hT2
    go_wp2
    (try simp only [Exit.inBlock, Exit.then])
    refine bodyPost_ret (results_cell_tmp1 rfl _ _ w.heap.size 24 #[.int .i64 x, .int .i64 y, .slice a n cap] (0, 0) _ rfl (tri_set HT3.out _ _ _) Tryd.underlying24 rfl (by kernel_rfl)) rfl ?_
    exact ⟨_, HX.out, HF.out⟩
  by_cases h71 : ∃ r, lft z.S k = 71 :: r
  · obtain ⟨r, hy⟩ := h71
    have hnot : ∀ d : UInt8, d ≠ 71 → ∀ r, lft z.S k ≠ d :: r := fun d hd r' hh => by rw [hy] at hh; exact hd (List.cons.inj hh).1.symm
    have hlen := lv_deep hy
    go_enter Tryd.func74, Tryd.ntmps74
    go_wp2_with fail
    rw [← HE.out]
    refine (HN.out 40 u HU.out.2.2.2 (hnot 40 (by decide))).mono ?_
    rintro e v0 ⟨rfl, hb0, ha0⟩
    have Hv0 : Hid (But z.b u v0 ∧ z.At v0 k o) := ⟨hb0, ha0⟩
    clear hb0 ha0
    go_wp2_with fail
    refine (HN.out 33 v0 Hv0.out.2 (hnot 33 (by decide))).mono ?_
    rintro e v1 ⟨rfl, hb1, ha1⟩
    have Hv1 : Hid (But z.b u v1 ∧ z.At v1 k o) := ⟨Hv0.out.1.trans hb1, ha1⟩
    clear hb1 ha1
    go_wp2_with fail
    refine (HN.out 88 v1 Hv1.out.2 (hnot 88 (by decide))).mono ?_
    rintro e v2 ⟨rfl, hb2, ha2⟩
    have Hv2 : Hid (But z.b u v2 ∧ z.At v2 k o) := ⟨Hv1.out.1.trans hb2, ha2⟩
    clear hb2 ha2
    go_wp2_with fail
    refine (HN.out 70 v2 Hv2.out.2 (hnot 70 (by decide))).mono ?_
    rintro e v3 ⟨rfl, hb3, ha3⟩
    have Hv3 : Hid (But z.b u v3 ∧ z.At v3 k o) := ⟨Hv2.out.1.trans hb3, ha3⟩
    clear hb3 ha3
    go_wp2_with fail
    refine (HY.out 71 r v3 Hv3.out.2 hy).mono ?_
    rintro e w2 ⟨rfl, hb2, k2, hA2, hl2, hk2⟩
    have H2 : Hid (But z.b u w2 ∧ z.At w2 k2 o ∧ lft z.S k2 = skp r ∧ k < k2) := ⟨Hv3.out.1.trans hb2, hA2, hl2, hk2⟩
    have hT2 := HU.out.1.but H2.out.1 hne
    clear hb2 hA2 hl2 hk2
    have CC := hid (signed_any HZ.out k2 o k 11 w2 H2.out.2.1 hk ho (HIs.out k2 H2.out.2.2.2 H2.out.2.1.2.2))
    go_wp2_with fail
    refine CC.out.mono ?_
    rintro e w3 hans0
    obtain ⟨q, hX, hAns⟩ : ∃ q, Ev z.N z.M 4 .leaf (lft z.S k) o q ∧ z.Ans w2 o q e w3 := by
      by_cases h20 : o = 20
      · refine ⟨_, ?_, hans0.1 h20⟩
        rw [hy, ← hlen]
        exact ev4_deep h20 (Or.inr ⟨11, rfl⟩)
      · obtain ⟨q, h1, h2⟩ := hans0.2 h20
        refine ⟨q, ?_, h2⟩
        rw [H2.out.2.2.1] at h1
        rw [hy]
        rcases h1 with ⟨e, h3, rfl⟩ | ⟨t, s, h3, rfl⟩
        · exact ev4_sgn_err (k := 11) rfl h20 h3
        · exact ev4_sgn (k := 11) rfl h20 h3
    have HX := hid hX
    clear CC hans0 hX
    obtain ⟨x, y, a, n, cap, v, rfl, hfin⟩ := Sp.Ans.lay HZ.out HA.out (HU.out.2.1.trans H2.out.1) (by have := HU.out.2.2.1; have := H2.out.1.size; omega) hAns
    have hT3 := hT2.but hAns.1 hne
    obtain ⟨⟨d0, d1, d2⟩, f0, f1, f2⟩ := tri_cells hT3
    have HT3 := hid hT3
    have HF := hid hfin
    clear hT3 hfin hAns hT2
    go_wp2
    (try simp only [Exit.inBlock, Exit.then])
    refine bodyPost_ret (results_cell_tmp1 rfl _ _ w.heap.size 24 #[.int .i64 x, .int .i64 y, .slice a n cap] (0, 0) _ rfl (tri_set HT3.out _ _ _) Tryd.underlying24 rfl (by kernel_rfl)) rfl ?_
    exact ⟨_, HX.out, HF.out⟩
  have hnot : ∀ d : UInt8, (d = 40 ∨ d = 33 ∨ d = 88 ∨ d = 70 ∨ d = 71) → ∀ r, lft z.S k ≠ d :: r := by
    rintro d (rfl | rfl | rfl | rfl | rfl) r hh
    · exact h40 ⟨r, hh⟩
    · exact h33 ⟨r, hh⟩
    · exact h88 ⟨r, hh⟩
    · exact h70 ⟨r, hh⟩
    · exact h71 ⟨r, hh⟩
  have HHd : Hid (∀ c r, lft z.S k = c :: r → c ≠ 40 ∧ sgK c = none) := fun c r hh => by
    have n1 : c ≠ 40 := fun e => h40 ⟨r, e ▸ hh⟩
    have n2 : c ≠ 33 := fun e => h33 ⟨r, e ▸ hh⟩
    have n3 : c ≠ 88 := fun e => h88 ⟨r, e ▸ hh⟩
    have n4 : c ≠ 70 := fun e => h70 ⟨r, e ▸ hh⟩
    have n5 : c ≠ 71 := fun e => h71 ⟨r, e ▸ hh⟩
    exact ⟨n1, by simp [sgK, n2, n3, n4, n5]⟩
  clear h40 h33 h88 h70 h71 HIf HIs
  go_enter Tryd.func74, Tryd.ntmps74
  go_wp2_with fail
  rw [← HE.out]
  refine (HN.out 40 u HU.out.2.2.2 (hnot 40 (by decide))).mono ?_
  rintro e v0 ⟨rfl, hb0, ha0⟩
  have Hv0 : Hid (But z.b u v0 ∧ z.At v0 k o) := ⟨hb0, ha0⟩
  clear hb0 ha0
  go_wp2_with fail
  refine (HN.out 33 v0 Hv0.out.2 (hnot 33 (by decide))).mono ?_
  rintro e v1 ⟨rfl, hb1, ha1⟩
  have Hv1 : Hid (But z.b u v1 ∧ z.At v1 k o) := ⟨Hv0.out.1.trans hb1, ha1⟩
  clear hb1 ha1
  go_wp2_with fail
  refine (HN.out 88 v1 Hv1.out.2 (hnot 88 (by decide))).mono ?_
  rintro e v2 ⟨rfl, hb2, ha2⟩
  have Hv2 : Hid (But z.b u v2 ∧ z.At v2 k o) := ⟨Hv1.out.1.trans hb2, ha2⟩
  clear hb2 ha2
  go_wp2_with fail
  refine (HN.out 70 v2 Hv2.out.2 (hnot 70 (by decide))).mono ?_
  rintro e v3 ⟨rfl, hb3, ha3⟩
  have Hv3 : Hid (But z.b u v3 ∧ z.At v3 k o) := ⟨Hv2.out.1.trans hb3, ha3⟩
  clear hb3 ha3
  go_wp2_with fail
  refine (HN.out 71 v3 Hv3.out.2 (hnot 71 (by decide))).mono ?_
  rintro e v4 ⟨rfl, hb4, ha4⟩
  have Hv4 : Hid (But z.b u v4 ∧ z.At v4 k o) := ⟨Hv3.out.1.trans hb4, ha4⟩
  clear hb4 ha4
  have CWd := hid (word0_any z.b z.S z.na z.N z.nc k o v4 Hv4.out.2.1 hk HZ.out.size)
  go_wp2_with fail
  refine CWd.out.mono ?_
  rintro e w6 ⟨rfl, q6, hw6⟩
  have H6 : Hid (But z.b u w6 ∧ z.At w6 k o) := by
    rw [hw6]
    exact ⟨Hv4.out.1.drewN q6, Hv4.out.2.1.drewN q6, below_drewN Hv4.out.2.2.1 q6, hk⟩
  clear CWd hw6
  have hLV := lf_V z.N z.M (wrd (lft z.S k))
  have CL := hid (leaf_any HZ.out.sta z.b z.S k o (wrd (lft z.S k)) w6 H6.out.2.1 H6.out.2.2.1)
  have hbs : (byt (wrd (lft z.S k))).size = (wrd (lft z.S k)).length := byt_size _
  have hwl : (wrd (lft z.S k)).length ≤ z.S.size - k := by
    have h1 := List.Sublist.length_le (List.takeWhile_sublist (p := isL) (l := lft z.S k))
    rw [lft_len] at h1
    exact h1
  obtain ⟨⟨lk, ln, lb⟩, hlv⟩ : ∃ y, y = lfV z.N z.M (wrd (lft z.S k)) := ⟨_, rfl⟩
  rw [← hlv] at CL hLV
  go_wp2_with fail
  refine CL.out.mono ?_
  rintro e w7 ⟨rfl, hb7⟩
  have H7 : Hid (But z.b u w7 ∧ z.At w7 k o) := ⟨H6.out.1.trans (But.of_below hb7), H6.out.2.below hb7⟩
  clear CL hb7 hlv
  have hT7 := HU.out.1.but H7.out.1 hne
  obtain ⟨w8, hw8⟩ : ∃ y, y = w7.alloc (.cells #[.int .i64 lk, .int .i64 ln, .slice none 0 0] 24) := ⟨_, rfl⟩
  have hX8 : Tri w8 w7.heap.size (.int .i64 lk) (.int .i64 ln) (.slice none 0 0) := by rw [hw8]; exact tri_new _ _ _ _
  have hT8 : Tri w8 w.heap.size (.int .i64 0) (.int .i64 0) (.slice none 0 0) := by rw [hw8]; exact hT7.alloc _
  have H8 : Hid (But z.b u w8 ∧ z.At w8 k o) := by
    rw [hw8]
    exact ⟨H7.out.1.alloc _, H7.out.2.alloc _⟩
  have HE8 := hid hw8
  have hne7 : w7.heap.size ≠ z.b := by have := H7.out.2.1.lt; omega
  have hnx : w.heap.size ≠ w7.heap.size := by have := hT7.lt; omega
  have hxl := hT7.lt
  clear hw8 hT7
  cases lb
  · have HX : Hid (Ev z.N z.M 4 .leaf (lft z.S k) o (.error (wrg z.N z.M (lft z.S k), (lft z.S k).length))) := ev4_wrong HHd.out hLV
    have CW : Hid (∀ v, z.At v k o → Calls Tryd.prog 36 #[.pointer (some ⟨z.b, 0, none⟩)] v fun e w' => e = .returned (erV z.V1 z.V2 z.V3 z.V5 (wrg z.N z.M (lft z.S k)) k) ∧ Below v.heap.size v w') := fun v hv => wrong_any HZ.out.sta HZ.out.ers z.b z.S k o v hv.1 hv.2.1 hk HZ.out.size
    obtain ⟨ea, hea⟩ : ∃ y, erV z.V1 z.V2 z.V3 z.V5 (wrg z.N z.M (lft z.S k)) k = .iface 72 y := ⟨_, rfl⟩
    rw [hea] at CW
    have HEa := hid hea
    have HT8 := hid hT8
    have HX8 := hid hX8
    obtain ⟨⟨d0, d1, d2⟩, f0, f1, f2⟩ := tri_cells hT8
    obtain ⟨⟨g0, g1, g2⟩, -⟩ := tri_cells hX8
    generalize byt (wrd (lft z.S k)) = bw at *
    clear hea hT8 hX8 hLV hbs hwl hnot
    go_wp2
    rw [← HE8.out]
    go_region_held3 (fun v => v.cell? ⟨w7.heap.size, 0, none⟩ = some (.int .i64 lk) ∧ v.cell? ⟨w7.heap.size, 1, none⟩ = some (.int .i64 ln) ∧ v.cell? ⟨w7.heap.size, 2, none⟩ = some (.slice none 0 0)) (first | go_keep)
      (first | (go_at_call 36; refine (CW.out _ ?_).mono ?_; (first | exact H8.out.2 | exact ⟨H8.out.2.1, below_drewN H8.out.2.2.1 1, H8.out.2.2.2⟩); rintro e w9 ⟨rfl, hb9⟩; have hb9' : Below w8.heap.size w8 w9 := (by first | exact hb9 | exact (below_drewN (Below.refl _ _) 1).trans hb9); have hT9 := HT8.out.below hb9' HT8.out.lt; have hX9 := HX8.out.below hb9' HX8.out.lt; obtain ⟨⟨e0, e1, e2⟩, i0, i1, i2⟩ := tri_cells hT9; obtain ⟨⟨j0, j1, j2⟩, -⟩ := tri_cells hX9) | fail)
    have HT9 := hid hT9
    have H9 : Hid (But z.b w w9 ∧ z.At w9 k o) := ⟨HU.out.2.1.trans (H8.out.1.trans (But.of_below hb9')), H8.out.2.below hb9'⟩
    clear hT9 hX9 hb9 hb9' CW
    go_wp2
    (try simp only [Exit.inBlock, Exit.then])
    refine bodyPost_ret (results_cell_tmp1 rfl _ _ w.heap.size 24 #[.int .i64 lk, .int .i64 ln, .slice none 0 0] (0, 0) _ rfl (tri_set HT9.out _ _ _) Tryd.underlying24 rfl (by kernel_rfl)) rfl ?_
    refine ⟨_, HX.out, ?_⟩
    have hfin := fin_err (x := lk) (y := ln) (a := none) (n := 0) (cap := 0) (c := wrg z.N z.M (lft z.S k)) (m := (lft z.S k).length) HZ.out HA.out H9.out.1 H9.out.2 (by rw [lft_len]; omega) (wrg_code _ _ _)
    rw [pos_of hk, HEa.out] at hfin
    first | exact hfin | exact ⟨hfin.1.drewN 1, hfin.2⟩
  · have HX : Hid (Ev z.N z.M 4 .leaf (lft z.S k) o (.ok (nd lk ln, skp ((lft z.S k).drop (wrd (lft z.S k)).length)))) := ev4_leaf HHd.out hLV
    have CP : Hid (Calls Tryd.prog 34 #[.pointer (some ⟨z.b, 0, none⟩), .int .i64 (byt (wrd (lft z.S k))).size] w8 fun e w' => e = .returned (.tuple #[]) ∧ ∃ k3 : Nat, k3 ≤ z.S.size ∧ lft z.S k3 = skp ((lft z.S k).drop (wrd (lft z.S k)).length) ∧ Rd w' z.b z.S z.na z.N z.nc k3 o ∧ But z.b w8 w') := by
      rw [hbs, lft_drop]
      exact hid (pass_any z.b z.S z.na z.N z.nc k (wrd (lft z.S k)).length o w8 H8.out.2.1 (by omega) HZ.out.size)
    have HT8 := hid hT8
    have HX8 := hid hX8
    generalize byt (wrd (lft z.S k)) = bw at *
    clear hT8 hX8 hLV hbs hwl hnot
    go_wp2_with fail
    rw [← HE8.out]
    refine CP.out.mono ?_
    rintro e w9 ⟨rfl, k3, hk3, hl3, hr3, hb9⟩
    have hT9 := HT8.out.but hb9 hne
    have hX9 := HX8.out.but hb9 hne7
    obtain ⟨⟨d0, d1, d2⟩, f0, f1, f2⟩ := tri_cells hT9
    obtain ⟨⟨g0, g1, g2⟩, -⟩ := tri_cells hX9
    have HT9 := hid hT9
    have H9 : Hid (But z.b w w9 ∧ z.At w9 k3 o ∧ lft z.S k3 = skp ((lft z.S k).drop (wrd (lft z.S k)).length)) := ⟨HU.out.2.1.trans (H8.out.1.trans hb9), Sp.At.but HZ.out H8.out.2 hb9 hr3 hk3, hl3⟩
    clear CP hb9 hr3 hl3 hk3 hT9 hX9
    go_wp2
    (try simp only [Exit.inBlock, Exit.then])
    refine bodyPost_ret (results_cell_tmp1 rfl _ _ w.heap.size 24 #[.int .i64 lk, .int .i64 ln, .slice none 0 0] (0, 0) _ rfl (tri_set HT9.out _ _ _) Tryd.underlying24 rfl (by kernel_rfl)) rfl ?_
    exact ⟨_, HX.out, fin_ok (t := nd lk ln) (a := none) (cap := 0) (B := w.heap.size + 1) HZ.out HA.out H9.out.1 H9.out.2.1 (kd_nd _ _) (Nat.lt_succ_self _) (by show 0 ≤ 2; omega) H9.out.2.2.symm⟩

end Go.Proofs.YtgpjlgffmlkkoaaDoor
