/- and, or, formula; all levels. -/
import Derived.Test.YtgpjlgffmlkkoaaDoorRow
namespace Go.Proofs.YtgpjlgffmlkkoaaDoor
open Go.RowKit

set_option maxHeartbeats 4000000 in
theorem and_any {z : Sp} (hz : z.Ok) (k : Nat) (hk : k ≤ z.S.size) (hs : ∀ k', k ≤ k' → k' ≤ z.S.size → LvC z 71 3 k') : LvC z 63 2 k := by
  intro o ho w h
  have HZ := hid hz
  have HA := hid h
  have hlt := h.1.lt
  have hne : w.heap.size ≠ z.b := by omega
  obtain ⟨u, hu⟩ : ∃ y, y = w.alloc (.cells #[.int .i64 0, .int .i64 0, .slice none 0 0] 24) := ⟨_, rfl⟩
  have hus : u.heap.size = w.heap.size + 1 := by rw [hu]; simp
  have hBu : But z.b w u := by rw [hu]; exact (But.refl _ _).alloc _
  have hTu : Tri u w.heap.size (.int .i64 0) (.int .i64 0) (.slice none 0 0) := by rw [hu]; exact tri_new _ _ _ _
  have hAu : z.At u k o := by rw [hu]; exact h.alloc _
  have HU : Hid (Tri u w.heap.size (.int .i64 0) (.int .i64 0) (.slice none 0 0) ∧ But z.b w u ∧ u.heap.size = w.heap.size + 1) := ⟨hTu, hBu, hus⟩
  have HE := hid hu
  have C := hid (row71_any hz k hk hs o ho u hAu)
  clear hs hu hus hBu hTu h hz hAu
  go_enter Tryd.func63, Tryd.ntmps63
  go_wp2_with fail
  rw [← HE.out]
  refine C.out.mono ?_
  rintro e w3 ⟨r, hEv, hAns⟩
  obtain ⟨x, y, a, n, cap, v, rfl, hfin⟩ := Sp.Ans.lay HZ.out HA.out HU.out.2.1 (by have := HU.out.2.2; omega) hAns
  have hT3 := HU.out.1.but hAns.1 hne
  obtain ⟨⟨d0, d1, d2⟩, f0, f1, f2⟩ := tri_cells hT3
  have HT3 := hid hT3
  have HF := hid hfin
  have HX := hid hEv
  clear C hT3 hfin hAns hEv
  go_wp2
  (try simp only [Exit.inBlock, Exit.then])
  refine bodyPost_ret (results_cell_tmp1 rfl _ _ w.heap.size 24 #[.int .i64 x, .int .i64 y, .slice a n cap] (0, 0) _ rfl (tri_set HT3.out _ _ _) Tryd.underlying24 rfl (by kernel_rfl)) rfl ?_
  exact ⟨_, HX.out, HF.out⟩

set_option maxHeartbeats 4000000 in
theorem or_any {z : Sp} (hz : z.Ok) (k : Nat) (hk : k ≤ z.S.size) (hs : ∀ k', k ≤ k' → k' ≤ z.S.size → LvC z 63 2 k') : LvC z 47 1 k := by
  intro o ho w h
  have HZ := hid hz
  have HA := hid h
  have hlt := h.1.lt
  have hne : w.heap.size ≠ z.b := by omega
  obtain ⟨u, hu⟩ : ∃ y, y = w.alloc (.cells #[.int .i64 0, .int .i64 0, .slice none 0 0] 24) := ⟨_, rfl⟩
  have hus : u.heap.size = w.heap.size + 1 := by rw [hu]; simp
  have hBu : But z.b w u := by rw [hu]; exact (But.refl _ _).alloc _
  have hTu : Tri u w.heap.size (.int .i64 0) (.int .i64 0) (.slice none 0 0) := by rw [hu]; exact tri_new _ _ _ _
  have hAu : z.At u k o := by rw [hu]; exact h.alloc _
  have HU : Hid (Tri u w.heap.size (.int .i64 0) (.int .i64 0) (.slice none 0 0) ∧ But z.b w u ∧ u.heap.size = w.heap.size + 1) := ⟨hTu, hBu, hus⟩
  have HE := hid hu
  have C := hid (row63_any hz k hk hs o ho u hAu)
  clear hs hu hus hBu hTu h hz hAu
  go_enter Tryd.func47, Tryd.ntmps47
  go_wp2_with fail
  rw [← HE.out]
  refine C.out.mono ?_
  rintro e w3 ⟨r, hEv, hAns⟩
  obtain ⟨x, y, a, n, cap, v, rfl, hfin⟩ := Sp.Ans.lay HZ.out HA.out HU.out.2.1 (by have := HU.out.2.2; omega) hAns
  have hT3 := HU.out.1.but hAns.1 hne
  obtain ⟨⟨d0, d1, d2⟩, f0, f1, f2⟩ := tri_cells hT3
  have HT3 := hid hT3
  have HF := hid hfin
  have HX := hid hEv
  clear C hT3 hfin hAns hEv
  go_wp2
  (try simp only [Exit.inBlock, Exit.then])
  refine bodyPost_ret (results_cell_tmp1 rfl _ _ w.heap.size 24 #[.int .i64 x, .int .i64 y, .slice a n cap] (0, 0) _ rfl (tri_set HT3.out _ _ _) Tryd.underlying24 rfl (by kernel_rfl)) rfl ?_
  exact ⟨_, HX.out, HF.out⟩

theorem take2_no {z : Sp} (hz : z.Ok) {k o : Nat} {w : World} (h : z.At w k o) (hn : ∀ r, lft z.S k ≠ 45 :: 62 :: r) :
    Calls Tryd.prog 48 #[.pointer (some ⟨z.b, 0, none⟩), .string (byt [45, 62])] w fun e w' => e = .returned (.bool false) ∧ But z.b w w' ∧ z.At w' k o := by
  have hb : hasP [45, 62] (lft z.S k) = false := by
    cases hh : hasP [45, 62] (lft z.S k)
    · rfl
    · obtain ⟨r, hr⟩ := List.isPrefixOf_iff_prefix.1 hh
      exact absurd hr.symm (hn r)
  refine (take_any z.b z.S z.na z.N z.nc k o [45, 62] w h.1 h.2.2 hz.size).mono ?_
  rintro e w' ⟨he, k2, hk2, hl, hr, hbt⟩
  rw [hb] at he hl
  have e2 : lft z.S k2 = lft z.S k := hl
  obtain rfl := lft_inj hk2 h.2.2 e2
  exact ⟨he, hbt, Sp.At.but hz h hbt hr hk2⟩

theorem take2_yes {z : Sp} (hz : z.Ok) {k o : Nat} {w : World} {r : List UInt8} (h : z.At w k o) (hy : lft z.S k = 45 :: 62 :: r) :
    Calls Tryd.prog 48 #[.pointer (some ⟨z.b, 0, none⟩), .string (byt [45, 62])] w fun e w' => e = .returned (.bool true) ∧ But z.b w w' ∧ ∃ k2, z.At w' k2 o ∧ lft z.S k2 = skp r ∧ k < k2 := by
  have hb : hasP [45, 62] (lft z.S k) = true := by rw [hy]; exact List.isPrefixOf_iff_prefix.2 ⟨r, rfl⟩
  refine (take_any z.b z.S z.na z.N z.nc k o [45, 62] w h.1 h.2.2 hz.size).mono ?_
  rintro e w' ⟨he, k2, hk2, hl, hr, hbt⟩
  rw [hb] at he hl
  have e2 : lft z.S k2 = skp (lft z.S (k + 2)) := hl
  obtain ⟨h1, h2⟩ := lft_tail hy
  obtain ⟨h3, h4⟩ := lft_tail h1.symm
  rw [← h3] at e2
  refine ⟨he, hbt, k2, Sp.At.but hz h hbt hr hk2, e2, ?_⟩
  have h5 := congrArg List.length e2
  have h6 := skp_le r
  rw [lft_len] at h5
  rw [h3, lft_len] at h6
  rw [h3] at h5
  omega

set_option maxHeartbeats 8000000 in
theorem formula_any {z : Sp} (hz : z.Ok) (k : Nat) (hs : LvC z 47 1 k) (IHf : ∀ k', k < k' → k' ≤ z.S.size → LvC z 35 0 k') : LvC z 35 0 k := by
  intro o ho w h
  have HZ := hid hz
  have HA := hid h
  have hlt := h.1.lt
  have hne : w.heap.size ≠ z.b := by omega
  obtain ⟨u, hu⟩ : ∃ y, y = w.alloc (.cells #[.int .i64 0, .int .i64 0, .slice none 0 0] 24) := ⟨_, rfl⟩
  have hus : u.heap.size = w.heap.size + 1 := by rw [hu]; simp
  have hBu : But z.b w u := by rw [hu]; exact (But.refl _ _).alloc _
  have hTu : Tri u w.heap.size (.int .i64 0) (.int .i64 0) (.slice none 0 0) := by rw [hu]; exact tri_new _ _ _ _
  have hAu : z.At u k o := by rw [hu]; exact h.alloc _
  have HU : Hid (Tri u w.heap.size (.int .i64 0) (.int .i64 0) (.slice none 0 0) ∧ But z.b w u ∧ u.heap.size = w.heap.size + 1) := ⟨hTu, hBu, hus⟩
  have HE := hid hu
  have C := hid (hs o ho u hAu)
  have HIf := hid IHf
  have HP : Hid (∀ K v a c cap, Calls Tryd.prog 49 #[.int .i64 K, .slice a c cap] v fun e w' => e = .returned (.agg #[.int .i64 K, .int .i64 0, .slice a c cap]) ∧ Below v.heap.size v w') := fun K v a c cap => part_any K a c cap v
  clear hs hu hus hBu hTu h hz hAu IHf
  go_enter Tryd.func35, Tryd.ntmps35
  go_wp2_with fail
  rw [← HE.out]
  refine C.out.mono ?_
  rintro e w3 ⟨r, hEv, hb3, hans⟩
  have HEv := hid hEv
  have hT3 : Tri w3 w.heap.size (.int .i64 0) (.int .i64 0) (.slice none 0 0) := HU.out.1.but hb3 hne
  have HB3 : Hid (But z.b w w3 ∧ But z.b u w3 ∧ Tri w3 w.heap.size (.int .i64 0) (.int .i64 0) (.slice none 0 0)) := ⟨HU.out.2.1.trans hb3, hb3, hT3⟩
  have hxlt := hT3.lt
  have hsz3 := hb3.size
  clear C hb3 hT3 hEv
  cases r with
  | error q =>
    obtain ⟨c, m⟩ := q
    obtain ⟨x, y, a, n, cap, k', rfl, hm, hAt, hcc⟩ := hans
    obtain ⟨ea, hea⟩ : ∃ y, erV z.V1 z.V2 z.V3 z.V5 c ((z.S.size - m : Nat) : Int) = .iface 72 y := ⟨_, rfl⟩
    rw [hea]
    have HEa := hid hea
    have HAt := hid hAt
    have HK : Hid (m ≤ z.S.size ∧ (c = 3 ∨ c = 4 ∨ c = 5)) := ⟨hm, hcc⟩
    obtain ⟨⟨d0, d1, d2⟩, f0, f1, f2⟩ := tri_cells HB3.out.2.2
    clear hm hcc hAt hea
    go_wp2
    (try simp only [Exit.inBlock, Exit.then])
    refine bodyPost_ret (results_cell_tmp1 rfl _ _ w.heap.size 24 #[.int .i64 x, .int .i64 y, .slice a n cap] (0, 0) _ rfl ((tri_set HB3.out.2.2 _ _ _).alloc _) Tryd.underlying24 rfl (by kernel_rfl)) rfl ?_
    refine ⟨_, ev0_err HEv.out, ?_⟩
    have hfin := (fin_err (x := x) (y := y) (a := a) (n := n) (cap := cap) HZ.out HA.out HB3.out.1 HAt.out HK.out.1 HK.out.2).alloc (.cells #[.int .i64 x, .int .i64 y, .slice a n cap] 24)
    rw [HEa.out] at hfin
    exact hfin
  | ok q =>
    obtain ⟨t, s⟩ := q
    obtain ⟨a, cap, k', rfl, hk, hc, hAt, hs⟩ := hans
    have hkk : k ≤ k' := by
      have hlen := HEv.out.len
      rw [hs, lft_len, lft_len] at hlen
      have := hAt.2.2
      have := HA.out.2.2
      omega
    subst hs
    obtain ⟨w4, hw4⟩ : ∃ y, y = w3.alloc (.cells #[.int .i64 t.kind, .int .i64 t.num, .slice a t.cnt cap] 24) := ⟨_, rfl⟩
    have hA4 : z.At w4 k' o := by rw [hw4]; exact hAt.alloc _
    have hx4 : Tri w4 w3.heap.size (.int .i64 t.kind) (.int .i64 t.num) (.slice a t.cnt cap) := by rw [hw4]; exact tri_new _ _ _ _
    have hB4 : But z.b w3 w4 := by rw [hw4]; exact (But.refl _ _).alloc _
    have H4 : Hid (z.At w4 k' o ∧ Tri w4 w3.heap.size (.int .i64 t.kind) (.int .i64 t.num) (.slice a t.cnt cap) ∧ But z.b w3 w4) := ⟨hA4, hx4, hB4⟩
    have HE4 := hid hw4
    have hne3 : w3.heap.size ≠ z.b := by have := hAt.1.lt; omega
    have HK : Hid (Kds (hi u.heap.size w3) t a ∧ t.cnt ≤ 2) := ⟨hk, hc⟩
    clear hk hc hAt hA4 hx4 hB4 hw4
    by_cases hC : ∃ r, lft z.S k' = 45 :: 62 :: r
    · obtain ⟨r, hy⟩ := hC
      have C4 := hid (take2_yes HZ.out H4.out.1 hy)
      go_wp2_with fail
      rw [← HE4.out]
      refine C4.out.mono ?_
      rintro e w5 ⟨rfl, hb5, k2, hA5, hl5, hk5⟩
      have H5 : Hid (But z.b w4 w5 ∧ z.At w5 k2 o ∧ lft z.S k2 = skp r ∧ k < k2) := ⟨hb5, hA5, hl5, by omega⟩
      clear C4 hb5 hA5 hl5 hk5
      have hsz5 := H5.out.1.size
      have C5 := hid (HIf.out k2 H5.out.2.2.2 H5.out.2.1.2.2 o ho w5 H5.out.2.1)
      go_wp2_with fail
      refine C5.out.mono ?_
      rintro e w6 ⟨r6, hEv6, hb6, hans6⟩
      have hx6 : Tri w6 w3.heap.size (.int .i64 t.kind) (.int .i64 t.num) (.slice a t.cnt cap) := (H4.out.2.1.but H5.out.1 hne3).but hb6 hne3
      have hT6 : Tri w6 w.heap.size (.int .i64 0) (.int .i64 0) (.slice none 0 0) := ((HB3.out.2.2.but H4.out.2.2 hne).but H5.out.1 hne).but hb6 hne
      have hB6 : But z.b w3 w6 := H4.out.2.2.trans (H5.out.1.trans hb6)
      have HEv6 : Hid (Ev z.N z.M 0 .leaf (skp r) o r6) := by rw [← H5.out.2.2.1]; exact hEv6
      have HEvS : Hid (Ev z.N z.M 1 .leaf (lft z.S k) o (.ok (t, 45 :: 62 :: r))) := by rw [← hy]; exact HEv.out
      have H6 : Hid (But z.b w w6 ∧ But z.b w3 w6 ∧ Tri w6 w.heap.size (.int .i64 0) (.int .i64 0) (.slice none 0 0) ∧ Kds (hi u.heap.size w6) t a) := ⟨HB3.out.1.trans hB6, hB6, hT6, kd_keep HK.out.1 (fun j h1 h2 => hB6.block j h2 (by have := HU.out.2.2; omega))⟩
      obtain ⟨⟨g0, g1, g2⟩, -⟩ := tri_cells hx6
      have hylt := hx6.lt
      have hxlt6 := hT6.lt
      have hsz6 := hb6.size
      have hsz4 := H4.out.2.2.size
      have HX6 := hid hx6
      clear C5 hEv6 hb6 hB6 hx6 hT6
      cases r6 with
      | error q6 =>
        obtain ⟨c6, m6⟩ := q6
        obtain ⟨x, y, a', n, cap', k6, rfl, hm, hAt, hcc⟩ := hans6
        obtain ⟨ea, hea⟩ : ∃ y, erV z.V1 z.V2 z.V3 z.V5 c6 ((z.S.size - m6 : Nat) : Int) = .iface 72 y := ⟨_, rfl⟩
        rw [hea]
        have HEa := hid hea
        have HKe : Hid (m6 ≤ z.S.size ∧ (c6 = 3 ∨ c6 = 4 ∨ c6 = 5)) := ⟨hm, hcc⟩
        have hnA : w.heap.size ≠ w6.heap.size := by omega
        have hnB : w.heap.size ≠ w3.heap.size := by omega
        obtain ⟨w7, hw7⟩ : ∃ y', y' = w6.alloc (.cells #[.int .i64 x, .int .i64 y, .slice a' n cap'] 24) := ⟨_, rfl⟩
        have hs7 : w7.heap.size = w6.heap.size + 1 := by rw [hw7]; simp
        have hp7 : Tri w7 w6.heap.size (.int .i64 x) (.int .i64 y) (.slice a' n cap') := by rw [hw7]; exact tri_new _ _ _ _
        have hq7 : Tri w7 w3.heap.size (.int .i64 t.kind) (.int .i64 t.num) (.slice a t.cnt cap) := by rw [hw7]; exact HX6.out.alloc _
        have H7 : Hid (z.At w7 k6 o ∧ But z.b w w7 ∧ Tri w7 w.heap.size (.int .i64 0) (.int .i64 0) (.slice none 0 0) ∧ Tri w7 w6.heap.size (.int .i64 x) (.int .i64 y) (.slice a' n cap') ∧ Tri w7 w3.heap.size (.int .i64 t.kind) (.int .i64 t.num) (.slice a t.cnt cap) ∧ w7.heap.size = w6.heap.size + 1) := by
          refine ⟨?_, ?_, ?_, hp7, hq7, hs7⟩
          · rw [hw7]; exact hAt.alloc _
          · rw [hw7]; exact H6.out.1.alloc _
          · rw [hw7]; exact H6.out.2.2.1.alloc _
        have HE7 := hid hw7
        obtain ⟨⟨p0, p1, p2⟩, -⟩ := tri_cells hp7
        obtain ⟨⟨r0, r1, r2⟩, -⟩ := tri_cells hq7
        clear hAt hw7 hp7 hq7 g0 g1 g2 hm hcc hea
        go_wp2
        rw [← HE7.out]
        go_region_held3 (fun v => (v.cell? ⟨w6.heap.size, 0, none⟩ = some (.int .i64 x) ∧ v.cell? ⟨w6.heap.size, 1, none⟩ = some (.int .i64 y) ∧ v.cell? ⟨w6.heap.size, 2, none⟩ = some (.slice a' n cap')) ∧ v.cell? ⟨w3.heap.size, 0, none⟩ = some (.int .i64 t.kind) ∧ v.cell? ⟨w3.heap.size, 1, none⟩ = some (.int .i64 t.num) ∧ v.cell? ⟨w3.heap.size, 2, none⟩ = some (.slice a t.cnt cap)) (first | go_keep)
          (first
            | (go_at_call_of 49 (Value.int .i64 4); refine (HP.out _ _ _ _ _).mono ?_; rintro e w8 ⟨rfl, hb8⟩; have hb8' : Below (w7.alloc (.cells #[.int .i64 t.kind, .int .i64 t.num, .slice a t.cnt cap] 24)).heap.size (w7.alloc (.cells #[.int .i64 t.kind, .int .i64 t.num, .slice a t.cnt cap] 24)) w8 := below_left hb8 rfl rfl rfl rfl; have hp8 := (H7.out.2.2.2.1.alloc (.cells #[.int .i64 t.kind, .int .i64 t.num, .slice a t.cnt cap] 24)).below hb8' (H7.out.2.2.2.1.alloc (.cells #[.int .i64 t.kind, .int .i64 t.num, .slice a t.cnt cap] 24)).lt; have hq8 := (H7.out.2.2.2.2.1.alloc (.cells #[.int .i64 t.kind, .int .i64 t.num, .slice a t.cnt cap] 24)).below hb8' (H7.out.2.2.2.2.1.alloc (.cells #[.int .i64 t.kind, .int .i64 t.num, .slice a t.cnt cap] 24)).lt; obtain ⟨⟨s0, s1, s2⟩, -⟩ := tri_cells hp8; obtain ⟨⟨t0, t1, t3⟩, -⟩ := tri_cells hq8; have hz8 : w7.heap.size + 1 ≤ w8.heap.size := (by have := hb8'.size; simpa using this); have hn1 := hp8.lt; have hn2 := hq8.lt)
            | (go_at_call_of 49 (Value.int .i64 6); refine (HP.out _ _ _ _ _).mono ?_; rintro e w9 ⟨rfl, hb9⟩; have hb9' : Below (w8.alloc (.cells #[.int .i64 4, .int .i64 0, .slice (some ⟨w6.heap.size + 1, 0, none⟩) 1 1, .int .i64 x, .int .i64 y, .slice a' n cap'] 24)).heap.size (w8.alloc (.cells #[.int .i64 4, .int .i64 0, .slice (some ⟨w6.heap.size + 1, 0, none⟩) 1 1, .int .i64 x, .int .i64 y, .slice a' n cap'] 24)) w9 := below_left hb9 rfl rfl rfl rfl; have hp9 := (hp8.alloc (.cells #[.int .i64 4, .int .i64 0, .slice (some ⟨w6.heap.size + 1, 0, none⟩) 1 1, .int .i64 x, .int .i64 y, .slice a' n cap'] 24)).below hb9' (hp8.alloc (.cells #[.int .i64 4, .int .i64 0, .slice (some ⟨w6.heap.size + 1, 0, none⟩) 1 1, .int .i64 x, .int .i64 y, .slice a' n cap'] 24)).lt; have hq9 := (hq8.alloc (.cells #[.int .i64 4, .int .i64 0, .slice (some ⟨w6.heap.size + 1, 0, none⟩) 1 1, .int .i64 x, .int .i64 y, .slice a' n cap'] 24)).below hb9' (hq8.alloc (.cells #[.int .i64 4, .int .i64 0, .slice (some ⟨w6.heap.size + 1, 0, none⟩) 1 1, .int .i64 x, .int .i64 y, .slice a' n cap'] 24)).lt; obtain ⟨⟨u0, u1, u2⟩, -⟩ := tri_cells hp9; obtain ⟨⟨v0', v1', v2'⟩, -⟩ := tri_cells hq9; have hT9 := (((H7.out.2.2.1.alloc (.cells #[.int .i64 t.kind, .int .i64 t.num, .slice a t.cnt cap] 24)).below hb8' (H7.out.2.2.1.alloc (.cells #[.int .i64 t.kind, .int .i64 t.num, .slice a t.cnt cap] 24)).lt).alloc (.cells #[.int .i64 4, .int .i64 0, .slice (some ⟨w6.heap.size + 1, 0, none⟩) 1 1, .int .i64 x, .int .i64 y, .slice a' n cap'] 24)).below hb9' (((H7.out.2.2.1.alloc (.cells #[.int .i64 t.kind, .int .i64 t.num, .slice a t.cnt cap] 24)).below hb8' (H7.out.2.2.1.alloc (.cells #[.int .i64 t.kind, .int .i64 t.num, .slice a t.cnt cap] 24)).lt).alloc (.cells #[.int .i64 4, .int .i64 0, .slice (some ⟨w6.heap.size + 1, 0, none⟩) 1 1, .int .i64 x, .int .i64 y, .slice a' n cap'] 24)).lt; obtain ⟨⟨d0, d1, d2⟩, f0, f1, f2⟩ := tri_cells hT9)
            | fail)
        have H9 : Hid (z.At w9 k6 o ∧ But z.b w w9 ∧ Tri w9 w.heap.size (.int .i64 0) (.int .i64 0) (.slice none 0 0)) := ⟨(((H7.out.1.alloc _).below hb8').alloc _).below hb9', (((H7.out.2.1.alloc _).trans (But.of_below hb8')).alloc _).trans (But.of_below hb9'), hT9⟩
        clear hb8 hb8' hb9 hb9' hT9 hp8 hq8 hp9 hq9 s0 s1 s2 t0 t1 t3 u0 u1 u2 v0' v1' v2' p0 p1 p2 r0 r1 r2
        go_wp2
        (try simp only [Exit.inBlock, Exit.then])
        refine bodyPost_ret (results_cell_tmp1 rfl _ _ w.heap.size 24 #[.int .i64 6, .int .i64 0, .slice _ 2 2] (0, 0) _ rfl (tri_set H9.out.2.2 _ _ _) Tryd.underlying24 rfl (by kernel_rfl)) rfl ?_
        have hfin := fin_err (x := 6) (y := 0) (a := some ⟨w8.heap.size, 0, none⟩) (n := 2) (cap := 2) HZ.out HA.out H9.out.2.1 H9.out.1 HKe.out.1 HKe.out.2
        rw [HEa.out] at hfin
        refine ⟨_, ev0_imp_err HEvS.out HEv6.out, ?_⟩
        first | exact hfin | exact ⟨hfin.1.drewN 1, hfin.2⟩
      | ok q6 =>
        obtain ⟨t2, s2⟩ := q6
        obtain ⟨a2, cap2, k6, rfl, hk6, hc6, hAt, hs6⟩ := hans6
        subst hs6
        have hnA : w.heap.size ≠ w6.heap.size := by omega
        have hnB : w.heap.size ≠ w3.heap.size := by omega
        obtain ⟨w7, hw7⟩ : ∃ y', y' = w6.alloc (.cells #[.int .i64 t2.kind, .int .i64 t2.num, .slice a2 t2.cnt cap2] 24) := ⟨_, rfl⟩
        have hs7 : w7.heap.size = w6.heap.size + 1 := by rw [hw7]; simp
        have hp7 : Tri w7 w6.heap.size (.int .i64 t2.kind) (.int .i64 t2.num) (.slice a2 t2.cnt cap2) := by rw [hw7]; exact tri_new _ _ _ _
        have hq7 : Tri w7 w3.heap.size (.int .i64 t.kind) (.int .i64 t.num) (.slice a t.cnt cap) := by rw [hw7]; exact HX6.out.alloc _
        have H7 : Hid (z.At w7 k6 o ∧ But z.b w w7 ∧ Tri w7 w.heap.size (.int .i64 0) (.int .i64 0) (.slice none 0 0) ∧ Tri w7 w6.heap.size (.int .i64 t2.kind) (.int .i64 t2.num) (.slice a2 t2.cnt cap2) ∧ Tri w7 w3.heap.size (.int .i64 t.kind) (.int .i64 t.num) (.slice a t.cnt cap) ∧ w7.heap.size = w6.heap.size + 1) := by
          refine ⟨?_, ?_, ?_, hp7, hq7, hs7⟩
          · rw [hw7]; exact hAt.alloc _
          · rw [hw7]; exact H6.out.1.alloc _
          · rw [hw7]; exact H6.out.2.2.1.alloc _
        have HK2 : Hid (Kds (hi u.heap.size w6) t2 a2 ∧ t2.cnt ≤ 2) := ⟨kd_mono hk6 (by have := HU.out.2.2; omega), hc6⟩
        have HKt : Hid (Kds (hi u.heap.size (w7.alloc (.cells #[.int .i64 t.kind, .int .i64 t.num, .slice a t.cnt cap] 24))) (on 4 t) (some ⟨w6.heap.size + 1, 0, none⟩)) := by
          refine kd_on (cap := cap) (a := a) (by have := HU.out.2.2; omega) ?_ ?_ HK.out.2
          · rw [← hs7]; exact Go.Deep.blk_alloc_new _ _
          · exact kd_keep H6.out.2.2.2 (fun j _ h2 => by rw [Go.Deep.blk_alloc_lt _ _ _ (by omega), hw7, Go.Deep.blk_alloc_lt _ _ _ h2])
        have HE7 := hid hw7
        obtain ⟨⟨p0, p1, p2⟩, -⟩ := tri_cells hp7
        obtain ⟨⟨r0, r1, r2⟩, -⟩ := tri_cells hq7
        clear hAt hw7 hp7 hq7 g0 g1 g2 hk6 hc6
        go_wp2
        rw [← HE7.out]
        go_region_held3 (fun v => (v.cell? ⟨w6.heap.size, 0, none⟩ = some (.int .i64 t2.kind) ∧ v.cell? ⟨w6.heap.size, 1, none⟩ = some (.int .i64 t2.num) ∧ v.cell? ⟨w6.heap.size, 2, none⟩ = some (.slice a2 t2.cnt cap2)) ∧ v.cell? ⟨w3.heap.size, 0, none⟩ = some (.int .i64 t.kind) ∧ v.cell? ⟨w3.heap.size, 1, none⟩ = some (.int .i64 t.num) ∧ v.cell? ⟨w3.heap.size, 2, none⟩ = some (.slice a t.cnt cap)) (first | go_keep)
          (first
            | (go_at_call_of 49 (Value.int .i64 4); refine (HP.out _ _ _ _ _).mono ?_; rintro e w8 ⟨rfl, hb8⟩; have hb8' : Below (w7.alloc (.cells #[.int .i64 t.kind, .int .i64 t.num, .slice a t.cnt cap] 24)).heap.size (w7.alloc (.cells #[.int .i64 t.kind, .int .i64 t.num, .slice a t.cnt cap] 24)) w8 := below_left hb8 rfl rfl rfl rfl; have hp8 := (H7.out.2.2.2.1.alloc (.cells #[.int .i64 t.kind, .int .i64 t.num, .slice a t.cnt cap] 24)).below hb8' (H7.out.2.2.2.1.alloc (.cells #[.int .i64 t.kind, .int .i64 t.num, .slice a t.cnt cap] 24)).lt; have hq8 := (H7.out.2.2.2.2.1.alloc (.cells #[.int .i64 t.kind, .int .i64 t.num, .slice a t.cnt cap] 24)).below hb8' (H7.out.2.2.2.2.1.alloc (.cells #[.int .i64 t.kind, .int .i64 t.num, .slice a t.cnt cap] 24)).lt; obtain ⟨⟨s0, s1, s2⟩, -⟩ := tri_cells hp8; obtain ⟨⟨t0, t1, t3⟩, -⟩ := tri_cells hq8; have hz8 : w7.heap.size + 1 ≤ w8.heap.size := (by have := hb8'.size; simpa using this); have hn1 := hp8.lt; have hn2 := hq8.lt)
            | (go_at_call_of 49 (Value.int .i64 6); refine (HP.out _ _ _ _ _).mono ?_; rintro e w9 ⟨rfl, hb9⟩; have hb9' : Below (w8.alloc (.cells #[.int .i64 4, .int .i64 0, .slice (some ⟨w6.heap.size + 1, 0, none⟩) 1 1, .int .i64 t2.kind, .int .i64 t2.num, .slice a2 t2.cnt cap2] 24)).heap.size (w8.alloc (.cells #[.int .i64 4, .int .i64 0, .slice (some ⟨w6.heap.size + 1, 0, none⟩) 1 1, .int .i64 t2.kind, .int .i64 t2.num, .slice a2 t2.cnt cap2] 24)) w9 := below_left hb9 rfl rfl rfl rfl; have hp9 := (hp8.alloc (.cells #[.int .i64 4, .int .i64 0, .slice (some ⟨w6.heap.size + 1, 0, none⟩) 1 1, .int .i64 t2.kind, .int .i64 t2.num, .slice a2 t2.cnt cap2] 24)).below hb9' (hp8.alloc (.cells #[.int .i64 4, .int .i64 0, .slice (some ⟨w6.heap.size + 1, 0, none⟩) 1 1, .int .i64 t2.kind, .int .i64 t2.num, .slice a2 t2.cnt cap2] 24)).lt; have hq9 := (hq8.alloc (.cells #[.int .i64 4, .int .i64 0, .slice (some ⟨w6.heap.size + 1, 0, none⟩) 1 1, .int .i64 t2.kind, .int .i64 t2.num, .slice a2 t2.cnt cap2] 24)).below hb9' (hq8.alloc (.cells #[.int .i64 4, .int .i64 0, .slice (some ⟨w6.heap.size + 1, 0, none⟩) 1 1, .int .i64 t2.kind, .int .i64 t2.num, .slice a2 t2.cnt cap2] 24)).lt; obtain ⟨⟨u0, u1, u2⟩, -⟩ := tri_cells hp9; obtain ⟨⟨v0', v1', v2'⟩, -⟩ := tri_cells hq9; have hT9 := (((H7.out.2.2.1.alloc (.cells #[.int .i64 t.kind, .int .i64 t.num, .slice a t.cnt cap] 24)).below hb8' (H7.out.2.2.1.alloc (.cells #[.int .i64 t.kind, .int .i64 t.num, .slice a t.cnt cap] 24)).lt).alloc (.cells #[.int .i64 4, .int .i64 0, .slice (some ⟨w6.heap.size + 1, 0, none⟩) 1 1, .int .i64 t2.kind, .int .i64 t2.num, .slice a2 t2.cnt cap2] 24)).below hb9' (((H7.out.2.2.1.alloc (.cells #[.int .i64 t.kind, .int .i64 t.num, .slice a t.cnt cap] 24)).below hb8' (H7.out.2.2.1.alloc (.cells #[.int .i64 t.kind, .int .i64 t.num, .slice a t.cnt cap] 24)).lt).alloc (.cells #[.int .i64 4, .int .i64 0, .slice (some ⟨w6.heap.size + 1, 0, none⟩) 1 1, .int .i64 t2.kind, .int .i64 t2.num, .slice a2 t2.cnt cap2] 24)).lt; obtain ⟨⟨d0, d1, d2⟩, f0, f1, f2⟩ := tri_cells hT9)
            | fail)
        have hk8 : Kds (hi u.heap.size w8) (on 4 t) (some ⟨w6.heap.size + 1, 0, none⟩) := kd_keep HKt.out (fun j _ h2 => hb8'.block j (by simpa using h2))
        have hk82 : Kds (hi u.heap.size w8) t2 a2 := by
          refine kd_keep HK2.out.1 (fun j _ h2 => ?_)
          rw [hb8'.block j (by simp; omega), Go.Deep.blk_alloc_lt _ _ _ (by omega), HE7.out, Go.Deep.blk_alloc_lt _ _ _ h2]
        have hk9 : Kds (hi u.heap.size w9) (tw 6 (on 4 t) t2) (some ⟨w8.heap.size, 0, none⟩) := by
          refine kd_keep (w := w8.alloc (.cells #[.int .i64 4, .int .i64 0, .slice (some ⟨w6.heap.size + 1, 0, none⟩) 1 1, .int .i64 t2.kind, .int .i64 t2.num, .slice a2 t2.cnt cap2] 24)) ?_ (fun j _ h2 => hb9'.block j h2)
          refine kd_tw (t := on 4 t) (u := t2) (a := some ⟨w6.heap.size + 1, 0, none⟩) (c := a2) (cap := 1) (cap' := cap2) (by omega) (Go.Deep.blk_alloc_new _ _) ?_ (by show 1 ≤ 2; omega) ?_ HK2.out.2
          · exact kd_keep hk8 (fun j _ h2 => Go.Deep.blk_alloc_lt _ _ _ h2)
          · exact kd_keep hk82 (fun j _ h2 => Go.Deep.blk_alloc_lt _ _ _ h2)
        have H9 : Hid (z.At w9 k6 o ∧ But z.b w w9 ∧ Tri w9 w.heap.size (.int .i64 0) (.int .i64 0) (.slice none 0 0) ∧ Kds (hi u.heap.size w9) (tw 6 (on 4 t) t2) (some ⟨w8.heap.size, 0, none⟩)) := ⟨(((H7.out.1.alloc _).below hb8').alloc _).below hb9', (((H7.out.2.1.alloc _).trans (But.of_below hb8')).alloc _).trans (But.of_below hb9'), hT9, hk9⟩
        clear hb8 hb8' hb9 hb9' hT9 hp8 hq8 hp9 hq9 s0 s1 s2 t0 t1 t3 u0 u1 u2 v0' v1' v2' p0 p1 p2 r0 r1 r2 hk8 hk82 hk9
        go_wp2
        (try simp only [Exit.inBlock, Exit.then])
        refine bodyPost_ret (results_cell_tmp1 rfl _ _ w.heap.size 24 #[.int .i64 6, .int .i64 0, .slice _ 2 2] (0, 0) _ rfl (tri_set H9.out.2.2.1 _ _ _) Tryd.underlying24 rfl (by kernel_rfl)) rfl ?_
        have hfin := fin_ok (t := tw 6 (on 4 t) t2) (cap := 2) (s := lft z.S k6) HZ.out HA.out H9.out.2.1 H9.out.1 H9.out.2.2.2 (by have := HU.out.2.2; omega) (by show 2 ≤ 2; omega) rfl
        refine ⟨_, ev0_imp HEvS.out HEv6.out, ?_⟩
        first | exact hfin | exact ⟨hfin.1.drewN 1, hfin.2⟩
    · have hn : ∀ r, lft z.S k' ≠ 45 :: 62 :: r := fun r hh => hC ⟨r, hh⟩
      have C4 := hid (take2_no HZ.out H4.out.1 hn)
      have HX := hid (ev0_ok (a0 := .leaf) HEv.out hn)
      clear hC hn
      go_wp2_with fail
      rw [← HE4.out]
      refine C4.out.mono ?_
      rintro e w5 ⟨rfl, hb5, hA5⟩
      have hx5 : Tri w5 w3.heap.size (.int .i64 t.kind) (.int .i64 t.num) (.slice a t.cnt cap) := H4.out.2.1.but hb5 hne3
      have hT5 : Tri w5 w.heap.size (.int .i64 0) (.int .i64 0) (.slice none 0 0) := (HB3.out.2.2.but H4.out.2.2 hne).but hb5 hne
      have hB5 : But z.b w3 w5 := H4.out.2.2.trans hb5
      have H5 : Hid (But z.b w w5 ∧ z.At w5 k' o ∧ Kds (hi u.heap.size w5) t a) := ⟨HB3.out.1.trans hB5, hA5, kd_keep HK.out.1 (fun j h1 h2 => hB5.block j h2 (by have := HU.out.2.2; omega))⟩
      obtain ⟨⟨g0, g1, g2⟩, -⟩ := tri_cells hx5
      obtain ⟨⟨d0, d1, d2⟩, f0, f1, f2⟩ := tri_cells hT5
      have HT5 := hid hT5
      clear C4 hx5 hT5 hB5 hb5 hA5
      go_wp2
      (try simp only [Exit.inBlock, Exit.then])
      refine bodyPost_ret (results_cell_tmp1 rfl _ _ w.heap.size 24 #[.int .i64 t.kind, .int .i64 t.num, .slice a t.cnt cap] (0, 0) _ rfl (tri_set HT5.out _ _ _) Tryd.underlying24 rfl (by kernel_rfl)) rfl ?_
      exact ⟨_, HX.out, fin_ok HZ.out HA.out H5.out.1 H5.out.2.1 H5.out.2.2 (by have := HU.out.2.2; omega) HK.out.2 rfl⟩

theorem levels_step {z : Sp} (hz : z.Ok) (k : Nat) (hk : k ≤ z.S.size) (ih : ∀ k', k < k' → k' ≤ z.S.size → LvC z 35 0 k' ∧ LvC z 47 1 k' ∧ LvC z 63 2 k' ∧ LvC z 71 3 k' ∧ LvC z 74 4 k') :
    LvC z 35 0 k ∧ LvC z 47 1 k ∧ LvC z 63 2 k ∧ LvC z 71 3 k ∧ LvC z 74 4 k := by
  have h4 : LvC z 74 4 k := single_any hz k (fun k' a b => (ih k' a b).1) (fun k' a b => (ih k' a b).2.2.2.2)
  have h3 : LvC z 71 3 k := way_any hz k h4 (fun k' a b => (ih k' a b).2.2.2.1) (fun k' o t s hev hs hk' => by
    have hlen := hev.len
    rw [hs, lft_len, lft_len] at hlen
    omega)
  have h2 : LvC z 63 2 k := and_any hz k hk (fun k' a b => by
    by_cases e : k' = k
    · subst e; exact h3
    · exact (ih k' (by omega) b).2.2.2.1)
  have h1 : LvC z 47 1 k := or_any hz k hk (fun k' a b => by
    by_cases e : k' = k
    · subst e; exact h2
    · exact (ih k' (by omega) b).2.2.1)
  exact ⟨formula_any hz k h1 (fun k' a b => (ih k' a b).1), h1, h2, h3, h4⟩

/-- All levels of the reader, wherever it stands. -/
theorem levels {z : Sp} (hz : z.Ok) : ∀ (n k : Nat), k ≤ z.S.size → z.S.size - k ≤ n → LvC z 35 0 k ∧ LvC z 47 1 k ∧ LvC z 63 2 k ∧ LvC z 71 3 k ∧ LvC z 74 4 k := by
  intro n
  induction n with
  | zero => exact fun k hk hn => levels_step hz k hk (fun k' h1 h2 => by omega)
  | succ n ih => exact fun k hk hn => levels_step hz k hk (fun k' h1 h2 => ih k' h2 (by omega))

end Go.Proofs.YtgpjlgffmlkkoaaDoor
