/- take as it is used; signed. -/
import Derived.Test.YtgpjlgffmlkkoaaDoorCls
namespace Go.Proofs.YtgpjlgffmlkkoaaDoor
open Go.RowKit

/-- What a level of the reader does there. -/
def LvC (z : Sp) (f lv k : Nat) : Prop := ∀ o, o ≤ 20 → ∀ u, z.At u k o → Calls Tryd.prog f #[.pointer (some ⟨z.b, 0, none⟩)] u fun e w' => ∃ r, Ev z.N z.M lv .leaf (lft z.S k) o r ∧ z.Ans u o r e w'

theorem lft_inj {S : ByteArray} {k j : Nat} (hk : k ≤ S.size) (hj : j ≤ S.size) (h : lft S k = lft S j) : k = j := by
  have h1 := congrArg List.length h
  rw [lft_len, lft_len] at h1
  omega

theorem take_no {z : Sp} (hz : z.Ok) {k o : Nat} {w : World} (c : UInt8) (h : z.At w k o) (hn : ∀ r, lft z.S k ≠ c :: r) :
    Calls Tryd.prog 48 #[.pointer (some ⟨z.b, 0, none⟩), .string (byt [c])] w fun e w' => e = .returned (.bool false) ∧ But z.b w w' ∧ z.At w' k o := by
  have hb : hasP [c] (lft z.S k) = false := by
    cases hh : hasP [c] (lft z.S k)
    · rfl
    · obtain ⟨r, hr⟩ := hasP_one hh
      exact absurd hr (hn r)
  refine (take_any z.b z.S z.na z.N z.nc k o [c] w h.1 h.2.2 hz.size).mono ?_
  rintro e w' ⟨he, k2, hk2, hl, hr, hbt⟩
  rw [hb] at he hl
  have e2 : lft z.S k2 = lft z.S k := hl
  obtain rfl := lft_inj hk2 h.2.2 e2
  exact ⟨he, hbt, Sp.At.but hz h hbt hr hk2⟩

theorem take_yes {z : Sp} (hz : z.Ok) {k o : Nat} {w : World} (c : UInt8) {r : List UInt8} (h : z.At w k o) (hy : lft z.S k = c :: r) :
    Calls Tryd.prog 48 #[.pointer (some ⟨z.b, 0, none⟩), .string (byt [c])] w fun e w' => e = .returned (.bool true) ∧ But z.b w w' ∧ ∃ k2, z.At w' k2 o ∧ lft z.S k2 = skp r ∧ k < k2 := by
  have hb : hasP [c] (lft z.S k) = true := by rw [hy]; exact List.isPrefixOf_iff_prefix.2 ⟨r, rfl⟩
  refine (take_any z.b z.S z.na z.N z.nc k o [c] w h.1 h.2.2 hz.size).mono ?_
  rintro e w' ⟨he, k2, hk2, hl, hr, hbt⟩
  rw [hb] at he hl
  have e2 : lft z.S k2 = skp (lft z.S (k + 1)) := hl
  obtain ⟨h1, h2⟩ := lft_tail hy
  rw [← h1] at e2
  refine ⟨he, hbt, k2, Sp.At.but hz h hbt hr hk2, e2, ?_⟩
  have h3 := congrArg List.length e2
  have h4 := skp_le r
  rw [lft_len] at h3
  rw [h1, lft_len] at h4
  rw [h1] at h3
  omega

set_option maxHeartbeats 4000000 in
theorem signed_any {z : Sp} (hz : z.Ok) (k o p : Nat) (K : Int) (w : World) (h : z.At w k o) (hp : p ≤ z.S.size) (ho : o ≤ 20) (hf : LvC z 74 4 k) :
    Calls Tryd.prog 79 #[.pointer (some ⟨z.b, 0, none⟩), .int .i64 p, .int .i64 K] w fun e w' =>
      (o = 20 → z.Ans w o (.error (5, z.S.size - p)) e w') ∧ (o ≠ 20 → ∃ r, ((∃ q, Ev z.N z.M 4 .leaf (lft z.S k) (o + 1) (.error q) ∧ r = .error q) ∨ ∃ t s, Ev z.N z.M 4 .leaf (lft z.S k) (o + 1) (.ok (t, s)) ∧ r = .ok (on K t, s)) ∧ z.Ans w o r e w') := by
  have HZ := hid hz
  have HA := hid h
  have hlt := h.1.lt
  have hne : w.heap.size ≠ z.b := by omega
  obtain ⟨u, hu⟩ : ∃ y, y = w.alloc (.cells #[.int .i64 0, .int .i64 0, .slice none 0 0] 24) := ⟨_, rfl⟩
  have hus : u.heap.size = w.heap.size + 1 := by rw [hu]; simp
  have hBu : But z.b w u := by rw [hu]; exact (But.refl _ _).alloc _
  have hTu : Tri u w.heap.size (.int .i64 0) (.int .i64 0) (.slice none 0 0) := by rw [hu]; exact tri_new _ _ _ _
  have hAu : z.At u k o := by rw [hu]; exact h.alloc _
  have HU : Hid (Tri u w.heap.size (.int .i64 0) (.int .i64 0) (.slice none 0 0) ∧ But z.b w u ∧ u.heap.size = w.heap.size + 1) := ⟨hTu, hBu, hus⟩
  have C := hid (within74 hz (X := fun r => Ev z.N z.M 4 .leaf (lft z.S k) (o + 1) r) k o p u hAu hp (fun h20 v hv => hf (o + 1) (by omega) v hv) ho)
  have HE := hid hu
  have HP : Hid (∀ v a c cap, Calls Tryd.prog 49 #[.int .i64 K, .slice a c cap] v fun e w' => e = .returned (.agg #[.int .i64 K, .int .i64 0, .slice a c cap]) ∧ Below v.heap.size v w') := fun v a c cap => part_any K a c cap v
  clear hf hu hus hBu hTu h hz hAu
  go_enter Tryd.func79, Tryd.ntmps79
  go_wp2_with fail
  rw [← HE.out]
  refine C.out.mono ?_
  rintro e w3 hans0
  obtain ⟨r, hX, hb3, hans⟩ : ∃ r, ((o = 20 ∧ r = .error (5, z.S.size - p)) ∨ (o ≠ 20 ∧ Ev z.N z.M 4 .leaf (lft z.S k) (o + 1) r)) ∧ z.Ans u o r e w3 := by
    by_cases h20 : o = 20
    · exact ⟨_, Or.inl ⟨h20, rfl⟩, hans0.1 h20⟩
    · obtain ⟨r, h1, h2⟩ := hans0.2 h20
      exact ⟨r, Or.inr ⟨h20, h1⟩, h2⟩
  have HX := hid hX
  have hT3 : Tri w3 w.heap.size (.int .i64 0) (.int .i64 0) (.slice none 0 0) := HU.out.1.but hb3 hne
  have HB3 : Hid (But z.b w w3 ∧ But z.b u w3 ∧ Tri w3 w.heap.size (.int .i64 0) (.int .i64 0) (.slice none 0 0)) := ⟨HU.out.2.1.trans hb3, hb3, hT3⟩
  have hxlt := hT3.lt
  have hsz3 := hb3.size
  clear C hb3 hT3 hX hans0
  cases r with
  | error q =>
    obtain ⟨c, m⟩ := q
    obtain ⟨x, y, a, n, cap, k', rfl, hm, hAt, hcc⟩ := hans
    obtain ⟨ea, hea⟩ : ∃ y, erV z.V1 z.V2 z.V3 z.V5 c ((z.S.size - m : Nat) : Int) = .iface 72 y := ⟨_, rfl⟩
    rw [hea]
    have HEa := hid hea
    obtain ⟨w4, hw4⟩ : ∃ y', y' = (w3.alloc (.cells #[.int .i64 x, .int .i64 y, .slice a n cap] 24)).alloc (.cells #[.int .i64 x, .int .i64 y, .slice a n cap] 24) := ⟨_, rfl⟩
    have H4 : Hid (z.At w4 k' o ∧ But z.b w w4 ∧ Tri w4 w.heap.size (.int .i64 0) (.int .i64 0) (.slice none 0 0)) := by
      rw [hw4]
      exact ⟨(hAt.alloc _).alloc _, (HB3.out.1.alloc _).alloc _, (HB3.out.2.2.alloc _).alloc _⟩
    have HE4 := hid hw4
    have HK : Hid (m ≤ z.S.size ∧ (c = 3 ∨ c = 4 ∨ c = 5)) := ⟨hm, hcc⟩
    clear hm hcc hAt hea hw4
    go_wp2_with fail
    rw [← HE4.out]
    refine (HP.out _ _ _ _).mono ?_
    rintro e w5 ⟨rfl, hb5⟩
    have hT5 := H4.out.2.2.below hb5 H4.out.2.2.lt
    obtain ⟨⟨d0, d1, d2⟩, f0, f1, f2⟩ := tri_cells hT5
    have H5 : Hid (z.At w5 k' o ∧ But z.b w w5 ∧ Tri w5 w.heap.size (.int .i64 0) (.int .i64 0) (.slice none 0 0)) := ⟨H4.out.1.below hb5, H4.out.2.1.trans (But.of_below hb5), hT5⟩
    clear hb5 hT5
    go_wp2
    (try simp only [Exit.inBlock, Exit.then])
    refine bodyPost_ret (results_cell_tmp1 rfl _ _ w.heap.size 24 #[.int .i64 K, .int .i64 0, .slice _ 1 1] (0, 0) _ rfl (tri_set H5.out.2.2 _ _ _) Tryd.underlying24 rfl (by kernel_rfl)) rfl ?_
    have hfin := fin_err (x := K) (y := 0) (a := some ⟨w3.heap.size + 1, 0, none⟩) (n := 1) (cap := 1) HZ.out HA.out H5.out.2.1 H5.out.1 HK.out.1 HK.out.2
    rw [HEa.out] at hfin
    rcases HX.out with ⟨h20, he⟩ | ⟨h20, hev⟩
    · refine ⟨fun _ => ?_, fun hh => absurd h20 hh⟩
      rw [← he]
      exact hfin
    · exact ⟨fun hh => absurd hh h20, fun _ => ⟨_, Or.inl ⟨_, hev, rfl⟩, hfin⟩⟩
  | ok q =>
    obtain ⟨t, s⟩ := q
    obtain ⟨a, cap, k', rfl, hk, hc, hAt, hs⟩ := hans
    subst hs
    obtain ⟨w4, hw4⟩ : ∃ y', y' = (w3.alloc (.cells #[.int .i64 t.kind, .int .i64 t.num, .slice a t.cnt cap] 24)).alloc (.cells #[.int .i64 t.kind, .int .i64 t.num, .slice a t.cnt cap] 24) := ⟨_, rfl⟩
    have hs4 : w4.heap.size = w3.heap.size + 1 + 1 := by rw [hw4]; simp
    have hk4 : Kds (hi (w.heap.size + 1) w4) (on K t) (some ⟨w3.heap.size + 1, 0, none⟩) := by
      refine kd_on (cap := cap) (a := a) (by omega) ?_ ?_ hc
      · rw [hw4, show w3.heap.size + 1 = (w3.alloc (.cells #[.int .i64 t.kind, .int .i64 t.num, .slice a t.cnt cap] 24)).heap.size by simp]
        exact Go.Deep.blk_alloc_new _ _
      · refine kd_keep (kd_mono hk (by have := HU.out.2.2; omega)) (fun j h1 h2 => ?_)
        rw [hw4, Go.Deep.blk_alloc_lt _ _ _ (by simp; omega), Go.Deep.blk_alloc_lt _ _ _ h2]
    have H4 : Hid (z.At w4 k' o ∧ But z.b w w4 ∧ Tri w4 w.heap.size (.int .i64 0) (.int .i64 0) (.slice none 0 0) ∧ Kds (hi (w.heap.size + 1) w4) (on K t) (some ⟨w3.heap.size + 1, 0, none⟩)) := by
      refine ⟨?_, ?_, ?_, hk4⟩
      · rw [hw4]; exact (hAt.alloc _).alloc _
      · rw [hw4]; exact (HB3.out.1.alloc _).alloc _
      · rw [hw4]; exact (HB3.out.2.2.alloc _).alloc _
    have HE4 := hid hw4
    clear hk hc hAt hw4 hk4 hs4
    go_wp2_with fail
    rw [← HE4.out]
    refine (HP.out _ _ _ _).mono ?_
    rintro e w5 ⟨rfl, hb5⟩
    have hT5 := H4.out.2.2.1.below hb5 H4.out.2.2.1.lt
    obtain ⟨⟨d0, d1, d2⟩, f0, f1, f2⟩ := tri_cells hT5
    have H5 : Hid (z.At w5 k' o ∧ But z.b w w5 ∧ Tri w5 w.heap.size (.int .i64 0) (.int .i64 0) (.slice none 0 0) ∧ Kds (hi (w.heap.size + 1) w5) (on K t) (some ⟨w3.heap.size + 1, 0, none⟩)) :=
      ⟨H4.out.1.below hb5, H4.out.2.1.trans (But.of_below hb5), hT5, kd_keep H4.out.2.2.2 (fun j _ h2 => hb5.block j h2)⟩
    clear hb5 hT5
    go_wp2
    (try simp only [Exit.inBlock, Exit.then])
    refine bodyPost_ret (results_cell_tmp1 rfl _ _ w.heap.size 24 #[.int .i64 K, .int .i64 0, .slice _ 1 1] (0, 0) _ rfl (tri_set H5.out.2.2.1 _ _ _) Tryd.underlying24 rfl (by kernel_rfl)) rfl ?_
    have hfin := fin_ok (t := on K t) (cap := 1) (s := lft z.S k') HZ.out HA.out H5.out.2.1 H5.out.1 H5.out.2.2.2 (Nat.lt_succ_self _) (by show 1 ≤ 2; omega) rfl
    rcases HX.out with ⟨h20, he⟩ | ⟨h20, hev⟩
    · cases he
    · exact ⟨fun hh => absurd hh h20, fun _ => ⟨_, Or.inr ⟨_, _, hev, rfl⟩, hfin⟩⟩

end Go.Proofs.YtgpjlgffmlkkoaaDoor
