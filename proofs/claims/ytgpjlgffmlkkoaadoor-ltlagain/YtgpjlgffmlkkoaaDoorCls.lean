/- closed: a formula and its bracket. -/
import Derived.Test.YtgpjlgffmlkkoaaDoorWth
namespace Go.Proofs.YtgpjlgffmlkkoaaDoor
open Go.RowKit

/-- What is read of a formula and its bracket. -/
def ClIs (N : Nat) (M : Nat → ByteArray) (s : List UInt8) (o : Nat) (r : Rs) : Prop :=
  (∃ e, Ev N M 0 .leaf s o (.error e) ∧ r = .error e) ∨ (∃ a s2, Ev N M 0 .leaf s o (.ok (a, 41 :: s2)) ∧ r = .ok (a, skp s2)) ∨
    ∃ a s1, Ev N M 0 .leaf s o (.ok (a, s1)) ∧ (∀ x, s1 ≠ 41 :: x) ∧ r = .error (wrg N M s1, s1.length)

theorem hasP_one {c : UInt8} {s : List UInt8} (h : hasP [c] s = true) : ∃ r, s = c :: r := by
  obtain ⟨r, hr⟩ := List.isPrefixOf_iff_prefix.1 h
  exact ⟨r, hr.symm⟩
theorem hasP_no {c : UInt8} {s : List UInt8} (h : hasP [c] s = false) : ∀ r, s ≠ c :: r := by
  rintro r rfl
  have : hasP [c] (c :: r) = true := List.isPrefixOf_iff_prefix.2 ⟨r, rfl⟩
  rw [this] at h
  cases h

theorem lft_tail {S : ByteArray} {k : Nat} {c : UInt8} {r : List UInt8} (h : lft S k = c :: r) : r = lft S (k + 1) ∧ k < S.size := by
  have hlt : k < S.size := by
    have := lft_len S k
    rw [h] at this
    simp at this
    omega
  rw [lft_cons hlt] at h
  exact ⟨(List.cons.inj h).2.symm, hlt⟩

set_option maxHeartbeats 4000000 in
theorem closed_any {z : Sp} (hz : z.Ok) (k o : Nat) (w : World) (h : z.At w k o)
    (hf : ∀ u, z.At u k o → Calls Tryd.prog 35 #[.pointer (some ⟨z.b, 0, none⟩)] u fun e w' => ∃ r, Ev z.N z.M 0 .leaf (lft z.S k) o r ∧ z.Ans u o r e w') :
    Calls Tryd.prog 78 #[.pointer (some ⟨z.b, 0, none⟩)] w fun e w' => ∃ r, ClIs z.N z.M (lft z.S k) o r ∧ z.Ans w o r e w' := by
  have HZ := hid hz
  have HA := hid h
  have hlt := h.1.lt
  have hne : w.heap.size ≠ z.b := by omega
  obtain ⟨u, hu⟩ : ∃ y, y = w.alloc (.cells #[.int .i64 0, .int .i64 0, .slice none 0 0] 24) := ⟨_, rfl⟩
  have hus : u.heap.size = w.heap.size + 1 := by rw [hu]; simp
  have hBu : But z.b w u := by rw [hu]; exact (But.refl _ _).alloc _
  have hTu : Tri u w.heap.size (.int .i64 0) (.int .i64 0) (.slice none 0 0) := by rw [hu]; exact tri_new _ _ _ _
  have hAu : z.At u k o := Sp.At.but hz h hBu (by rw [hu]; exact h.1.alloc _) h.2.2
  have HU : Hid (Tri u w.heap.size (.int .i64 0) (.int .i64 0) (.slice none 0 0) ∧ But z.b w u ∧ u.heap.size = w.heap.size + 1) := ⟨hTu, hBu, hus⟩
  have C := hid (hf u hAu)
  have HE := hid hu
  clear hf hu hus hBu hTu h hz hAu
  go_enter Tryd.func78, Tryd.ntmps78
  go_wp2_with fail
  rw [← HE.out]
  refine C.out.mono ?_
  rintro e w3 ⟨r, hEv, hb3, hans⟩
  have hT3 : Tri w3 w.heap.size (.int .i64 0) (.int .i64 0) (.slice none 0 0) := HU.out.1.but hb3 hne
  have HB3 : Hid (But z.b w w3 ∧ But z.b u w3 ∧ Tri w3 w.heap.size (.int .i64 0) (.int .i64 0) (.slice none 0 0)) := ⟨HU.out.2.1.trans hb3, hb3, hT3⟩
  have hxlt := hT3.lt
  have HEv := hid hEv
  clear C hb3 hT3 hEv
  cases r with
  | error q =>
    obtain ⟨c, m⟩ := q
    obtain ⟨x, y, a, n, cap, k', rfl, hm, hAt, hcc⟩ := hans
    obtain ⟨ea, hea⟩ : ∃ y, erV z.V1 z.V2 z.V3 z.V5 c ((z.S.size - m : Nat) : Int) = .iface 72 y := ⟨_, rfl⟩
    rw [hea]
    have HEa := hid hea
    have HAt := hid hAt
    have HK : Hid (m ≤ z.S.size ∧ (c = 3 ∨ c = 4 ∨ c = 5)) := ⟨hm, hcc⟩
    obtain ⟨⟨d0, d1, d2⟩, f0, f1, f2⟩ := tri_cells HB3.out.2.2
    clear hm hcc hAt hea
    go_wp2
    (try simp only [Exit.inBlock, Exit.then])
    refine bodyPost_ret (results_cell_tmp1 rfl _ _ w.heap.size 24 #[.int .i64 x, .int .i64 y, .slice a n cap] (0, 0) _ rfl ((tri_set HB3.out.2.2 _ _ _).alloc _) Tryd.underlying24 rfl (by kernel_rfl)) rfl ?_
    refine ⟨_, Or.inl ⟨_, HEv.out, rfl⟩, ?_⟩
    have := (fin_err (x := x) (y := y) (a := a) (n := n) (cap := cap) HZ.out HA.out HB3.out.1 HAt.out HK.out.1 HK.out.2).alloc (.cells #[.int .i64 x, .int .i64 y, .slice a n cap] 24)
    rw [HEa.out] at this
    exact this
  | ok q =>
    obtain ⟨t, s⟩ := q
    obtain ⟨a, cap, k', rfl, hk, hc, hAt, hs⟩ := hans
    subst hs
    have HK : Hid (Kds (hi u.heap.size w3) t a ∧ t.cnt ≤ 2) := ⟨hk, hc⟩
    have HAt := hid hAt
    obtain ⟨w4, hw4⟩ : ∃ y, y = w3.alloc (.cells #[.int .i64 t.kind, .int .i64 t.num, .slice a t.cnt cap] 24) := ⟨_, rfl⟩
    have hA4 : z.At w4 k' o := by rw [hw4]; exact hAt.alloc _
    have hx4 : Tri w4 w3.heap.size (.int .i64 t.kind) (.int .i64 t.num) (.slice a t.cnt cap) := by rw [hw4]; exact tri_new _ _ _ _
    have hB4 : But z.b w3 w4 := by rw [hw4]; exact (But.refl _ _).alloc _
    have H4 : Hid (z.At w4 k' o ∧ Tri w4 w3.heap.size (.int .i64 t.kind) (.int .i64 t.num) (.slice a t.cnt cap) ∧ But z.b w3 w4) := ⟨hA4, hx4, hB4⟩
    have C2 := hid (take_any z.b z.S z.na z.N z.nc k' o [41] w4 hA4.1 hA4.2.2 HZ.out.size)
    have HE4 := hid hw4
    have hne3 : w3.heap.size ≠ z.b := by have := hAt.1.lt; omega
    have hW : Hid (∀ k2, ∀ v, z.At v k2 o → Calls Tryd.prog 36 #[.pointer (some ⟨z.b, 0, none⟩)] v fun e w' => e = .returned (erV z.V1 z.V2 z.V3 z.V5 (wrg z.N z.M (lft z.S k2)) k2) ∧ Below v.heap.size v w') := fun k2 v hv => wrong_any HZ.out.sta HZ.out.ers z.b z.S k2 o v hv.1 hv.2.1 hv.2.2 HZ.out.size
    obtain ⟨hb, hhb⟩ : ∃ y, y = hasP [41] (lft z.S k') := ⟨_, rfl⟩
    rw [← hhb] at C2
    have HHb := hid hhb
    clear hk hc hAt hA4 hx4 hB4 hw4 hhb
    go_wp2_with fail
    rw [← HE4.out]
    refine C2.out.mono ?_
    rintro e w5 ⟨rfl, k2, hk2, hl, hr, hb5⟩
    have hT5 : Tri w5 w.heap.size (.int .i64 0) (.int .i64 0) (.slice none 0 0) := (HB3.out.2.2.but H4.out.2.2 hne).but hb5 hne
    have hX5 : Tri w5 w3.heap.size (.int .i64 t.kind) (.int .i64 t.num) (.slice a t.cnt cap) := H4.out.2.1.but hb5 hne3
    have H5 : Hid (But z.b w3 w5 ∧ z.At w5 k2 o ∧ Tri w5 w.heap.size (.int .i64 0) (.int .i64 0) (.slice none 0 0) ∧ Tri w5 w3.heap.size (.int .i64 t.kind) (.int .i64 t.num) (.slice a t.cnt cap)) :=
      ⟨H4.out.2.2.trans hb5, Sp.At.but HZ.out H4.out.1 hb5 hr hk2, hT5, hX5⟩
    have HL := hid hl
    have hK5 : Kds (hi u.heap.size w5) t a := kd_keep HK.out.1 (fun j h1 h2 => H5.out.1.block j h2 (by have := HU.out.2.2; omega))
    have HK5 := hid hK5
    clear C2 hl hr hb5 hK5
    cases hb
    · have hl2 : lft z.S k2 = lft z.S k' := HL.out
      have CW := hid (hW.out k2 w5 H5.out.2.1)
      obtain ⟨ea, hea⟩ : ∃ y, erV z.V1 z.V2 z.V3 z.V5 (wrg z.N z.M (lft z.S k2)) k2 = .iface 72 y := ⟨_, rfl⟩
      rw [hea] at CW
      have HEa := hid hea
      clear hW hea
      go_wp2_with fail
      refine CW.out.mono ?_
      rintro e w6 ⟨rfl, hb6⟩
      have hT6 := hT5.below hb6 hT5.lt
      have hX6 := hX5.below hb6 hX5.lt
      obtain ⟨⟨d0, d1, d2⟩, f0, f1, f2⟩ := tri_cells hT6
      obtain ⟨⟨g0, g1, g2⟩, -⟩ := tri_cells hX6
      have HT6 := hid hT6
      have H6 : Hid (But z.b w w6 ∧ z.At w6 k2 o) := ⟨HB3.out.1.trans (H5.out.1.trans (But.of_below hb6)), H5.out.2.1.below hb6⟩
      clear CW hb6 hT5 hX5 hT6 hX6
      go_wp2
      (try simp only [Exit.inBlock, Exit.then])
      refine bodyPost_ret (results_cell_tmp1 rfl _ _ w.heap.size 24 #[.int .i64 t.kind, .int .i64 t.num, .slice a t.cnt cap] (0, 0) _ rfl (tri_set HT6.out _ _ _) Tryd.underlying24 rfl (by kernel_rfl)) rfl ?_
      refine ⟨_, Or.inr (Or.inr ⟨_, _, HEv.out, hasP_no HHb.out.symm, rfl⟩), ?_⟩
      have := fin_err (x := t.kind) (y := t.num) (a := a) (n := t.cnt) (cap := cap) (c := wrg z.N z.M (lft z.S k2)) (m := (lft z.S k2).length) HZ.out HA.out H6.out.1 H6.out.2 (by rw [lft_len]; omega) (wrg_code _ _ _)
      rw [pos_of H6.out.2.2.2, HEa.out, hl2] at this
      exact this
    · obtain ⟨r2, hr2⟩ := hasP_one HHb.out.symm
      have hl2 : lft z.S k2 = skp r2 := by
        have := HL.out
        simp only [if_true, List.length_singleton] at this
        rw [this, (lft_tail hr2).1]
      have HEv2 : Hid (Ev z.N z.M 0 .leaf (lft z.S k) o (.ok (t, 41 :: r2))) := by rw [← hr2]; exact HEv.out
      obtain ⟨⟨d0, d1, d2⟩, f0, f1, f2⟩ := tri_cells hT5
      obtain ⟨⟨g0, g1, g2⟩, -⟩ := tri_cells hX5
      have HL2 := hid hl2
      clear hW hT5 hX5 hr2 hl2
      go_wp2
      (try simp only [Exit.inBlock, Exit.then])
      refine bodyPost_ret (results_cell_tmp1 rfl _ _ w.heap.size 24 #[.int .i64 t.kind, .int .i64 t.num, .slice a t.cnt cap] (0, 0) _ rfl (tri_set H5.out.2.2.1 _ _ _) Tryd.underlying24 rfl (by kernel_rfl)) rfl ?_
      refine ⟨_, Or.inr (Or.inl ⟨_, _, HEv2.out, rfl⟩), ?_⟩
      exact fin_ok HZ.out HA.out (HB3.out.1.trans H5.out.1) H5.out.2.1 HK5.out (by have := HU.out.2.2; omega) HK.out.2 HL2.out.symm

end Go.Proofs.YtgpjlgffmlkkoaaDoor
