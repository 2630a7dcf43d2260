/- way. -/
import Derived.Test.YtgpjlgffmlkkoaaDoorSng
namespace Go.Proofs.YtgpjlgffmlkkoaaDoor
open Go.RowKit

theorem below_left {B : Nat} {u v w : World} (h : Below B u w) (e : u.heap = v.heap) (e1 : u.os = v.os) (e2 : u.tape = v.tape) (e3 : u.output = v.output) : Below B v w :=
  ⟨h.os.trans e1, h.tape.trans e2, h.output.trans e3, e ▸ h.size, fun k hk => (h.block k hk).trans (by rw [e])⟩

/-- Two Kids laid side by side, behind one more block. -/
theorem mk_tw {B : Nat} {w : World} {t t2 : Fml} {a a2 : Option Addr} {cap cap2 : Nat} (K : Int) (o1 : Obj) (h1 : Kds (hi B w) t a) (hc1 : t.cnt ≤ 2) (h2 : Kds (hi B w) t2 a2) (hc2 : t2.cnt ≤ 2) (hB : B ≤ w.heap.size) :
    Kds (hi B ((w.alloc o1).alloc (.cells #[.int .i64 t.kind, .int .i64 t.num, .slice a t.cnt cap, .int .i64 t2.kind, .int .i64 t2.num, .slice a2 t2.cnt cap2] 24))) (tw K t t2) (some ⟨w.heap.size + 1, 0, none⟩) := by
  have hk : ∀ j, B ≤ j → j < w.heap.size → ((w.alloc o1).alloc (.cells #[.int .i64 t.kind, .int .i64 t.num, .slice a t.cnt cap, .int .i64 t2.kind, .int .i64 t2.num, .slice a2 t2.cnt cap2] 24)).heap[j]? = w.heap[j]? := fun j _ hj => by
    rw [Go.Deep.blk_alloc_lt _ _ _ (by simp; omega), Go.Deep.blk_alloc_lt _ _ _ hj]
  refine kd_tw (a := a) (c := a2) (cap := cap) (cap' := cap2) (by omega) ?_ (kd_keep h1 hk) hc1 (kd_keep h2 hk) hc2
  rw [show w.heap.size + 1 = (w.alloc o1).heap.size by simp]
  exact Go.Deep.blk_alloc_new _ _

set_option maxHeartbeats 8000000 in
theorem way_any {z : Sp} (hz : z.Ok) (k : Nat) (hs : LvC z 74 4 k) (IHw : ∀ k', k < k' → k' ≤ z.S.size → LvC z 71 3 k') (hmono : ∀ k' o t s, Ev z.N z.M 4 .leaf (lft z.S k) o (.ok (t, s)) → s = lft z.S k' → k' ≤ z.S.size → k ≤ k') : LvC z 71 3 k := by
  intro o ho w h
  have HZ := hid hz
  have HA := hid h
  have hlt := h.1.lt
  have hne : w.heap.size ≠ z.b := by omega
  have HIw := hid IHw
  have HMn := hid hmono
  obtain ⟨u, hu⟩ : ∃ y, y = w.alloc (.cells #[.int .i64 0, .int .i64 0, .slice none 0 0] 24) := ⟨_, rfl⟩
  have hus : u.heap.size = w.heap.size + 1 := by rw [hu]; simp
  have hBu : But z.b w u := by rw [hu]; exact (But.refl _ _).alloc _
  have hTu : Tri u w.heap.size (.int .i64 0) (.int .i64 0) (.slice none 0 0) := by rw [hu]; exact tri_new _ _ _ _
  have hAu : z.At u k o := by rw [hu]; exact h.alloc _
  have HU : Hid (Tri u w.heap.size (.int .i64 0) (.int .i64 0) (.slice none 0 0) ∧ But z.b w u ∧ u.heap.size = w.heap.size + 1) := ⟨hTu, hBu, hus⟩
  have C := hid (hs o ho u hAu)
  have HE := hid hu
  have HP : Hid (∀ K v a c cap, Calls Tryd.prog 49 #[.int .i64 K, .slice a c cap] v fun e w' => e = .returned (.agg #[.int .i64 K, .int .i64 0, .slice a c cap]) ∧ Below v.heap.size v w') := fun K v a c cap => part_any K a c cap v
  clear hs hu hus hBu hTu h hz hAu IHw hmono
  go_enter Tryd.func71, Tryd.ntmps71
  go_wp2_with fail
  rw [← HE.out]
  refine C.out.mono ?_
  rintro e w3 ⟨r, hEv, hb3, hans⟩
  have HEv := hid hEv
  have hT3 : Tri w3 w.heap.size (.int .i64 0) (.int .i64 0) (.slice none 0 0) := HU.out.1.but hb3 hne
  have HB3 : Hid (But z.b w w3 ∧ But z.b u w3 ∧ Tri w3 w.heap.size (.int .i64 0) (.int .i64 0) (.slice none 0 0)) := ⟨HU.out.2.1.trans hb3, hb3, hT3⟩
  have hxlt := hT3.lt
  have hsz3 := hb3.size
  clear C hb3 hT3 hEv
  cases r with
  | error q =>
    obtain ⟨c, m⟩ := q
    obtain ⟨x, y, a, n, cap, k', rfl, hm, hAt, hcc⟩ := hans
    obtain ⟨ea, hea⟩ : ∃ y, erV z.V1 z.V2 z.V3 z.V5 c ((z.S.size - m : Nat) : Int) = .iface 72 y := ⟨_, rfl⟩
    rw [hea]
    have HEa := hid hea
    have HAt := hid hAt
    have HK : Hid (m ≤ z.S.size ∧ (c = 3 ∨ c = 4 ∨ c = 5)) := ⟨hm, hcc⟩
    obtain ⟨⟨d0, d1, d2⟩, f0, f1, f2⟩ := tri_cells HB3.out.2.2
    clear hm hcc hAt hea
    go_wp2
    (try simp only [Exit.inBlock, Exit.then])
    refine bodyPost_ret (results_cell_tmp1 rfl _ _ w.heap.size 24 #[.int .i64 x, .int .i64 y, .slice a n cap] (0, 0) _ rfl ((tri_set HB3.out.2.2 _ _ _).alloc _) Tryd.underlying24 rfl (by kernel_rfl)) rfl ?_
    refine ⟨_, ev3_err HEv.out, ?_⟩
    have hfin := (fin_err (x := x) (y := y) (a := a) (n := n) (cap := cap) HZ.out HA.out HB3.out.1 HAt.out HK.out.1 HK.out.2).alloc (.cells #[.int .i64 x, .int .i64 y, .slice a n cap] 24)
    rw [HEa.out] at hfin
    exact hfin
  | ok q =>
    obtain ⟨t, s⟩ := q
    obtain ⟨a, cap, k', rfl, hk, hc, hAt, hs⟩ := hans
    have hkk := HMn.out k' o t s HEv.out hs hAt.2.2
    subst hs
    obtain ⟨w4, hw4⟩ : ∃ y, y = w3.alloc (.cells #[.int .i64 t.kind, .int .i64 t.num, .slice a t.cnt cap] 24) := ⟨_, rfl⟩
    have hA4 : z.At w4 k' o := by rw [hw4]; exact hAt.alloc _
    have hx4 : Tri w4 w3.heap.size (.int .i64 t.kind) (.int .i64 t.num) (.slice a t.cnt cap) := by rw [hw4]; exact tri_new _ _ _ _
    have hB4 : But z.b w3 w4 := by rw [hw4]; exact (But.refl _ _).alloc _
    have H4 : Hid (z.At w4 k' o ∧ Tri w4 w3.heap.size (.int .i64 t.kind) (.int .i64 t.num) (.slice a t.cnt cap) ∧ But z.b w3 w4) := ⟨hA4, hx4, hB4⟩
    have HE4 := hid hw4
    have hne3 : w3.heap.size ≠ z.b := by have := hAt.1.lt; omega
    have HK : Hid (Kds (hi u.heap.size w3) t a ∧ t.cnt ≤ 2) := ⟨hk, hc⟩
    have HN : Hid (∀ (c : UInt8) v, z.At v k' o → (∀ r, lft z.S k' ≠ c :: r) → Calls Tryd.prog 48 #[.pointer (some ⟨z.b, 0, none⟩), .string (byt [c])] v fun e w' => e = .returned (.bool false) ∧ But z.b v w' ∧ z.At w' k' o) := fun c v hv hn => take_no HZ.out c hv hn
    have HY : Hid (∀ (c : UInt8) r v, z.At v k' o → lft z.S k' = c :: r → Calls Tryd.prog 48 #[.pointer (some ⟨z.b, 0, none⟩), .string (byt [c])] v fun e w' => e = .returned (.bool true) ∧ But z.b v w' ∧ ∃ k2, z.At w' k2 o ∧ lft z.S k2 = skp r ∧ k' < k2) := fun c r v hv hy => take_yes HZ.out c hv hy
    clear hk hc hAt hA4 hx4 hB4 hw4
    by_cases h85 : ∃ r, lft z.S k' = 85 :: r
    · obtain ⟨r, hy⟩ := h85
      have hnot : ∀ d : UInt8, d ≠ 85 → ∀ r, lft z.S k' ≠ d :: r := fun d hd r' hh => by rw [hy] at hh; exact hd (List.cons.inj hh).1.symm
      go_wp2_with fail
      rw [← HE4.out]
      refine (HY.out 85 r w4 H4.out.1 hy).mono ?_
      rintro e w5 ⟨rfl, hb5, k2, hA5, hl5, hk5⟩
      have H5 : Hid (But z.b w4 w5 ∧ z.At w5 k2 o ∧ lft z.S k2 = skp r ∧ k < k2) := ⟨hb5, hA5, hl5, by omega⟩
      clear hb5 hA5 hl5 hk5
      have hsz5 := H5.out.1.size
      have C5 := hid (HIw.out k2 H5.out.2.2.2 H5.out.2.1.2.2 o ho w5 H5.out.2.1)
      go_wp2_with fail
      refine C5.out.mono ?_
      rintro e w6 ⟨r6, hEv6, hb6, hans6⟩
      have hx6 : Tri w6 w3.heap.size (.int .i64 t.kind) (.int .i64 t.num) (.slice a t.cnt cap) := (H4.out.2.1.but H5.out.1 hne3).but hb6 hne3
      have hT6 : Tri w6 w.heap.size (.int .i64 0) (.int .i64 0) (.slice none 0 0) := ((HB3.out.2.2.but H4.out.2.2 hne).but H5.out.1 hne).but hb6 hne
      have hB6 : But z.b w3 w6 := H4.out.2.2.trans (H5.out.1.trans hb6)
      have HEv6 : Hid (Ev z.N z.M 3 .leaf (skp r) o r6) := by rw [← H5.out.2.2.1]; exact hEv6
      have HEvS : Hid (Ev z.N z.M 4 .leaf (lft z.S k) o (.ok (t, 85 :: r))) := by rw [← hy]; exact HEv.out
      have H6 : Hid (But z.b w w6 ∧ But z.b w3 w6 ∧ Tri w6 w.heap.size (.int .i64 0) (.int .i64 0) (.slice none 0 0) ∧ Kds (hi u.heap.size w6) t a) := ⟨HB3.out.1.trans hB6, hB6, hT6, kd_keep HK.out.1 (fun j h1 h2 => hB6.block j h2 (by have := HU.out.2.2; omega))⟩
      obtain ⟨⟨g0, g1, g2⟩, -⟩ := tri_cells hx6
      have hylt := hx6.lt
      have hxlt6 := hT6.lt
      have hsz6 := hb6.size
      have hsz4 := H4.out.2.2.size
      have HX6 := hid hx6
      clear C5 hEv6 hb6 hB6 hx6 hT6
      cases r6 with
      | error q6 =>
        obtain ⟨c6, m6⟩ := q6
        obtain ⟨x, y, a', n, cap', k6, rfl, hm, hAt, hcc⟩ := hans6
        obtain ⟨ea, hea⟩ : ∃ y, erV z.V1 z.V2 z.V3 z.V5 c6 ((z.S.size - m6 : Nat) : Int) = .iface 72 y := ⟨_, rfl⟩
        rw [hea]
        have HEa := hid hea
        have HKe : Hid (m6 ≤ z.S.size ∧ (c6 = 3 ∨ c6 = 4 ∨ c6 = 5)) := ⟨hm, hcc⟩
        obtain ⟨w7, hw7⟩ : ∃ y', y' = (w6.alloc (.cells #[.int .i64 x, .int .i64 y, .slice a' n cap'] 24)).alloc (.cells #[.int .i64 t.kind, .int .i64 t.num, .slice a t.cnt cap, .int .i64 x, .int .i64 y, .slice a' n cap'] 24) := ⟨_, rfl⟩
        have H7 : Hid (z.At w7 k6 o ∧ But z.b w w7 ∧ Tri w7 w.heap.size (.int .i64 0) (.int .i64 0) (.slice none 0 0)) := by
          rw [hw7]
          exact ⟨(hAt.alloc _).alloc _, (H6.out.1.alloc _).alloc _, (H6.out.2.2.1.alloc _).alloc _⟩
        have HE7 := hid hw7
        clear hm hcc hAt hea hw7
        go_wp2_with fail
        rw [← HE7.out]
        refine (HP.out _ _ _ _ _).mono ?_
        rintro e w8 ⟨rfl, hb8⟩
        have hT8 := H7.out.2.2.below hb8 H7.out.2.2.lt
        obtain ⟨⟨d0, d1, d2⟩, f0, f1, f2⟩ := tri_cells hT8
        have H8 : Hid (z.At w8 k6 o ∧ But z.b w w8 ∧ Tri w8 w.heap.size (.int .i64 0) (.int .i64 0) (.slice none 0 0)) := ⟨H7.out.1.below hb8, H7.out.2.1.trans (But.of_below hb8), hT8⟩
        clear hb8 hT8 g0 g1 g2
        go_wp2
        (try simp only [Exit.inBlock, Exit.then])
        refine bodyPost_ret (results_cell_tmp1 rfl _ _ w.heap.size 24 #[.int .i64 8, .int .i64 0, .slice _ 2 2] (0, 0) _ rfl (tri_set H8.out.2.2 _ _ _) Tryd.underlying24 rfl (by kernel_rfl)) rfl ?_
        have hfin := fin_err (x := 8) (y := 0) (a := some ⟨w6.heap.size + 1, 0, none⟩) (n := 2) (cap := 2) HZ.out HA.out H8.out.2.1 H8.out.1 HKe.out.1 HKe.out.2
        rw [HEa.out] at hfin
        exact ⟨_, ev3_u_err HEvS.out HEv6.out, hfin⟩
      | ok q6 =>
        obtain ⟨t2, s2⟩ := q6
        obtain ⟨a2, cap2, k6, rfl, hk6, hc6, hAt, hs6⟩ := hans6
        subst hs6
        obtain ⟨w7, hw7⟩ : ∃ y', y' = (w6.alloc (.cells #[.int .i64 t2.kind, .int .i64 t2.num, .slice a2 t2.cnt cap2] 24)).alloc (.cells #[.int .i64 t.kind, .int .i64 t.num, .slice a t.cnt cap, .int .i64 t2.kind, .int .i64 t2.num, .slice a2 t2.cnt cap2] 24) := ⟨_, rfl⟩
        have hk7 : Kds (hi u.heap.size w7) (tw 8 t t2) (some ⟨w6.heap.size + 1, 0, none⟩) := by
          rw [hw7]
          exact mk_tw 8 _ H6.out.2.2.2 HK.out.2 (kd_mono hk6 (by have := HU.out.2.2; omega)) hc6 (by have := HU.out.2.2; omega)
        have H7 : Hid (z.At w7 k6 o ∧ But z.b w w7 ∧ Tri w7 w.heap.size (.int .i64 0) (.int .i64 0) (.slice none 0 0) ∧ Kds (hi u.heap.size w7) (tw 8 t t2) (some ⟨w6.heap.size + 1, 0, none⟩)) := by
          refine ⟨?_, ?_, ?_, hk7⟩
          · rw [hw7]; exact (hAt.alloc _).alloc _
          · rw [hw7]; exact (H6.out.1.alloc _).alloc _
          · rw [hw7]; exact (H6.out.2.2.1.alloc _).alloc _
        have HE7 := hid hw7
        clear hk6 hc6 hAt hw7 hk7
        go_wp2_with fail
        rw [← HE7.out]
        refine (HP.out _ _ _ _ _).mono ?_
        rintro e w8 ⟨rfl, hb8⟩
        have hT8 := H7.out.2.2.1.below hb8 H7.out.2.2.1.lt
        obtain ⟨⟨d0, d1, d2⟩, f0, f1, f2⟩ := tri_cells hT8
        have H8 : Hid (z.At w8 k6 o ∧ But z.b w w8 ∧ Tri w8 w.heap.size (.int .i64 0) (.int .i64 0) (.slice none 0 0) ∧ Kds (hi u.heap.size w8) (tw 8 t t2) (some ⟨w6.heap.size + 1, 0, none⟩)) :=
          ⟨H7.out.1.below hb8, H7.out.2.1.trans (But.of_below hb8), hT8, kd_keep H7.out.2.2.2 (fun j _ h2 => hb8.block j h2)⟩
        clear hb8 hT8 g0 g1 g2
        go_wp2
        (try simp only [Exit.inBlock, Exit.then])
        refine bodyPost_ret (results_cell_tmp1 rfl _ _ w.heap.size 24 #[.int .i64 8, .int .i64 0, .slice _ 2 2] (0, 0) _ rfl (tri_set H8.out.2.2.1 _ _ _) Tryd.underlying24 rfl (by kernel_rfl)) rfl ?_
        exact ⟨_, ev3_u HEvS.out HEv6.out, fin_ok (t := tw 8 t t2) (cap := 2) (s := lft z.S k6) HZ.out HA.out H8.out.2.1 H8.out.1 H8.out.2.2.2 (by have := HU.out.2.2; omega) (by show 2 ≤ 2; omega) rfl⟩
    by_cases h82 : ∃ r, lft z.S k' = 82 :: r
    · obtain ⟨r, hy⟩ := h82
      have hnot : ∀ d : UInt8, d ≠ 82 → ∀ r, lft z.S k' ≠ d :: r := fun d hd r' hh => by rw [hy] at hh; exact hd (List.cons.inj hh).1.symm
      go_wp2_with fail
      rw [← HE4.out]
      refine (HN.out 85 w4 H4.out.1 (hnot 85 (by decide))).mono ?_
      rintro e v0 ⟨rfl, hb0, ha0⟩
      have Hv0 : Hid (But z.b w4 v0 ∧ z.At v0 k' o) := ⟨hb0, ha0⟩
      clear hb0 ha0
      go_wp2_with fail
      refine (HY.out 82 r v0 Hv0.out.2 hy).mono ?_
      rintro e w5 ⟨rfl, hb5, k2, hA5, hl5, hk5⟩
      have H5 : Hid (But z.b w4 w5 ∧ z.At w5 k2 o ∧ lft z.S k2 = skp r ∧ k < k2) := ⟨Hv0.out.1.trans hb5, hA5, hl5, by omega⟩
      clear hb5 hA5 hl5 hk5
      have hsz5 := H5.out.1.size
      have C5 := hid (HIw.out k2 H5.out.2.2.2 H5.out.2.1.2.2 o ho w5 H5.out.2.1)
      go_wp2_with fail
      refine C5.out.mono ?_
      rintro e w6 ⟨r6, hEv6, hb6, hans6⟩
      have hx6 : Tri w6 w3.heap.size (.int .i64 t.kind) (.int .i64 t.num) (.slice a t.cnt cap) := (H4.out.2.1.but H5.out.1 hne3).but hb6 hne3
      have hT6 : Tri w6 w.heap.size (.int .i64 0) (.int .i64 0) (.slice none 0 0) := ((HB3.out.2.2.but H4.out.2.2 hne).but H5.out.1 hne).but hb6 hne
      have hB6 : But z.b w3 w6 := H4.out.2.2.trans (H5.out.1.trans hb6)
      have HEv6 : Hid (Ev z.N z.M 3 .leaf (skp r) o r6) := by rw [← H5.out.2.2.1]; exact hEv6
      have HEvS : Hid (Ev z.N z.M 4 .leaf (lft z.S k) o (.ok (t, 82 :: r))) := by rw [← hy]; exact HEv.out
      have H6 : Hid (But z.b w w6 ∧ But z.b w3 w6 ∧ Tri w6 w.heap.size (.int .i64 0) (.int .i64 0) (.slice none 0 0) ∧ Kds (hi u.heap.size w6) t a) := ⟨HB3.out.1.trans hB6, hB6, hT6, kd_keep HK.out.1 (fun j h1 h2 => hB6.block j h2 (by have := HU.out.2.2; omega))⟩
      obtain ⟨⟨g0, g1, g2⟩, -⟩ := tri_cells hx6
      have hylt := hx6.lt
      have hxlt6 := hT6.lt
      have hsz6 := hb6.size
      have hsz4 := H4.out.2.2.size
      have HX6 := hid hx6
      clear C5 hEv6 hb6 hB6 hx6 hT6
      cases r6 with
      | error q6 =>
        obtain ⟨c6, m6⟩ := q6
        obtain ⟨x, y, a', n, cap', k6, rfl, hm, hAt, hcc⟩ := hans6
        obtain ⟨ea, hea⟩ : ∃ y, erV z.V1 z.V2 z.V3 z.V5 c6 ((z.S.size - m6 : Nat) : Int) = .iface 72 y := ⟨_, rfl⟩
        rw [hea]
        have HEa := hid hea
        have HKe : Hid (m6 ≤ z.S.size ∧ (c6 = 3 ∨ c6 = 4 ∨ c6 = 5)) := ⟨hm, hcc⟩
        obtain ⟨w7, hw7⟩ : ∃ y', y' = (w6.alloc (.cells #[.int .i64 x, .int .i64 y, .slice a' n cap'] 24)).alloc (.cells #[.int .i64 t.kind, .int .i64 t.num, .slice a t.cnt cap, .int .i64 x, .int .i64 y, .slice a' n cap'] 24) := ⟨_, rfl⟩
        have H7 : Hid (z.At w7 k6 o ∧ But z.b w w7 ∧ Tri w7 w.heap.size (.int .i64 0) (.int .i64 0) (.slice none 0 0)) := by
          rw [hw7]
          exact ⟨(hAt.alloc _).alloc _, (H6.out.1.alloc _).alloc _, (H6.out.2.2.1.alloc _).alloc _⟩
        have HE7 := hid hw7
        clear hm hcc hAt hea hw7
        go_wp2_with fail
        rw [← HE7.out]
        refine (HP.out _ _ _ _ _).mono ?_
        rintro e w8 ⟨rfl, hb8⟩
        have hT8 := H7.out.2.2.below hb8 H7.out.2.2.lt
        obtain ⟨⟨d0, d1, d2⟩, f0, f1, f2⟩ := tri_cells hT8
        have H8 : Hid (z.At w8 k6 o ∧ But z.b w w8 ∧ Tri w8 w.heap.size (.int .i64 0) (.int .i64 0) (.slice none 0 0)) := ⟨H7.out.1.below hb8, H7.out.2.1.trans (But.of_below hb8), hT8⟩
        clear hb8 hT8 g0 g1 g2
        go_wp2
        (try simp only [Exit.inBlock, Exit.then])
        refine bodyPost_ret (results_cell_tmp1 rfl _ _ w.heap.size 24 #[.int .i64 9, .int .i64 0, .slice _ 2 2] (0, 0) _ rfl (tri_set H8.out.2.2 _ _ _) Tryd.underlying24 rfl (by kernel_rfl)) rfl ?_
        have hfin := fin_err (x := 9) (y := 0) (a := some ⟨w6.heap.size + 1, 0, none⟩) (n := 2) (cap := 2) HZ.out HA.out H8.out.2.1 H8.out.1 HKe.out.1 HKe.out.2
        rw [HEa.out] at hfin
        exact ⟨_, ev3_r_err HEvS.out HEv6.out, hfin⟩
      | ok q6 =>
        obtain ⟨t2, s2⟩ := q6
        obtain ⟨a2, cap2, k6, rfl, hk6, hc6, hAt, hs6⟩ := hans6
        subst hs6
        obtain ⟨w7, hw7⟩ : ∃ y', y' = (w6.alloc (.cells #[.int .i64 t2.kind, .int .i64 t2.num, .slice a2 t2.cnt cap2] 24)).alloc (.cells #[.int .i64 t.kind, .int .i64 t.num, .slice a t.cnt cap, .int .i64 t2.kind, .int .i64 t2.num, .slice a2 t2.cnt cap2] 24) := ⟨_, rfl⟩
        have hk7 : Kds (hi u.heap.size w7) (tw 9 t t2) (some ⟨w6.heap.size + 1, 0, none⟩) := by
          rw [hw7]
          exact mk_tw 9 _ H6.out.2.2.2 HK.out.2 (kd_mono hk6 (by have := HU.out.2.2; omega)) hc6 (by have := HU.out.2.2; omega)
        have H7 : Hid (z.At w7 k6 o ∧ But z.b w w7 ∧ Tri w7 w.heap.size (.int .i64 0) (.int .i64 0) (.slice none 0 0) ∧ Kds (hi u.heap.size w7) (tw 9 t t2) (some ⟨w6.heap.size + 1, 0, none⟩)) := by
          refine ⟨?_, ?_, ?_, hk7⟩
          · rw [hw7]; exact (hAt.alloc _).alloc _
          · rw [hw7]; exact (H6.out.1.alloc _).alloc _
          · rw [hw7]; exact (H6.out.2.2.1.alloc _).alloc _
        have HE7 := hid hw7
        clear hk6 hc6 hAt hw7 hk7
        go_wp2_with fail
        rw [← HE7.out]
        refine (HP.out _ _ _ _ _).mono ?_
        rintro e w8 ⟨rfl, hb8⟩
        have hT8 := H7.out.2.2.1.below hb8 H7.out.2.2.1.lt
        obtain ⟨⟨d0, d1, d2⟩, f0, f1, f2⟩ := tri_cells hT8
        have H8 : Hid (z.At w8 k6 o ∧ But z.b w w8 ∧ Tri w8 w.heap.size (.int .i64 0) (.int .i64 0) (.slice none 0 0) ∧ Kds (hi u.heap.size w8) (tw 9 t t2) (some ⟨w6.heap.size + 1, 0, none⟩)) :=
          ⟨H7.out.1.below hb8, H7.out.2.1.trans (But.of_below hb8), hT8, kd_keep H7.out.2.2.2 (fun j _ h2 => hb8.block j h2)⟩
        clear hb8 hT8 g0 g1 g2
        go_wp2
        (try simp only [Exit.inBlock, Exit.then])
        refine bodyPost_ret (results_cell_tmp1 rfl _ _ w.heap.size 24 #[.int .i64 9, .int .i64 0, .slice _ 2 2] (0, 0) _ rfl (tri_set H8.out.2.2.1 _ _ _) Tryd.underlying24 rfl (by kernel_rfl)) rfl ?_
        exact ⟨_, ev3_r HEvS.out HEv6.out, fin_ok (t := tw 9 t t2) (cap := 2) (s := lft z.S k6) HZ.out HA.out H8.out.2.1 H8.out.1 H8.out.2.2.2 (by have := HU.out.2.2; omega) (by show 2 ≤ 2; omega) rfl⟩
    by_cases h87 : ∃ r, lft z.S k' = 87 :: r
    · obtain ⟨r, hy⟩ := h87
      have hnot : ∀ d : UInt8, d ≠ 87 → ∀ r, lft z.S k' ≠ d :: r := fun d hd r' hh => by rw [hy] at hh; exact hd (List.cons.inj hh).1.symm
      go_wp2_with fail
      rw [← HE4.out]
      refine (HN.out 85 w4 H4.out.1 (hnot 85 (by decide))).mono ?_
      rintro e v0 ⟨rfl, hb0, ha0⟩
      have Hv0 : Hid (But z.b w4 v0 ∧ z.At v0 k' o) := ⟨hb0, ha0⟩
      clear hb0 ha0
      go_wp2_with fail
      refine (HN.out 82 v0 Hv0.out.2 (hnot 82 (by decide))).mono ?_
      rintro e v1 ⟨rfl, hb1, ha1⟩
      have Hv1 : Hid (But z.b w4 v1 ∧ z.At v1 k' o) := ⟨Hv0.out.1.trans hb1, ha1⟩
      clear hb1 ha1
      go_wp2_with fail
      refine (HY.out 87 r v1 Hv1.out.2 hy).mono ?_
      rintro e w5 ⟨rfl, hb5, k2, hA5, hl5, hk5⟩
      have H5 : Hid (But z.b w4 w5 ∧ z.At w5 k2 o ∧ lft z.S k2 = skp r ∧ k < k2) := ⟨Hv1.out.1.trans hb5, hA5, hl5, by omega⟩
      clear hb5 hA5 hl5 hk5
      have hsz5 := H5.out.1.size
      have C5 := hid (HIw.out k2 H5.out.2.2.2 H5.out.2.1.2.2 o ho w5 H5.out.2.1)
      go_wp2_with fail
      refine C5.out.mono ?_
      rintro e w6 ⟨r6, hEv6, hb6, hans6⟩
      have hx6 : Tri w6 w3.heap.size (.int .i64 t.kind) (.int .i64 t.num) (.slice a t.cnt cap) := (H4.out.2.1.but H5.out.1 hne3).but hb6 hne3
      have hT6 : Tri w6 w.heap.size (.int .i64 0) (.int .i64 0) (.slice none 0 0) := ((HB3.out.2.2.but H4.out.2.2 hne).but H5.out.1 hne).but hb6 hne
      have hB6 : But z.b w3 w6 := H4.out.2.2.trans (H5.out.1.trans hb6)
      have HEv6 : Hid (Ev z.N z.M 3 .leaf (skp r) o r6) := by rw [← H5.out.2.2.1]; exact hEv6
      have HEvS : Hid (Ev z.N z.M 4 .leaf (lft z.S k) o (.ok (t, 87 :: r))) := by rw [← hy]; exact HEv.out
      have H6 : Hid (But z.b w w6 ∧ But z.b w3 w6 ∧ Tri w6 w.heap.size (.int .i64 0) (.int .i64 0) (.slice none 0 0) ∧ Kds (hi u.heap.size w6) t a) := ⟨HB3.out.1.trans hB6, hB6, hT6, kd_keep HK.out.1 (fun j h1 h2 => hB6.block j h2 (by have := HU.out.2.2; omega))⟩
      obtain ⟨⟨g0, g1, g2⟩, -⟩ := tri_cells hx6
      have hylt := hx6.lt
      have hxlt6 := hT6.lt
      have hsz6 := hb6.size
      have hsz4 := H4.out.2.2.size
      have HX6 := hid hx6
      clear C5 hEv6 hb6 hB6 hx6 hT6
      cases r6 with
      | error q6 =>
        obtain ⟨c6, m6⟩ := q6
        obtain ⟨x, y, a', n, cap', k6, rfl, hm, hAt, hcc⟩ := hans6
        obtain ⟨ea, hea⟩ : ∃ y, erV z.V1 z.V2 z.V3 z.V5 c6 ((z.S.size - m6 : Nat) : Int) = .iface 72 y := ⟨_, rfl⟩
        rw [hea]
        have HEa := hid hea
        have HKe : Hid (m6 ≤ z.S.size ∧ (c6 = 3 ∨ c6 = 4 ∨ c6 = 5)) := ⟨hm, hcc⟩
        have hnA : w.heap.size ≠ w6.heap.size := by omega
        have hnB : w.heap.size ≠ w3.heap.size := by omega
        obtain ⟨w7, hw7⟩ : ∃ y', y' = w6.alloc (.cells #[.int .i64 x, .int .i64 y, .slice a' n cap'] 24) := ⟨_, rfl⟩
        have hs7 : w7.heap.size = w6.heap.size + 1 := by rw [hw7]; simp
        have hp7 : Tri w7 w6.heap.size (.int .i64 x) (.int .i64 y) (.slice a' n cap') := by rw [hw7]; exact tri_new _ _ _ _
        have hq7 : Tri w7 w3.heap.size (.int .i64 t.kind) (.int .i64 t.num) (.slice a t.cnt cap) := by rw [hw7]; exact HX6.out.alloc _
        have H7 : Hid (z.At w7 k6 o ∧ But z.b w w7 ∧ Tri w7 w.heap.size (.int .i64 0) (.int .i64 0) (.slice none 0 0) ∧ Tri w7 w6.heap.size (.int .i64 x) (.int .i64 y) (.slice a' n cap') ∧ Tri w7 w3.heap.size (.int .i64 t.kind) (.int .i64 t.num) (.slice a t.cnt cap) ∧ w7.heap.size = w6.heap.size + 1) := by
          refine ⟨?_, ?_, ?_, hp7, hq7, hs7⟩
          · rw [hw7]; exact hAt.alloc _
          · rw [hw7]; exact H6.out.1.alloc _
          · rw [hw7]; exact H6.out.2.2.1.alloc _
        have HE7 := hid hw7
        obtain ⟨⟨p0, p1, p2⟩, -⟩ := tri_cells hp7
        obtain ⟨⟨r0, r1, r2⟩, -⟩ := tri_cells hq7
        clear hAt hw7 hp7 hq7 g0 g1 g2 hm hcc hea
        go_wp2
        rw [← HE7.out]
        go_region_held3 (fun v => (v.cell? ⟨w6.heap.size, 0, none⟩ = some (.int .i64 x) ∧ v.cell? ⟨w6.heap.size, 1, none⟩ = some (.int .i64 y) ∧ v.cell? ⟨w6.heap.size, 2, none⟩ = some (.slice a' n cap')) ∧ v.cell? ⟨w3.heap.size, 0, none⟩ = some (.int .i64 t.kind) ∧ v.cell? ⟨w3.heap.size, 1, none⟩ = some (.int .i64 t.num) ∧ v.cell? ⟨w3.heap.size, 2, none⟩ = some (.slice a t.cnt cap)) (first | go_keep)
          (first
            | (go_at_call_of 49 (Value.int .i64 6); refine (HP.out _ _ _ _ _).mono ?_; rintro e w8 ⟨rfl, hb8⟩; have hb8' : Below (w7.alloc (.cells #[.int .i64 t.kind, .int .i64 t.num, .slice a t.cnt cap, .int .i64 x, .int .i64 y, .slice a' n cap'] 24)).heap.size (w7.alloc (.cells #[.int .i64 t.kind, .int .i64 t.num, .slice a t.cnt cap, .int .i64 x, .int .i64 y, .slice a' n cap'] 24)) w8 := below_left hb8 rfl rfl rfl rfl; have hp8 := (H7.out.2.2.2.1.alloc (.cells #[.int .i64 t.kind, .int .i64 t.num, .slice a t.cnt cap, .int .i64 x, .int .i64 y, .slice a' n cap'] 24)).below hb8' (H7.out.2.2.2.1.alloc (.cells #[.int .i64 t.kind, .int .i64 t.num, .slice a t.cnt cap, .int .i64 x, .int .i64 y, .slice a' n cap'] 24)).lt; have hq8 := (H7.out.2.2.2.2.1.alloc (.cells #[.int .i64 t.kind, .int .i64 t.num, .slice a t.cnt cap, .int .i64 x, .int .i64 y, .slice a' n cap'] 24)).below hb8' (H7.out.2.2.2.2.1.alloc (.cells #[.int .i64 t.kind, .int .i64 t.num, .slice a t.cnt cap, .int .i64 x, .int .i64 y, .slice a' n cap'] 24)).lt; obtain ⟨⟨s0, s1, s2⟩, -⟩ := tri_cells hp8; obtain ⟨⟨t0, t1, t3⟩, -⟩ := tri_cells hq8; have hz8 : w7.heap.size + 1 ≤ w8.heap.size := (by have := hb8'.size; simpa using this); have hn1 := hp8.lt; have hn2 := hq8.lt)
            | (go_at_call_of 49 (Value.int .i64 9); refine (HP.out _ _ _ _ _).mono ?_; rintro e w9 ⟨rfl, hb9⟩; have hb9' : Below (w8.alloc (.cells #[.int .i64 x, .int .i64 y, .slice a' n cap', .int .i64 6, .int .i64 0, .slice (some ⟨w6.heap.size + 1, 0, none⟩) 2 2] 24)).heap.size (w8.alloc (.cells #[.int .i64 x, .int .i64 y, .slice a' n cap', .int .i64 6, .int .i64 0, .slice (some ⟨w6.heap.size + 1, 0, none⟩) 2 2] 24)) w9 := below_left hb9 rfl rfl rfl rfl; have hp9 := (hp8.alloc (.cells #[.int .i64 x, .int .i64 y, .slice a' n cap', .int .i64 6, .int .i64 0, .slice (some ⟨w6.heap.size + 1, 0, none⟩) 2 2] 24)).below hb9' (hp8.alloc (.cells #[.int .i64 x, .int .i64 y, .slice a' n cap', .int .i64 6, .int .i64 0, .slice (some ⟨w6.heap.size + 1, 0, none⟩) 2 2] 24)).lt; have hq9 := (hq8.alloc (.cells #[.int .i64 x, .int .i64 y, .slice a' n cap', .int .i64 6, .int .i64 0, .slice (some ⟨w6.heap.size + 1, 0, none⟩) 2 2] 24)).below hb9' (hq8.alloc (.cells #[.int .i64 x, .int .i64 y, .slice a' n cap', .int .i64 6, .int .i64 0, .slice (some ⟨w6.heap.size + 1, 0, none⟩) 2 2] 24)).lt; obtain ⟨⟨u0, u1, u2⟩, -⟩ := tri_cells hp9; obtain ⟨⟨v0', v1', v2'⟩, -⟩ := tri_cells hq9; have hT9 := (((H7.out.2.2.1.alloc (.cells #[.int .i64 t.kind, .int .i64 t.num, .slice a t.cnt cap, .int .i64 x, .int .i64 y, .slice a' n cap'] 24)).below hb8' (H7.out.2.2.1.alloc (.cells #[.int .i64 t.kind, .int .i64 t.num, .slice a t.cnt cap, .int .i64 x, .int .i64 y, .slice a' n cap'] 24)).lt).alloc (.cells #[.int .i64 x, .int .i64 y, .slice a' n cap', .int .i64 6, .int .i64 0, .slice (some ⟨w6.heap.size + 1, 0, none⟩) 2 2] 24)).below hb9' (((H7.out.2.2.1.alloc (.cells #[.int .i64 t.kind, .int .i64 t.num, .slice a t.cnt cap, .int .i64 x, .int .i64 y, .slice a' n cap'] 24)).below hb8' (H7.out.2.2.1.alloc (.cells #[.int .i64 t.kind, .int .i64 t.num, .slice a t.cnt cap, .int .i64 x, .int .i64 y, .slice a' n cap'] 24)).lt).alloc (.cells #[.int .i64 x, .int .i64 y, .slice a' n cap', .int .i64 6, .int .i64 0, .slice (some ⟨w6.heap.size + 1, 0, none⟩) 2 2] 24)).lt; obtain ⟨⟨d0, d1, d2⟩, f0, f1, f2⟩ := tri_cells hT9)
            | fail)
        have H9 : Hid (z.At w9 k6 o ∧ But z.b w w9 ∧ Tri w9 w.heap.size (.int .i64 0) (.int .i64 0) (.slice none 0 0)) := ⟨(((H7.out.1.alloc _).below hb8').alloc _).below hb9', (((H7.out.2.1.alloc _).trans (But.of_below hb8')).alloc _).trans (But.of_below hb9'), hT9⟩
        clear hb8 hb8' hb9 hb9' hT9 hp8 hq8 hp9 hq9 s0 s1 s2 t0 t1 t3 u0 u1 u2 v0' v1' v2' p0 p1 p2 r0 r1 r2
        go_wp2
        (try simp only [Exit.inBlock, Exit.then])
        refine bodyPost_ret (results_cell_tmp1 rfl _ _ w.heap.size 24 #[.int .i64 9, .int .i64 0, .slice _ 2 2] (0, 0) _ rfl (tri_set H9.out.2.2 _ _ _) Tryd.underlying24 rfl (by kernel_rfl)) rfl ?_
        have hfin := fin_err (x := 9) (y := 0) (a := some ⟨w8.heap.size, 0, none⟩) (n := 2) (cap := 2) HZ.out HA.out H9.out.2.1 H9.out.1 HKe.out.1 HKe.out.2
        rw [HEa.out] at hfin
        refine ⟨_, ev3_w_err HEvS.out HEv6.out, ?_⟩
        first | exact hfin | exact ⟨hfin.1.drewN 1, hfin.2⟩
      | ok q6 =>
        obtain ⟨t2, s2⟩ := q6
        obtain ⟨a2, cap2, k6, rfl, hk6, hc6, hAt, hs6⟩ := hans6
        subst hs6
        have hnA : w.heap.size ≠ w6.heap.size := by omega
        have hnB : w.heap.size ≠ w3.heap.size := by omega
        obtain ⟨w7, hw7⟩ : ∃ y', y' = w6.alloc (.cells #[.int .i64 t2.kind, .int .i64 t2.num, .slice a2 t2.cnt cap2] 24) := ⟨_, rfl⟩
        have hs7 : w7.heap.size = w6.heap.size + 1 := by rw [hw7]; simp
        have hp7 : Tri w7 w6.heap.size (.int .i64 t2.kind) (.int .i64 t2.num) (.slice a2 t2.cnt cap2) := by rw [hw7]; exact tri_new _ _ _ _
        have hq7 : Tri w7 w3.heap.size (.int .i64 t.kind) (.int .i64 t.num) (.slice a t.cnt cap) := by rw [hw7]; exact HX6.out.alloc _
        have H7 : Hid (z.At w7 k6 o ∧ But z.b w w7 ∧ Tri w7 w.heap.size (.int .i64 0) (.int .i64 0) (.slice none 0 0) ∧ Tri w7 w6.heap.size (.int .i64 t2.kind) (.int .i64 t2.num) (.slice a2 t2.cnt cap2) ∧ Tri w7 w3.heap.size (.int .i64 t.kind) (.int .i64 t.num) (.slice a t.cnt cap) ∧ w7.heap.size = w6.heap.size + 1) := by
          refine ⟨?_, ?_, ?_, hp7, hq7, hs7⟩
          · rw [hw7]; exact hAt.alloc _
          · rw [hw7]; exact H6.out.1.alloc _
          · rw [hw7]; exact H6.out.2.2.1.alloc _
        have HK2 : Hid (Kds (hi u.heap.size w6) t2 a2 ∧ t2.cnt ≤ 2) := ⟨kd_mono hk6 (by have := HU.out.2.2; omega), hc6⟩
        have HKt : Hid (Kds (hi u.heap.size (w7.alloc (.cells #[.int .i64 t.kind, .int .i64 t.num, .slice a t.cnt cap, .int .i64 t2.kind, .int .i64 t2.num, .slice a2 t2.cnt cap2] 24))) (tw 6 t t2) (some ⟨w6.heap.size + 1, 0, none⟩)) := by
          rw [hw7]
          exact mk_tw 6 _ H6.out.2.2.2 HK.out.2 HK2.out.1 HK2.out.2 (by have := HU.out.2.2; omega)
        have HE7 := hid hw7
        obtain ⟨⟨p0, p1, p2⟩, -⟩ := tri_cells hp7
        obtain ⟨⟨r0, r1, r2⟩, -⟩ := tri_cells hq7
        clear hAt hw7 hp7 hq7 g0 g1 g2 hk6 hc6
        go_wp2
        rw [← HE7.out]
        go_region_held3 (fun v => (v.cell? ⟨w6.heap.size, 0, none⟩ = some (.int .i64 t2.kind) ∧ v.cell? ⟨w6.heap.size, 1, none⟩ = some (.int .i64 t2.num) ∧ v.cell? ⟨w6.heap.size, 2, none⟩ = some (.slice a2 t2.cnt cap2)) ∧ v.cell? ⟨w3.heap.size, 0, none⟩ = some (.int .i64 t.kind) ∧ v.cell? ⟨w3.heap.size, 1, none⟩ = some (.int .i64 t.num) ∧ v.cell? ⟨w3.heap.size, 2, none⟩ = some (.slice a t.cnt cap)) (first | go_keep)
          (first
            | (go_at_call_of 49 (Value.int .i64 6); refine (HP.out _ _ _ _ _).mono ?_; rintro e w8 ⟨rfl, hb8⟩; have hb8' : Below (w7.alloc (.cells #[.int .i64 t.kind, .int .i64 t.num, .slice a t.cnt cap, .int .i64 t2.kind, .int .i64 t2.num, .slice a2 t2.cnt cap2] 24)).heap.size (w7.alloc (.cells #[.int .i64 t.kind, .int .i64 t.num, .slice a t.cnt cap, .int .i64 t2.kind, .int .i64 t2.num, .slice a2 t2.cnt cap2] 24)) w8 := below_left hb8 rfl rfl rfl rfl; have hp8 := (H7.out.2.2.2.1.alloc (.cells #[.int .i64 t.kind, .int .i64 t.num, .slice a t.cnt cap, .int .i64 t2.kind, .int .i64 t2.num, .slice a2 t2.cnt cap2] 24)).below hb8' (H7.out.2.2.2.1.alloc (.cells #[.int .i64 t.kind, .int .i64 t.num, .slice a t.cnt cap, .int .i64 t2.kind, .int .i64 t2.num, .slice a2 t2.cnt cap2] 24)).lt; have hq8 := (H7.out.2.2.2.2.1.alloc (.cells #[.int .i64 t.kind, .int .i64 t.num, .slice a t.cnt cap, .int .i64 t2.kind, .int .i64 t2.num, .slice a2 t2.cnt cap2] 24)).below hb8' (H7.out.2.2.2.2.1.alloc (.cells #[.int .i64 t.kind, .int .i64 t.num, .slice a t.cnt cap, .int .i64 t2.kind, .int .i64 t2.num, .slice a2 t2.cnt cap2] 24)).lt; obtain ⟨⟨s0, s1, s2⟩, -⟩ := tri_cells hp8; obtain ⟨⟨t0, t1, t3⟩, -⟩ := tri_cells hq8; have hz8 : w7.heap.size + 1 ≤ w8.heap.size := (by have := hb8'.size; simpa using this); have hn1 := hp8.lt; have hn2 := hq8.lt)
            | (go_at_call_of 49 (Value.int .i64 9); refine (HP.out _ _ _ _ _).mono ?_; rintro e w9 ⟨rfl, hb9⟩; have hb9' : Below (w8.alloc (.cells #[.int .i64 t2.kind, .int .i64 t2.num, .slice a2 t2.cnt cap2, .int .i64 6, .int .i64 0, .slice (some ⟨w6.heap.size + 1, 0, none⟩) 2 2] 24)).heap.size (w8.alloc (.cells #[.int .i64 t2.kind, .int .i64 t2.num, .slice a2 t2.cnt cap2, .int .i64 6, .int .i64 0, .slice (some ⟨w6.heap.size + 1, 0, none⟩) 2 2] 24)) w9 := below_left hb9 rfl rfl rfl rfl; have hp9 := (hp8.alloc (.cells #[.int .i64 t2.kind, .int .i64 t2.num, .slice a2 t2.cnt cap2, .int .i64 6, .int .i64 0, .slice (some ⟨w6.heap.size + 1, 0, none⟩) 2 2] 24)).below hb9' (hp8.alloc (.cells #[.int .i64 t2.kind, .int .i64 t2.num, .slice a2 t2.cnt cap2, .int .i64 6, .int .i64 0, .slice (some ⟨w6.heap.size + 1, 0, none⟩) 2 2] 24)).lt; have hq9 := (hq8.alloc (.cells #[.int .i64 t2.kind, .int .i64 t2.num, .slice a2 t2.cnt cap2, .int .i64 6, .int .i64 0, .slice (some ⟨w6.heap.size + 1, 0, none⟩) 2 2] 24)).below hb9' (hq8.alloc (.cells #[.int .i64 t2.kind, .int .i64 t2.num, .slice a2 t2.cnt cap2, .int .i64 6, .int .i64 0, .slice (some ⟨w6.heap.size + 1, 0, none⟩) 2 2] 24)).lt; obtain ⟨⟨u0, u1, u2⟩, -⟩ := tri_cells hp9; obtain ⟨⟨v0', v1', v2'⟩, -⟩ := tri_cells hq9; have hT9 := (((H7.out.2.2.1.alloc (.cells #[.int .i64 t.kind, .int .i64 t.num, .slice a t.cnt cap, .int .i64 t2.kind, .int .i64 t2.num, .slice a2 t2.cnt cap2] 24)).below hb8' (H7.out.2.2.1.alloc (.cells #[.int .i64 t.kind, .int .i64 t.num, .slice a t.cnt cap, .int .i64 t2.kind, .int .i64 t2.num, .slice a2 t2.cnt cap2] 24)).lt).alloc (.cells #[.int .i64 t2.kind, .int .i64 t2.num, .slice a2 t2.cnt cap2, .int .i64 6, .int .i64 0, .slice (some ⟨w6.heap.size + 1, 0, none⟩) 2 2] 24)).below hb9' (((H7.out.2.2.1.alloc (.cells #[.int .i64 t.kind, .int .i64 t.num, .slice a t.cnt cap, .int .i64 t2.kind, .int .i64 t2.num, .slice a2 t2.cnt cap2] 24)).below hb8' (H7.out.2.2.1.alloc (.cells #[.int .i64 t.kind, .int .i64 t.num, .slice a t.cnt cap, .int .i64 t2.kind, .int .i64 t2.num, .slice a2 t2.cnt cap2] 24)).lt).alloc (.cells #[.int .i64 t2.kind, .int .i64 t2.num, .slice a2 t2.cnt cap2, .int .i64 6, .int .i64 0, .slice (some ⟨w6.heap.size + 1, 0, none⟩) 2 2] 24)).lt; obtain ⟨⟨d0, d1, d2⟩, f0, f1, f2⟩ := tri_cells hT9)
            | fail)
        have hk8 : Kds (hi u.heap.size w8) (tw 6 t t2) (some ⟨w6.heap.size + 1, 0, none⟩) := kd_keep HKt.out (fun j _ h2 => hb8'.block j (by simpa using h2))
        have hk82 : Kds (hi u.heap.size w8) t2 a2 := by
          refine kd_keep HK2.out.1 (fun j _ h2 => ?_)
          rw [hb8'.block j (by simp; omega), Go.Deep.blk_alloc_lt _ _ _ (by omega), HE7.out, Go.Deep.blk_alloc_lt _ _ _ h2]
        have hk9 : Kds (hi u.heap.size w9) (tw 9 t2 (tw 6 t t2)) (some ⟨w8.heap.size, 0, none⟩) := by
          refine kd_keep (w := w8.alloc (.cells #[.int .i64 t2.kind, .int .i64 t2.num, .slice a2 t2.cnt cap2, .int .i64 6, .int .i64 0, .slice (some ⟨w6.heap.size + 1, 0, none⟩) 2 2] 24)) ?_ (fun j _ h2 => hb9'.block j h2)
          refine kd_tw (t := t2) (u := tw 6 t t2) (a := a2) (c := some ⟨w6.heap.size + 1, 0, none⟩) (cap := cap2) (cap' := 2) (by omega) (Go.Deep.blk_alloc_new _ _) ?_ HK2.out.2 ?_ (by show 2 ≤ 2; omega)
          · exact kd_keep hk82 (fun j _ h2 => Go.Deep.blk_alloc_lt _ _ _ h2)
          · exact kd_keep hk8 (fun j _ h2 => Go.Deep.blk_alloc_lt _ _ _ h2)
        have H9 : Hid (z.At w9 k6 o ∧ But z.b w w9 ∧ Tri w9 w.heap.size (.int .i64 0) (.int .i64 0) (.slice none 0 0) ∧ Kds (hi u.heap.size w9) (tw 9 t2 (tw 6 t t2)) (some ⟨w8.heap.size, 0, none⟩)) := ⟨(((H7.out.1.alloc _).below hb8').alloc _).below hb9', (((H7.out.2.1.alloc _).trans (But.of_below hb8')).alloc _).trans (But.of_below hb9'), hT9, hk9⟩
        clear hb8 hb8' hb9 hb9' hT9 hp8 hq8 hp9 hq9 s0 s1 s2 t0 t1 t3 u0 u1 u2 v0' v1' v2' p0 p1 p2 r0 r1 r2 hk8 hk82 hk9
        go_wp2
        (try simp only [Exit.inBlock, Exit.then])
        refine bodyPost_ret (results_cell_tmp1 rfl _ _ w.heap.size 24 #[.int .i64 9, .int .i64 0, .slice _ 2 2] (0, 0) _ rfl (tri_set H9.out.2.2.1 _ _ _) Tryd.underlying24 rfl (by kernel_rfl)) rfl ?_
        have hfin := fin_ok (t := tw 9 t2 (tw 6 t t2)) (cap := 2) (s := lft z.S k6) HZ.out HA.out H9.out.2.1 H9.out.1 H9.out.2.2.2 (by have := HU.out.2.2; omega) (by show 2 ≤ 2; omega) rfl
        refine ⟨_, ev3_w HEvS.out HEv6.out, ?_⟩
        first | exact hfin | exact ⟨hfin.1.drewN 1, hfin.2⟩
    have hnot : ∀ d : UInt8, (d = 85 ∨ d = 82 ∨ d = 87) → ∀ r, lft z.S k' ≠ d :: r := by
      rintro d (rfl | rfl | rfl) r hh
      · exact h85 ⟨r, hh⟩
      · exact h82 ⟨r, hh⟩
      · exact h87 ⟨r, hh⟩
    have HX : Hid (Ev z.N z.M 3 .leaf (lft z.S k) o (.ok (t, lft z.S k'))) := ev3_ok HEv.out (hnot 85 (by decide)) (hnot 82 (by decide)) (hnot 87 (by decide))
    clear h85 h82 h87
    go_wp2_with fail
    rw [← HE4.out]
    refine (HN.out 85 w4 H4.out.1 (hnot 85 (by decide))).mono ?_
    rintro e v0 ⟨rfl, hb0, ha0⟩
    have Hv0 : Hid (But z.b w4 v0 ∧ z.At v0 k' o) := ⟨hb0, ha0⟩
    clear hb0 ha0
    go_wp2_with fail
    refine (HN.out 82 v0 Hv0.out.2 (hnot 82 (by decide))).mono ?_
    rintro e v1 ⟨rfl, hb1, ha1⟩
    have Hv1 : Hid (But z.b w4 v1 ∧ z.At v1 k' o) := ⟨Hv0.out.1.trans hb1, ha1⟩
    clear hb1 ha1
    go_wp2_with fail
    refine (HN.out 87 v1 Hv1.out.2 (hnot 87 (by decide))).mono ?_
    rintro e v2 ⟨rfl, hb2, ha2⟩
    have Hv2 : Hid (But z.b w4 v2 ∧ z.At v2 k' o) := ⟨Hv1.out.1.trans hb2, ha2⟩
    clear hb2 ha2
    have hx5 : Tri v2 w3.heap.size (.int .i64 t.kind) (.int .i64 t.num) (.slice a t.cnt cap) := H4.out.2.1.but Hv2.out.1 hne3
    have hT5 : Tri v2 w.heap.size (.int .i64 0) (.int .i64 0) (.slice none 0 0) := (HB3.out.2.2.but H4.out.2.2 hne).but Hv2.out.1 hne
    have hB5 : But z.b w3 v2 := H4.out.2.2.trans Hv2.out.1
    have H5 : Hid (But z.b w v2 ∧ z.At v2 k' o ∧ Kds (hi u.heap.size v2) t a) := ⟨HB3.out.1.trans hB5, Hv2.out.2, kd_keep HK.out.1 (fun j h1 h2 => hB5.block j h2 (by have := HU.out.2.2; omega))⟩
    obtain ⟨⟨g0, g1, g2⟩, -⟩ := tri_cells hx5
    obtain ⟨⟨d0, d1, d2⟩, f0, f1, f2⟩ := tri_cells hT5
    have HT5 := hid hT5
    clear hx5 hT5 hB5 hnot
    go_wp2
    (try simp only [Exit.inBlock, Exit.then])
    refine bodyPost_ret (results_cell_tmp1 rfl _ _ w.heap.size 24 #[.int .i64 t.kind, .int .i64 t.num, .slice a t.cnt cap] (0, 0) _ rfl (tri_set HT5.out _ _ _) Tryd.underlying24 rfl (by kernel_rfl)) rfl ?_
    exact ⟨_, HX.out, fin_ok HZ.out HA.out H5.out.1 H5.out.2.1 H5.out.2.2 (by have := HU.out.2.2; omega) HK.out.2 rfl⟩

end Go.Proofs.YtgpjlgffmlkkoaaDoor
