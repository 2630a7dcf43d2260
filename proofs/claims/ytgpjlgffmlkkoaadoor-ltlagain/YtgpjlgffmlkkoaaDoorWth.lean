/- within. -/
import Derived.Test.YtgpjlgffmlkkoaaDoorLev
import Derived.RegionTactic
namespace Go.Proofs.YtgpjlgffmlkkoaaDoor
open Go.RowKit

set_option maxHeartbeats 4000000 in
theorem within78 {z : Sp} (hz : z.Ok) {X : Rs → Prop} (k o : Nat) (p : Nat) (w : World) (h : z.At w k o) (hp : p ≤ z.S.size)
    (hf : o ≠ 20 → ∀ u, z.At u k (o + 1) → Calls Tryd.prog 78 #[.pointer (some ⟨z.b, 0, none⟩)] u fun e w' => ∃ r, X r ∧ z.Ans u (o + 1) r e w') (ho : o ≤ 20) :
    Calls Tryd.prog 77 #[.pointer (some ⟨z.b, 0, none⟩), .int .i64 p, .func (Fn.func 78) #[.pointer (some ⟨z.b, 0, none⟩)] #[]] w fun e w' =>
      (o = 20 → z.Ans w o (.error (5, z.S.size - p)) e w') ∧ (o ≠ 20 → ∃ r, X r ∧ z.Ans w o r e w') := by
  have HZ := hid hz
  have HA := hid h
  have c3 := h.1.c3
  have hlt := h.1.lt
  have g2 := (hz.ers.below h.2.1).e2
  have h2lt : 2 < w.heap.size := World.block_lt_of_cell? _ _ g2
  have hf3 := h.1.frozen 3
  obtain ⟨a2, ha2⟩ := hz.ers.s2
  have HA2 := hid ha2
  have hne : w.heap.size ≠ z.b := by omega
  by_cases h20 : o = 20
  · subst h20
    obtain ⟨w1, hw1⟩ : ∃ y, y = w.alloc (.cells #[.int .i64 0, .int .i64 0, .slice none 0 0] 24) := ⟨_, rfl⟩
    have hT1 : Tri w1 w.heap.size (.int .i64 0) (.int .i64 0) (.slice none 0 0) := by rw [hw1]; exact tri_new _ _ _ _
    have hB1 : Below w.heap.size w w1 := by rw [hw1]; exact box_below _ _
    have HT := hid hT1
    have HB1 := hid hB1
    have HE := hid hw1
    have g2' := below_cell hB1 (Nat.le_refl _) g2
    obtain ⟨⟨d0, d1, d2⟩, f0, f1, f2⟩ := tri_cells hT1
    clear hf hw1 hT1 hB1 h hz
    go_enter Tryd.func77, Tryd.ntmps77
    go_wp2
    rw [← HE.out]
    go_region
    go_wp2
    (try simp only [Exit.inBlock, Exit.then])
    have hBt : But z.b w (((w1.setCell ⟨w.heap.size, 0, none⟩ (.int .i64 0)).setCell ⟨w.heap.size, 1, none⟩ (.int .i64 0)).setCell ⟨w.heap.size, 2, none⟩ (.slice none 0 0)).drew := (but_tri (But.of_below HB1.out) (Nat.le_refl _) _ _ _).drewN 1
    refine bodyPost_ret (results_cell_tmp1 rfl _ _ w.heap.size 24 #[.int .i64 0, .int .i64 0, .slice none 0 0] (0, 0) _ rfl (tri_set HT.out _ _ _) Tryd.underlying24 rfl (by kernel_rfl)) rfl ?_
    refine ⟨fun _ => ⟨hBt, 0, 0, none, 0, 0, k, ?_, by omega, Sp.At.but HZ.out HA.out hBt ?_ HA.out.2.2, Or.inr (Or.inr rfl)⟩, fun hh => absurd rfl hh⟩
    · rw [show z.S.size - (z.S.size - p) = p by omega]
      simp only [erV]
      rw [HA2.out]
      rfl
    · exact (blk_tri (by omega) _ _ _).trans (HA.out.1.below HB1.out)
  · have h20b : ((o : Int) == 20) = false := beq_eq_false_iff_ne.2 (by omega)
    obtain ⟨u, hu⟩ : ∃ y, y = (w.setCell ⟨z.b, 3, none⟩ (.int .i64 ((o : Int) + 1))).alloc (.cells #[.int .i64 0, .int .i64 0, .slice none 0 0] 24) := ⟨_, rfl⟩
    have hus : u.heap.size = w.heap.size + 1 := by rw [hu]; simp [World.setCell]
    have hBu : But z.b w u := by rw [hu]; exact ((But.refl _ _).setCell 3 _).alloc _
    have hRu : Rd u z.b z.S z.na z.N z.nc k ((o + 1 : Nat) : Int) := by rw [hu]; exact (h.1.set3 _).alloc _
    have hTu : Tri u w.heap.size (.int .i64 0) (.int .i64 0) (.slice none 0 0) := by
      rw [hu]
      have := tri_new (w.setCell ⟨z.b, 3, none⟩ (.int .i64 ((o : Int) + 1))) (.int .i64 0) (.int .i64 0) (.slice none 0 0)
      rwa [show (w.setCell ⟨z.b, 3, none⟩ (.int .i64 ((o : Int) + 1))).heap.size = w.heap.size by simp [World.setCell]] at this
    have HU : Hid (Tri u w.heap.size (.int .i64 0) (.int .i64 0) (.slice none 0 0) ∧ But z.b w u ∧ u.heap.size = w.heap.size + 1) := ⟨hTu, hBu, hus⟩
    have C := hid (hf h20 u (Sp.At.but hz h hBu hRu h.2.2))
    have HE := hid hu
    clear hf hu hus hBu hRu hTu h hz
    go_enter Tryd.func77, Tryd.ntmps77
    go_wp2_with fail
    rw [← HE.out]
    refine C.out.mono ?_
    rintro e w3 ⟨r, hX, hAns⟩
    have HX := hid hX
    obtain ⟨hb3, hans⟩ := hAns
    have hT3 : Tri w3 w.heap.size (.int .i64 0) (.int .i64 0) (.slice none 0 0) := HU.out.1.but hb3 hne
    have HT3 := hid hT3
    have HB3 : Hid (But z.b w w3 ∧ But z.b u w3) := ⟨HU.out.2.1.trans hb3, hb3⟩
    obtain ⟨⟨d0, d1, d2⟩, f0, f1, f2⟩ := tri_cells hT3
    have hxlt := hT3.lt
    clear C hb3 hX hT3 c3 g2 hf3
    cases r with
    | ok q =>
      obtain ⟨t, s⟩ := q
      obtain ⟨a, cap, k', rfl, hk, hc, hAt, hs⟩ := hans
      have c3 := hAt.1.c3
      have hf3 := hAt.1.frozen 3
      have hblt := hAt.1.lt
      have HAt := hid hAt
      have HK : Hid (Kds (hi u.heap.size w3) t a ∧ t.cnt ≤ 2 ∧ s = lft z.S k') := ⟨hk, hc, hs⟩
      clear hk hc hs hAt
      go_wp2
      (try simp only [Exit.inBlock, Exit.then])
      refine bodyPost_ret (results_cell_tmp1 rfl _ _ w.heap.size 24 #[.int .i64 t.kind, .int .i64 t.num, .slice a t.cnt cap] (0, 0) _ rfl ((tri_set (HT3.out.setb hne _) _ _ _).alloc _) Tryd.underlying24 rfl (by kernel_rfl)) rfl ?_
      refine ⟨fun hh => absurd hh h20, fun _ => ⟨_, HX.out, ?_⟩⟩
      have hbt := (but_tri (x := w.heap.size) (HB3.out.1.setCell 3 (.int .i64 ((o : Int)))) (Nat.le_refl _) (.int .i64 t.kind) (.int .i64 t.num) (.slice a t.cnt cap)).alloc (.cells #[.int .i64 t.kind, .int .i64 t.num, .slice a t.cnt cap] 24)
      have hrd : Rd ((((((w3.setCell ⟨z.b, 3, none⟩ (.int .i64 (o : Int))).setCell ⟨w.heap.size, 0, none⟩ (.int .i64 t.kind)).setCell ⟨w.heap.size, 1, none⟩ (.int .i64 t.num)).setCell ⟨w.heap.size, 2, none⟩ (.slice a t.cnt cap))).alloc (.cells #[.int .i64 t.kind, .int .i64 t.num, .slice a t.cnt cap] 24)) z.b z.S z.na z.N z.nc k' o :=
        Rd.alloc ((blk_tri (by omega) _ _ _).trans (HAt.out.1.set3 _)) _
      refine ⟨by first | exact hbt | simpa using hbt, a, cap, k', rfl, ?_, HK.out.2.1, Sp.At.but HZ.out HA.out hbt (by first | exact hrd | simpa using hrd) HAt.out.2.2, HK.out.2.2⟩
      refine kd_mono (kd_keep HK.out.1 (fun j h1 h2 => ?_)) (by have := HU.out.2.2; omega)
      rw [Go.Deep.blk_alloc_lt _ _ _ (by simp only [World.setCell, Array.size_modify]; exact h2), blk_tri (by have := HU.out.2.2; omega), Go.Deep.blk_setCell_other _ _ _ _ (by show j ≠ z.b; have := HU.out.2.2; omega)]
    | error q =>
      obtain ⟨c, m⟩ := q
      obtain ⟨x, y, a, n, cap, k', rfl, hm, hAt, hcc⟩ := hans
      have c3 := hAt.1.c3
      have hf3 := hAt.1.frozen 3
      have hblt := hAt.1.lt
      have HAt := hid hAt
      have HK : Hid (m ≤ z.S.size ∧ (c = 3 ∨ c = 4 ∨ c = 5)) := ⟨hm, hcc⟩
      generalize hev : erV z.V1 z.V2 z.V3 z.V5 c ((z.S.size - m : Nat) : Int) = ev at *
      have HEv := hid hev
      clear hm hcc hAt hev
      go_wp2
      (try simp only [Exit.inBlock, Exit.then])
      refine bodyPost_ret (results_cell_tmp1 rfl _ _ w.heap.size 24 #[.int .i64 x, .int .i64 y, .slice a n cap] (0, 0) _ rfl ((tri_set (HT3.out.setb hne _) _ _ _).alloc _) Tryd.underlying24 rfl (by kernel_rfl)) rfl ?_
      refine ⟨fun hh => absurd hh h20, fun _ => ⟨_, HX.out, ?_⟩⟩
      have hbt := (but_tri (x := w.heap.size) (HB3.out.1.setCell 3 (.int .i64 ((o : Int)))) (Nat.le_refl _) (.int .i64 x) (.int .i64 y) (.slice a n cap)).alloc (.cells #[.int .i64 x, .int .i64 y, .slice a n cap] 24)
      have hrd : Rd ((((((w3.setCell ⟨z.b, 3, none⟩ (.int .i64 (o : Int))).setCell ⟨w.heap.size, 0, none⟩ (.int .i64 x)).setCell ⟨w.heap.size, 1, none⟩ (.int .i64 y)).setCell ⟨w.heap.size, 2, none⟩ (.slice a n cap))).alloc (.cells #[.int .i64 x, .int .i64 y, .slice a n cap] 24)) z.b z.S z.na z.N z.nc k' o :=
        Rd.alloc ((blk_tri (by omega) _ _ _).trans (HAt.out.1.set3 _)) _
      refine ⟨by first | exact hbt | simpa using hbt, x, y, a, n, cap, k', ?_, HK.out.1, Sp.At.but HZ.out HA.out hbt (by first | exact hrd | simpa using hrd) HAt.out.2.2, HK.out.2⟩
      rw [HEv.out]
      rfl

set_option maxHeartbeats 4000000 in
theorem within74 {z : Sp} (hz : z.Ok) {X : Rs → Prop} (k o : Nat) (p : Nat) (w : World) (h : z.At w k o) (hp : p ≤ z.S.size)
    (hf : o ≠ 20 → ∀ u, z.At u k (o + 1) → Calls Tryd.prog 74 #[.pointer (some ⟨z.b, 0, none⟩)] u fun e w' => ∃ r, X r ∧ z.Ans u (o + 1) r e w') (ho : o ≤ 20) :
    Calls Tryd.prog 77 #[.pointer (some ⟨z.b, 0, none⟩), .int .i64 p, .func (Fn.func 74) #[.pointer (some ⟨z.b, 0, none⟩)] #[]] w fun e w' =>
      (o = 20 → z.Ans w o (.error (5, z.S.size - p)) e w') ∧ (o ≠ 20 → ∃ r, X r ∧ z.Ans w o r e w') := by
  have HZ := hid hz
  have HA := hid h
  have c3 := h.1.c3
  have hlt := h.1.lt
  have g2 := (hz.ers.below h.2.1).e2
  have h2lt : 2 < w.heap.size := World.block_lt_of_cell? _ _ g2
  have hf3 := h.1.frozen 3
  obtain ⟨a2, ha2⟩ := hz.ers.s2
  have HA2 := hid ha2
  have hne : w.heap.size ≠ z.b := by omega
  by_cases h20 : o = 20
  · subst h20
    obtain ⟨w1, hw1⟩ : ∃ y, y = w.alloc (.cells #[.int .i64 0, .int .i64 0, .slice none 0 0] 24) := ⟨_, rfl⟩
    have hT1 : Tri w1 w.heap.size (.int .i64 0) (.int .i64 0) (.slice none 0 0) := by rw [hw1]; exact tri_new _ _ _ _
    have hB1 : Below w.heap.size w w1 := by rw [hw1]; exact box_below _ _
    have HT := hid hT1
    have HB1 := hid hB1
    have HE := hid hw1
    have g2' := below_cell hB1 (Nat.le_refl _) g2
    obtain ⟨⟨d0, d1, d2⟩, f0, f1, f2⟩ := tri_cells hT1
    clear hf hw1 hT1 hB1 h hz
    go_enter Tryd.func77, Tryd.ntmps77
    go_wp2
    rw [← HE.out]
    go_region
    go_wp2
    (try simp only [Exit.inBlock, Exit.then])
    have hBt : But z.b w (((w1.setCell ⟨w.heap.size, 0, none⟩ (.int .i64 0)).setCell ⟨w.heap.size, 1, none⟩ (.int .i64 0)).setCell ⟨w.heap.size, 2, none⟩ (.slice none 0 0)).drew := (but_tri (But.of_below HB1.out) (Nat.le_refl _) _ _ _).drewN 1
    refine bodyPost_ret (results_cell_tmp1 rfl _ _ w.heap.size 24 #[.int .i64 0, .int .i64 0, .slice none 0 0] (0, 0) _ rfl (tri_set HT.out _ _ _) Tryd.underlying24 rfl (by kernel_rfl)) rfl ?_
    refine ⟨fun _ => ⟨hBt, 0, 0, none, 0, 0, k, ?_, by omega, Sp.At.but HZ.out HA.out hBt ?_ HA.out.2.2, Or.inr (Or.inr rfl)⟩, fun hh => absurd rfl hh⟩
    · rw [show z.S.size - (z.S.size - p) = p by omega]
      simp only [erV]
      rw [HA2.out]
      rfl
    · exact (blk_tri (by omega) _ _ _).trans (HA.out.1.below HB1.out)
  · have h20b : ((o : Int) == 20) = false := beq_eq_false_iff_ne.2 (by omega)
    obtain ⟨u, hu⟩ : ∃ y, y = (w.setCell ⟨z.b, 3, none⟩ (.int .i64 ((o : Int) + 1))).alloc (.cells #[.int .i64 0, .int .i64 0, .slice none 0 0] 24) := ⟨_, rfl⟩
    have hus : u.heap.size = w.heap.size + 1 := by rw [hu]; simp [World.setCell]
    have hBu : But z.b w u := by rw [hu]; exact ((But.refl _ _).setCell 3 _).alloc _
    have hRu : Rd u z.b z.S z.na z.N z.nc k ((o + 1 : Nat) : Int) := by rw [hu]; exact (h.1.set3 _).alloc _
    have hTu : Tri u w.heap.size (.int .i64 0) (.int .i64 0) (.slice none 0 0) := by
      rw [hu]
      have := tri_new (w.setCell ⟨z.b, 3, none⟩ (.int .i64 ((o : Int) + 1))) (.int .i64 0) (.int .i64 0) (.slice none 0 0)
      rwa [show (w.setCell ⟨z.b, 3, none⟩ (.int .i64 ((o : Int) + 1))).heap.size = w.heap.size by simp [World.setCell]] at this
    have HU : Hid (Tri u w.heap.size (.int .i64 0) (.int .i64 0) (.slice none 0 0) ∧ But z.b w u ∧ u.heap.size = w.heap.size + 1) := ⟨hTu, hBu, hus⟩
    have C := hid (hf h20 u (Sp.At.but hz h hBu hRu h.2.2))
    have HE := hid hu
    clear hf hu hus hBu hRu hTu h hz
    go_enter Tryd.func77, Tryd.ntmps77
    go_wp2_with fail
    rw [← HE.out]
    refine C.out.mono ?_
    rintro e w3 ⟨r, hX, hAns⟩
    have HX := hid hX
    obtain ⟨hb3, hans⟩ := hAns
    have hT3 : Tri w3 w.heap.size (.int .i64 0) (.int .i64 0) (.slice none 0 0) := HU.out.1.but hb3 hne
    have HT3 := hid hT3
    have HB3 : Hid (But z.b w w3 ∧ But z.b u w3) := ⟨HU.out.2.1.trans hb3, hb3⟩
    obtain ⟨⟨d0, d1, d2⟩, f0, f1, f2⟩ := tri_cells hT3
    have hxlt := hT3.lt
    clear C hb3 hX hT3 c3 g2 hf3
    cases r with
    | ok q =>
      obtain ⟨t, s⟩ := q
      obtain ⟨a, cap, k', rfl, hk, hc, hAt, hs⟩ := hans
      have c3 := hAt.1.c3
      have hf3 := hAt.1.frozen 3
      have hblt := hAt.1.lt
      have HAt := hid hAt
      have HK : Hid (Kds (hi u.heap.size w3) t a ∧ t.cnt ≤ 2 ∧ s = lft z.S k') := ⟨hk, hc, hs⟩
      clear hk hc hs hAt
      go_wp2
      (try simp only [Exit.inBlock, Exit.then])
      refine bodyPost_ret (results_cell_tmp1 rfl _ _ w.heap.size 24 #[.int .i64 t.kind, .int .i64 t.num, .slice a t.cnt cap] (0, 0) _ rfl ((tri_set (HT3.out.setb hne _) _ _ _).alloc _) Tryd.underlying24 rfl (by kernel_rfl)) rfl ?_
      refine ⟨fun hh => absurd hh h20, fun _ => ⟨_, HX.out, ?_⟩⟩
      have hbt := (but_tri (x := w.heap.size) (HB3.out.1.setCell 3 (.int .i64 ((o : Int)))) (Nat.le_refl _) (.int .i64 t.kind) (.int .i64 t.num) (.slice a t.cnt cap)).alloc (.cells #[.int .i64 t.kind, .int .i64 t.num, .slice a t.cnt cap] 24)
      have hrd : Rd ((((((w3.setCell ⟨z.b, 3, none⟩ (.int .i64 (o : Int))).setCell ⟨w.heap.size, 0, none⟩ (.int .i64 t.kind)).setCell ⟨w.heap.size, 1, none⟩ (.int .i64 t.num)).setCell ⟨w.heap.size, 2, none⟩ (.slice a t.cnt cap))).alloc (.cells #[.int .i64 t.kind, .int .i64 t.num, .slice a t.cnt cap] 24)) z.b z.S z.na z.N z.nc k' o :=
        Rd.alloc ((blk_tri (by omega) _ _ _).trans (HAt.out.1.set3 _)) _
      refine ⟨by first | exact hbt | simpa using hbt, a, cap, k', rfl, ?_, HK.out.2.1, Sp.At.but HZ.out HA.out hbt (by first | exact hrd | simpa using hrd) HAt.out.2.2, HK.out.2.2⟩
      refine kd_mono (kd_keep HK.out.1 (fun j h1 h2 => ?_)) (by have := HU.out.2.2; omega)
      rw [Go.Deep.blk_alloc_lt _ _ _ (by simp only [World.setCell, Array.size_modify]; exact h2), blk_tri (by have := HU.out.2.2; omega), Go.Deep.blk_setCell_other _ _ _ _ (by show j ≠ z.b; have := HU.out.2.2; omega)]
    | error q =>
      obtain ⟨c, m⟩ := q
      obtain ⟨x, y, a, n, cap, k', rfl, hm, hAt, hcc⟩ := hans
      have c3 := hAt.1.c3
      have hf3 := hAt.1.frozen 3
      have hblt := hAt.1.lt
      have HAt := hid hAt
      have HK : Hid (m ≤ z.S.size ∧ (c = 3 ∨ c = 4 ∨ c = 5)) := ⟨hm, hcc⟩
      generalize hev : erV z.V1 z.V2 z.V3 z.V5 c ((z.S.size - m : Nat) : Int) = ev at *
      have HEv := hid hev
      clear hm hcc hAt hev
      go_wp2
      (try simp only [Exit.inBlock, Exit.then])
      refine bodyPost_ret (results_cell_tmp1 rfl _ _ w.heap.size 24 #[.int .i64 x, .int .i64 y, .slice a n cap] (0, 0) _ rfl ((tri_set (HT3.out.setb hne _) _ _ _).alloc _) Tryd.underlying24 rfl (by kernel_rfl)) rfl ?_
      refine ⟨fun hh => absurd hh h20, fun _ => ⟨_, HX.out, ?_⟩⟩
      have hbt := (but_tri (x := w.heap.size) (HB3.out.1.setCell 3 (.int .i64 ((o : Int)))) (Nat.le_refl _) (.int .i64 x) (.int .i64 y) (.slice a n cap)).alloc (.cells #[.int .i64 x, .int .i64 y, .slice a n cap] 24)
      have hrd : Rd ((((((w3.setCell ⟨z.b, 3, none⟩ (.int .i64 (o : Int))).setCell ⟨w.heap.size, 0, none⟩ (.int .i64 x)).setCell ⟨w.heap.size, 1, none⟩ (.int .i64 y)).setCell ⟨w.heap.size, 2, none⟩ (.slice a n cap))).alloc (.cells #[.int .i64 x, .int .i64 y, .slice a n cap] 24)) z.b z.S z.na z.N z.nc k' o :=
        Rd.alloc ((blk_tri (by omega) _ _ _).trans (HAt.out.1.set3 _)) _
      refine ⟨by first | exact hbt | simpa using hbt, x, y, a, n, cap, k', ?_, HK.out.1, Sp.At.but HZ.out HA.out hbt (by first | exact hrd | simpa using hrd) HAt.out.2.2, HK.out.2⟩
      rw [HEv.out]
      rfl

/-- The end of a function that answers what it has in a cell. -/
theorem fin_ok {z : Sp} (hz : z.Ok) {w w5 : World} {k o k' B cap : Nat} {t : Fml} {a : Option Addr} {s : List UInt8} (hA : z.At w k o) (hb : But z.b w w5) (hAt : z.At w5 k' o) (hk : Kds (hi B w5) t a) (hB : w.heap.size < B) (hc : t.cnt ≤ 2) (hs : s = lft z.S k') :
    z.Ans w o (.ok (t, s)) (.returned (.tuple #[.agg #[.int .i64 t.kind, .int .i64 t.num, .slice a t.cnt cap], .nilIface])) (((w5.setCell ⟨w.heap.size, 0, none⟩ (.int .i64 t.kind)).setCell ⟨w.heap.size, 1, none⟩ (.int .i64 t.num)).setCell ⟨w.heap.size, 2, none⟩ (.slice a t.cnt cap)) := by
  have hlt := hA.1.lt
  have hbt := but_tri (x := w.heap.size) hb (Nat.le_refl _) (.int .i64 t.kind) (.int .i64 t.num) (.slice a t.cnt cap)
  refine ⟨hbt, a, cap, k', rfl, ?_, hc, Sp.At.but hz hA hbt ((blk_tri (by omega) _ _ _).trans hAt.1) hAt.2.2, hs⟩
  exact kd_mono (kd_keep hk (fun j h1 _ => blk_tri (by omega) _ _ _)) (by omega)

theorem fin_err {z : Sp} (hz : z.Ok) {w w5 : World} {k o k' n cap : Nat} {x y : Int} {a : Option Addr} {c : Int} {m : Nat} (hA : z.At w k o) (hb : But z.b w w5) (hAt : z.At w5 k' o) (hm : m ≤ z.S.size) (hc : c = 3 ∨ c = 4 ∨ c = 5) :
    z.Ans w o (.error (c, m)) (.returned (.tuple #[.agg #[.int .i64 x, .int .i64 y, .slice a n cap], erV z.V1 z.V2 z.V3 z.V5 c ((z.S.size - m : Nat) : Int)])) (((w5.setCell ⟨w.heap.size, 0, none⟩ (.int .i64 x)).setCell ⟨w.heap.size, 1, none⟩ (.int .i64 y)).setCell ⟨w.heap.size, 2, none⟩ (.slice a n cap)) := by
  have hlt := hA.1.lt
  have hbt := but_tri (x := w.heap.size) hb (Nat.le_refl _) (.int .i64 x) (.int .i64 y) (.slice a n cap)
  exact ⟨hbt, x, y, a, n, cap, k', rfl, hm, Sp.At.but hz hA hbt ((blk_tri (by omega) _ _ _).trans hAt.1) hAt.2.2, hc⟩

theorem Sp.At.alloc {z : Sp} {w : World} {k o : Nat} (h : z.At w k o) (ob : Obj) : z.At (w.alloc ob) k o := ⟨h.1.alloc _, h.2.1.alloc h.2.1.size _, h.2.2⟩
theorem Sp.At.below {z : Sp} {w w' : World} {k o : Nat} (h : z.At w k o) (hb : Below w.heap.size w w') : z.At w' k o := ⟨h.1.below hb, h.2.1.trans (hb.mono h.2.1.size), h.2.2⟩

theorem Sp.Ans.alloc {z : Sp} {w : World} {o : Nat} {r : Rs} {e : Ending} {w' : World} (h : z.Ans w o r e w') (ob : Obj) : z.Ans w o r e (w'.alloc ob) := by
  refine ⟨h.1.alloc _, ?_⟩
  have h2 := h.2
  cases r with
  | ok p =>
    obtain ⟨a, cap, k, h3, h4, h5, h6, h7⟩ := h2
    exact ⟨a, cap, k, h3, kd_keep h4 (fun j _ hj => Go.Deep.blk_alloc_lt _ _ _ hj), h5, h6.alloc _, h7⟩
  | error p =>
    obtain ⟨x, y, a, n, cap, k, h3, h4, h5, h6⟩ := h2
    exact ⟨x, y, a, n, cap, k, h3, h4, h5.alloc _, h6⟩

theorem wrg_code (N : Nat) (M : Nat → ByteArray) (s : List UInt8) : wrg N M s = 3 ∨ wrg N M s = 4 ∨ wrg N M s = 5 := by
  unfold wrg
  split
  · exact Or.inr (Or.inl rfl)
  · exact Or.inl rfl

theorem pos_of {z : Sp} {k : Nat} (hk : k ≤ z.S.size) : ((z.S.size - (lft z.S k).length : Nat) : Int) = k := by
  rw [lft_len]
  omega

end Go.Proofs.YtgpjlgffmlkkoaaDoor
