/-   -/
import Derived.Test.YtmdpbaobihdgkaaGreatDoorALstJ
/- All states behind some; which sets have nothing in common with another. -/
/- Is a part fair? -/
namespace Go.Proofs.YtmdpbaobihdgkaaGreatDoor
open Go.RowKit
def bhN (N : Nat → Nat → Nat) (Z : Nat → Int) : Nat → Nat → Nat
 | 0 => fun _ => 0
 | k + 1 => sor (bhN N Z k) (N (Z k).toNat)
theorem mem_bhN (N : Nat → Nat → Nat) (Z : Nat → Int) (t : Nat) : ∀ k, mem (bhN N Z k) t = true ↔ ∃ i, i < k ∧ mem (N (Z i).toNat) t = true
 | 0 => by simp [bhN, mem_zero]
 | k + 1 => by
  rw [bhN, mem_or, Bool.or_eq_true, mem_bhN N Z t k]
  constructor
  ·rintro (⟨i, h1, h2⟩ | h)
   ·exact ⟨i, by omega, h2⟩
   ·exact ⟨k, by omega, h⟩
  ·rintro ⟨i, h1, h2⟩
   by_cases e : i = k
   ·subst e; exact Or.inr h2
   ·exact Or.inl ⟨i, by omega, h2⟩
def noc (x y : Nat → Nat) : Bool := (List.range 2048).all (fun s => !(mem x s && mem y s))
theorem noc_iff (x y : Nat → Nat) : noc x y = true ↔ ∀ s, s < 2048 → mem x s = true → mem y s = false := by
 unfold noc
 rw [List.all_eq_true]
 constructor
 ·intro h s hs h1
  have := h s (List.mem_range.2 hs)
  simpa [h1] using this
 ·intro h s hs
  have := h s (List.mem_range.1 hs)
  cases h1 : mem x s
  ·simp
  ·simp [this h1]
theorem noc_of {x y : Nat → Nat} {r : Int} (h : FsIs x y r) : (r == -1) = noc x y := by
 rw [Bool.eq_iff_iff]
 rw [noc_iff]
 rcases h with ⟨s, h1, rfl, h2, h3⟩ | ⟨rfl, h1⟩
 ·constructor
  ·intro h; have := beq_iff_eq.1 h; omega
  ·intro h; have := h s h1 h2; rw [h3] at this; cases this
 ·exact ⟨fun _ => h1, fun _ => rfl⟩
set_option maxHeartbeats 1000000 in
theorem fair1_any (x y : Nat → Nat) (b : Nat) (w : World) (hx : ∀ i, i < 32 → x i < 18446744073709551616) (hy : Bx w b y) (hT : Tb w) :
  Calls Tryz.prog 109 #[.agg (cellsS x), .pointer (some ⟨b, 0, none⟩)] w fun e w' => e = .returned (.bool (noc x y)) ∧ Below w.heap.size w w' := by
 have hbx := bx_new w x hx
 have C := hid (firstOf_any w.heap.size 0 b 0 x y (w.alloc (.cells (cellsS x) 69)) hbx.st (hy.below (box_below _ _) (bx_lt hy)).st (fun j hj => below_cell (box_below _ _) jq0 (hT j hj)))
 clear hbx hy hT hx
 go_enter Tryz.func109, Tryz.ntmps109
 go_wp2_with fail
 refine C.out.mono ?_
 rintro e w1 ⟨⟨r, rfl, hr⟩, hsm⟩
 have HR := hid (noc_of hr)
 have HS := hid hsm
 clear hr hsm
 go_wp2
 go_ret
 exact ⟨ret_bool HR.out, (box_below _ _).trans (HS.out.below _)⟩
set_option maxHeartbeats 2000000 in
theorem idxS_any (fb K c b : Nat) (F : Nat → Nat → Nat) (y : Nat → Nat) (w : World) (hK : K ≤ 80) (hF : Ls w fb K F) (hy : Bx w b y) (hT : Tb w) :
  Calls Tryz.prog 133 #[.slice (some ⟨fb, 0, none⟩) K c, .func (.func 109) #[] #[.pointer (some ⟨b, 0, none⟩)]] w fun e w' => (∃ r : Int, e = .returned (.int .i64 r) ∧ ((0 ≤ r ∧ ∃ k, k < K ∧ noc (F k) y = true) ∨ (r = -1 ∧ ∀ k, k < K → noc (F k) y = false))) ∧ Below w.heap.size w w' := by
 have HF := hid hF
 have HY := hid hy
 have HT := hid hT
 clear hF hy hT
 go_enter Tryz.func133, Tryz.ntmps133
 go_wp2
 go_loopw [8] (fun i wr => ∃ k : Nat, k ≤ K ∧ i = .int .i64 k ∧ Hid (Below w.heap.size w wr ∧ ∀ j, j < k → noc (F j) y = false)) (fun i _ => K - (intOf i).toNat)
 case atStart => exact ⟨0, by omega, rfl, hid ⟨Below.refl _ _, fun j hj => by omega⟩⟩
 case round =>
  obtain ⟨k, hk, rfl, H⟩ := hrel
  by_cases hlt : k < K
  ·have hst := hid ((HF.out k hlt).below' H.out.1)
   have C := hid (fair1_any (F k) y b wr (HF.out k hlt).small (HY.out.below H.out.1 (bx_lt HY.out)) (fun j hj => below_cell H.out.1 jq0 (HT.out j hj)))
   cases hn : noc (F k) y
   ·have HN := hid hn
    rw [hn] at C
    clear hn
    go_wp2_with (first | (refine wl_load rfl _ rfl fb (k * 32) rfl _ hst.out ?_) | (go_at_call 109; refine C.out.mono ?_; rintro e w1 ⟨rfl, hb1⟩; have HB := hid hb1; clear hb1))
    go_roundw
    case rel => exact ⟨k + 1, by omega, by go_num, hid ⟨H.out.1.trans (HB.out.mono H.out.1.size), snoc_all H.out.2 HN.out⟩⟩
    case measure => simp [intOf]; omega
   ·have HN := hid hn
    rw [hn] at C
    clear hn
    go_wp2_with (first | (refine wl_load rfl _ rfl fb (k * 32) rfl _ hst.out ?_) | (go_at_call 109; refine C.out.mono ?_; rintro e w1 ⟨rfl, hb1⟩; have HB := hid hb1; clear hb1))
    go_ret
    exact ⟨⟨_, rfl, Or.inl ⟨by omega, k, hlt, HN.out⟩⟩, H.out.1.trans (HB.out.mono H.out.1.size)⟩
  ·go_wp2
   go_ret
   exact ⟨⟨_, rfl, Or.inr ⟨rfl, fun j hj => H.out.2 j (by omega)⟩⟩, H.out.1⟩
def anoc (K : Nat) (F : Nat → Nat → Nat) (y : Nat → Nat) : Bool := (List.range K).any (fun k => noc (F k) y)
theorem anoc_iff (K : Nat) (F : Nat → Nat → Nat) (y : Nat → Nat) : anoc K F y = true ↔ ∃ k, k < K ∧ noc (F k) y = true := by
 unfold anoc
 rw [List.any_eq_true]
 exact ⟨fun ⟨k, h1, h2⟩ => ⟨k, List.mem_range.1 h1, h2⟩, fun ⟨k, h1, h2⟩ => ⟨k, List.mem_range.2 h1, h2⟩⟩
theorem cfS_any (fb K c b : Nat) (F : Nat → Nat → Nat) (y : Nat → Nat) (w : World) (hK : K ≤ 80) (hF : Ls w fb K F) (hy : Bx w b y) (hT : Tb w) :
  Calls Tryz.prog 108 #[.slice (some ⟨fb, 0, none⟩) K c, .func (.func 109) #[] #[.pointer (some ⟨b, 0, none⟩)]] w fun e w' => e = .returned (.bool (anoc K F y)) ∧ Below w.heap.size w w' := by
 have C := hid (idxS_any fb K c b F y w hK hF hy hT)
 clear hF hy hT
 go_enter Tryz.func108, Tryz.ntmps108
 go_wp2_with fail
 refine C.out.mono ?_
 rintro e w1 ⟨⟨r, rfl, hr⟩, hb⟩
 have HR := hid hr
 have HB := hid hb
 clear hr hb
 go_wp2
 go_ret
 refine ⟨ret_bool ?_, HB.out⟩
 rw [Bool.eq_iff_iff, anoc_iff, decide_eq_true_eq]
 rcases HR.out with ⟨h1, h2⟩ | ⟨rfl, h2⟩
 ·exact ⟨fun _ => h2, fun _ => h1⟩
 ·constructor
  ·intro h; omega
  ·rintro ⟨k, h3, h4⟩; rw [h2 k h3] at h4; cases h4
theorem bh_world (w : World) (nb G c1 pb c2 tb m c3 fb K c4 : Nat) (N P T F : Nat → Nat → Nat) (x : Nat → Nat) (hx : ∀ i, i < 32 → x i < 18446744073709551616) :
  ∃ W, (((w.alloc (.cells #[.slice (some ⟨nb, 0, none⟩) G c1, .slice (some ⟨pb, 0, none⟩) G c2, .slice (some ⟨tb, 0, none⟩) m c3, .slice (some ⟨fb, 0, none⟩) K c4] 67)).alloc (.cells (cellsS x) 69)).alloc (.cells (cellsS (fun _ => 0)) 69)).alloc (.cells (cellsS (fun _ => 0)) 69) = W ∧
   Below w.heap.size w W ∧ W.heap.size = w.heap.size + 4 ∧ Rb W w.heap.size ⟨nb, G, c1, pb, c2, tb, m, c3, fb, K, c4, N, P, T, F⟩ ∧ Bx W (w.heap.size + 1) x ∧ Bx W (w.heap.size + 2) (fun _ => 0) ∧ Bx W (w.heap.size + 3) (fun _ => 0) := by
 obtain ⟨W0, h0, hb0, hs0, hR0⟩ := rb_new w nb G c1 pb c2 tb m c3 fb K c4 N P T F
 rw [h0]
 have q1 := bx_new W0 x hx
 have b1 := box_below W0 (.cells (cellsS x) 69)
 have s1 : (W0.alloc (.cells (cellsS x) 69)).heap.size = w.heap.size + 2 := by rw [World.size_alloc, hs0]
 generalize W0.alloc (.cells (cellsS x) 69) = W1 at *
 have q2 := bx_new W1 (fun _ => 0) (fun _ _ => by decide)
 have b2 := box_below W1 (.cells (cellsS (fun _ => 0)) 69)
 have s2 : (W1.alloc (.cells (cellsS (fun _ => 0)) 69)).heap.size = w.heap.size + 3 := by rw [World.size_alloc, s1]
 generalize W1.alloc (.cells (cellsS (fun _ => 0)) 69) = W2 at *
 have q3 := bx_new W2 (fun _ => 0) (fun _ _ => by decide)
 have b3 := box_below W2 (.cells (cellsS (fun _ => 0)) 69)
 have s3 : (W2.alloc (.cells (cellsS (fun _ => 0)) 69)).heap.size = w.heap.size + 4 := by rw [World.size_alloc, s2]
 generalize W2.alloc (.cells (cellsS (fun _ => 0)) 69) = W3 at *
 rw [hs0] at q1
 rw [s1] at q2
 rw [s2] at q3
 exact ⟨W3, rfl, ((hb0.trans (b1.mono (by omega))).trans (b2.mono (by omega))).trans (b3.mono (by omega)), s3, ((hR0.below b1).below b2).below b3, (q1.below b2 (bx_lt q1)).below b3 (by omega), q2.below b3 (bx_lt q2), q3⟩
set_option maxHeartbeats 2000000 in
theorem behind_any (R : Rx) (x : Nat → Nat) (w : World) (h : Rw w R) (hx : ∀ i, i < 32 → x i < 18446744073709551616) (hok : ∀ s, s < 2048 → mem x s = true → s < R.G) :
  Calls Tryz.prog 28 #[R.val, .agg (cellsS x)] w fun e w' => (∃ y, e = .returned (.agg (cellsS y)) ∧ (∀ i, i < 32 → y i < 18446744073709551616) ∧ ∀ t, mem y t = true ↔ ∃ s, s < 2048 ∧ mem x s = true ∧ mem (R.N s) t = true) ∧ Below w.heap.size w w' := by
 have hg := h.g
 have H0 := hid h
 have HX := hid hx
 have HK := hid hok
 clear h hx hok
 obtain ⟨nb, G, c1, pb, c2, tb, m, c3, fb, K, c4, N, P, T, F⟩ := R
 dsimp only [Rx.val] at *
 go_enter Tryz.func28, Tryz.ntmps28
 go_wp2_with fail
 rw [zeroS]
 obtain ⟨W1, hW1, hb1, hs1, hR1, hx1, hy1, hz1⟩ := bh_world w nb G c1 pb c2 tb m c3 fb K c4 N P T F x HX.out
 rw [hW1]
 clear hW1
 refine (list_any (w.heap.size + 1) 0 x W1 hx1.st (fun j hj => below_cell hb1 jq0 (H0.out.tb j hj))).mono ?_
 rintro e w2 ⟨v, rfl, hv, hb2⟩
 obtain ⟨va, vc, rfl, hrow⟩ := owns_row hv
 have hlen := lstN_len x 2048
 generalize hll : (lstN x 2048).length = ll at *
 have HLL := hid hll
 obtain ⟨rb, ro, ra, rc⟩ := hrow
 have HB2 := hid (hb1.trans (hb2.mono hb1.size))
 have hR2 := hR1.below hb2
 have HY2 := hid (hy1.below hb2 (bx_lt hy1))
 have HZ2 := hid (hz1.below hb2 (bx_lt hz1))
 have hs2 := hb2.size
 have HRC := hid rc
 have HR2 := hid hR2
 have HRA := hid ra
 have HRBx : Hid (0 < ll → w.heap.size + 3 < rb) := hid (fun h => by
  rcases hv.2 with ⟨_, h0⟩ | ⟨g, cap, cur, e, hg, _⟩
  ·omega
  ·have := ra h
   rw [Value.slice.injEq] at e
   rw [this] at e
   have e1 := e.1
   simp only [Option.some.injEq, Addr.mk.injEq] at e1
   omega)
 clear hll hb1 hb2 hR1 hR2 hx1 hy1 hz1 rc ra hv
 go_wp2
 go_loopw [10] (fun i wr => ∃ k : Nat, k ≤ ll ∧ i = .int .i64 k ∧ Hid (But (w.heap.size + 3) w2 wr ∧ wr.heap.size = w2.heap.size ∧ Bx wr (w.heap.size + 3) (bhN N (fun i => (lstN x 2048).getD i 0) k))) (fun i _ => ll - (intOf i).toNat)
 case atStart => exact ⟨0, by omega, rfl, hid ⟨But.refl _ _, rfl, HZ2.out⟩⟩
 case round =>
  obtain ⟨k, hk, rfl, H⟩ := hrel
  by_cases hlt : k < ll
  ·obtain rfl := HRA.out (by omega)
   obtain ⟨s, hs, hs3, hs4⟩ : ∃ s : Nat, (lstN x 2048).getD k 0 = s ∧ s < 2048 ∧ mem x s = true := by
    have hm : (lstN x 2048).getD k 0 ∈ lstN x 2048 := by
     rw [List.getD_eq_getElem?_getD, List.getElem?_eq_getElem (by rw [HLL.out]; exact hlt)]
     exact List.getElem_mem _
    obtain ⟨s, h1, h2, h3⟩ := (mem_lstN x 2048 _).1 hm
    exact ⟨s, h3, h1, h2⟩
   have hsG := HK.out s hs3 hs4
   have h1 : wr.cell? ⟨rb, ro + k, none⟩ = some (.int .i64 s) := by
    have := H.out.1.cell (p := ⟨rb, ro + k, none⟩) (by have := HRBx.out (by omega); simp; omega) (HRC.out k hlt)
    rw [this, hs]
   have h2 := (HR2.out.but H.out.1 (by omega)).r0
   dsimp only at h2
   have hst := ((H0.out.below HB2.out).next s hsG).but H.out.1 (by have := H0.out.blk.1; dsimp only at this ⊢; omega)
   have C := hid (join_any (w.heap.size + 3) nb (s * 32) _ (N s) wr H.out.2.2 hst (by have := H0.out.blk.1; dsimp only at this ⊢; omega))
   have HS := hid hs
   clear hs hst
   go_wp2_with fail
   refine C.out.mono ?_
   rintro e w3 ⟨⟨v, rfl⟩, g1, g2, g3⟩
   have HH := hid (And.intro g1 (And.intro g2 g3))
   clear g1 g2 g3
   go_wp2
   go_roundw
   case rel =>
    refine ⟨k + 1, by omega, by go_num, hid ⟨H.out.1.trans HH.out.2.1, HH.out.2.2.trans H.out.2.1, ?_⟩⟩
    rw [bhN, HS.out]
    exact HH.out.1
   case measure => simp [intOf]; omega
  ·have HKL : Hid (k = ll) := hid (by omega)
   have hsz := H.out.2.2.small
   have hy2 := HY2.out.but H.out.1 (by omega)
   have HYY := hid hy2
   clear hy2
   go_wp2_with (first | (refine wl_load rfl _ rfl (w.heap.size + 3) 0 rfl _ H.out.2.2.st ?_) | (refine wl_store rfl _ _ rfl (w.heap.size + 2) _ rfl rfl _ HYY.out hsz ?_; intro w4 hb4 hs4 hx4))
   refine bodyPost_ret (res_set rfl rfl hx4) rfl ?_
   refine ⟨⟨_, rfl, hsz, fun t => ?_⟩, (HB2.out.trans (H.out.1.below (by omega) HB2.out.size)).trans (hb4.below (by omega) (by have := HB2.out.size; have := H.out.2.1; omega))⟩
   rw [mem_bhN, HKL.out]
   constructor
   ·rintro ⟨i, h1, h2⟩
    have hm : (lstN x 2048).getD i 0 ∈ lstN x 2048 := by
     rw [List.getD_eq_getElem?_getD, List.getElem?_eq_getElem (by rw [HLL.out]; exact h1)]
     exact List.getElem_mem _
    obtain ⟨s, h3, h4, h5⟩ := (mem_lstN x 2048 _).1 hm
    rw [h5] at h2
    exact ⟨s, h3, h4, h2⟩
   ·rintro ⟨s, h1, h2, h3⟩
    have hm : (s : Int) ∈ lstN x 2048 := (mem_lstN x 2048 _).2 ⟨s, h1, h2, rfl⟩
    obtain ⟨i, hi, he⟩ := List.mem_iff_getElem.1 hm
    refine ⟨i, by rw [← HLL.out]; exact hi, ?_⟩
    rw [List.getD_eq_getElem?_getD, List.getElem?_eq_getElem hi, he]
    exact h3
end Go.Proofs.YtmdpbaobihdgkaaGreatDoor
namespace Go.Proofs.YtmdpbaobihdgkaaGreatDoor
open Go.RowKit
def stsN (l : Nat → Nat × Nat) : Nat → Nat → Nat
 | 0 => fun _ => 0
 | k + 1 => sadd (stsN l k) (l k).1
theorem mem_stsN (l : Nat → Nat × Nat) (s : Nat) : ∀ k, mem (stsN l k) s = true ↔ ∃ i, i < k ∧ (l i).1 = s
 | 0 => by simp [stsN, mem_zero]
 | k + 1 => by
  rw [stsN, mem_add, Bool.or_eq_true, mem_stsN l s k, decide_eq_true_eq]
  constructor
  ·rintro (h | ⟨i, h1, h2⟩)
   ·exact ⟨k, by omega, h.symm⟩
   ·exact ⟨i, by omega, h2⟩
  ·rintro ⟨i, h1, h2⟩
   by_cases e : i = k
   ·subst e; exact Or.inl h2.symm
   ·exact Or.inr ⟨i, by omega, h2⟩
def frs (R : Rx) (n : Nat) (l : Nat → Nat × Nat) : Bool := gos R n l && !anoc R.K R.F (stsN l n)
set_option maxHeartbeats 2000000 in
theorem isFair_any (R : Rx) (a : Option Addr) (n c : Nat) (l : Nat → Nat × Nat) (w : World) (h : Rw w R) (hl : Sp w a n l) (hn : 0 < n) (hn2 : n ≤ 140737488355328) (hok : ∀ i, i < n → (l i).1 < R.G ∧ (l i).2 < R.m) :
  Calls Tryz.prog 78 #[R.val, .slice a n c] w fun e w' => e = .returned (.bool (frs R n l)) ∧ Below w.heap.size w w' := by
 have hg := h.g
 have hk80 := h.k80
 have H0 := hid h
 have HL := hid hl
 have HK := hid hok
 have C := hid (fun (z : World) (hz : Below w.heap.size w z) => goesOn_any R a n c l z (h.below hz) (hl.below hz) hn hn2 hok)
 have E : Hid (frs R n l = (gos R n l && !anoc R.K R.F (stsN l n))) := hid rfl
 clear h hl hok
 generalize hf : frs R n l = fr at *
 clear hf
 generalize hgo : gos R n l = go at *
 clear hgo
 obtain ⟨nb, G, c1, pb, c2, tb, m, c3, fb, K, c4, N, P, T, F⟩ := R
 dsimp only [Rx.val] at *
 go_enter Tryz.func78, Tryz.ntmps78
 go_wp2_with fail
 obtain ⟨W0, hW0, hb0, hs0, hR⟩ := rb_new w nb G c1 pb c2 tb m c3 fb K c4 N P T F
 rw [hW0]
 clear hW0
 obtain ⟨r0, r1, r2, r3⟩ := hR
 dsimp only at r0 r1 r2 r3
 have HB0 := hid hb0
 clear hb0
 have C1 := hid (C.out W0 HB0.out)
 go_wp2_with fail
 refine C1.out.mono ?_
 rintro e w1 ⟨rfl, hb1⟩
 have HB1 := hid (HB0.out.trans (hb1.mono HB0.out.size))
 have q3 := below_cell hb1 jq0 r3
 have hs1 := hb1.size
 clear hb1 r0 r1 r2 r3
 cases go
 ·go_wp2
  go_ret
  refine ⟨ret_bool ?_, HB1.out⟩
  rw [E.out]; rfl
 ·go_wp2
  rw [zeroS]
  go_loopw [14] (fun i wr => ∃ k : Nat, k ≤ n ∧ i = .int .i64 k ∧ Hid (Below w1.heap.size w1 wr ∧ Bx wr w1.heap.size (stsN l k))) (fun i _ => n - (intOf i).toNat)
  case atStart => exact ⟨0, by omega, rfl, hid ⟨box_below _ _, bx_new w1 (fun _ => 0) (fun _ _ => by decide)⟩⟩
  case round =>
   obtain ⟨k, hk, rfl, H⟩ := hrel
   by_cases hlt : k < n
   ·obtain ⟨b, ha, hc⟩ := (HL.out.below HB1.out).below H.out.1
    obtain rfl := ha (by omega)
    obtain ⟨y1, y2⟩ := hc k hlt
    have hko := HK.out k hlt
    have C2 := hid (fun (o1 : Obj) => addB w1.heap.size (stsN l k) (l k).1 (wr.alloc o1) (by omega) (H.out.2.below (box_below wr o1) (bx_lt H.out.2)))
    clear hc ha
    go_wp2_with fail
    refine (C2.out _).mono ?_
    rintro e w2 ⟨⟨v, rfl⟩, g1, g2, g3⟩
    have HH := hid (And.intro g1 (And.intro g2 g3))
    clear g1 g2 g3
    go_wp2
    go_roundw
    case rel =>
     refine ⟨k + 1, by omega, by go_num, hid ⟨(H.out.1.trans ((box_below wr _).mono H.out.1.size)).trans (HH.out.2.1.below jq0 ?_), HH.out.1⟩⟩
     have := H.out.1.size
     simp
     omega
    case measure => simp [intOf]; omega
   ·have q3' := below_cell H.out.1 jq0 q3
    obtain rfl : k = n := by omega
    have C3 := hid (cfS_any fb K c4 w1.heap.size F (stsN l k) wr hk80 ((H0.out.below HB1.out).below H.out.1).fair H.out.2 ((H0.out.below HB1.out).below H.out.1).tb)
    go_wp2_with fail
    refine C3.out.mono ?_
    rintro e w2 ⟨rfl, hb2⟩
    have HB2 := hid hb2
    clear hb2
    go_wp2
    go_ret
    refine ⟨ret_bool ?_, HB1.out.trans ((H.out.1.mono (HB1.out.size)).trans (HB2.out.mono (Nat.le_trans HB1.out.size H.out.1.size)))⟩
    rw [E.out]; rfl
end Go.Proofs.YtmdpbaobihdgkaaGreatDoor
