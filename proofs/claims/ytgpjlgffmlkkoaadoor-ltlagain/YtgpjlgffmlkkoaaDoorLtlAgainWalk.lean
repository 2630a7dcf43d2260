/- The law LtlAgain, walked. -/
import Derived.Test.YtgpjlgffmlkkoaaDoorAgn
import Derived.Test.YtgpjlgffmlkkoaaDoorTwo
import Derived.Test.YtgpjlgffmlkkoaaDoorSme
import Derived.Test.YtgpjlgffmlkkoaaDoorWay
import Derived.Deep.RegionHeld3
namespace Go.Proofs.YtgpjlgffmlkkoaaDoor
open Go.RowKit

/-- The names a, b; the text 'a -> b U a' and its formula. -/
def m1 : Nat → ByteArray := fun i => if i = 0 then ⟨#[97]⟩ else ⟨#[98]⟩
def s1T : ByteArray := ⟨#[97, 32, 45, 62, 32, 98, 32, 85, 32, 97]⟩
def u1 : Fml := tw 6 (on 4 (nd 3 0)) (tw 8 (nd 3 1) (nd 3 0))

theorem ev_u1 : Ev 2 m1 0 .leaf (skp s1T.data.toList) 0 (.ok (u1, [])) := ⟨20, by kernel_rfl⟩
theorem chk_u1 : (chk u1 1 0).1 = 0 := by decide +kernel
theorem read_u1 {r : Except (Int × Nat) Fml} (h : RxIs 2 m1 s1T r) : pof s1T r = .ok u1 := by
  rcases h with ⟨h1, _⟩ | ⟨_, h2⟩
  · exact absurd h1 (by decide +kernel)
  · rw [tx_of_ok h2 ev_u1, pof_ok _ chk_u1]

/-- The same memory. -/
structure Lk (v u : World) : Prop where
  heap : u.heap = v.heap
  os : u.os = v.os
  tape : u.tape = v.tape
  output : u.output = v.output

theorem Lk.below {v u : World} (h : Lk v u) (B : Nat) : Below B v u := below_left (Below.refl B u) h.heap h.os h.tape h.output
theorem Lk.left {v u w : World} (h : Lk v u) (hb : Below u.heap.size u w) : Below v.heap.size v w := h.heap ▸ below_left hb h.heap h.os h.tape h.output
theorem Lk.mk' {v u w : World} {t : Fml} {e : Ending} (h : Lk v u) (hm : Mk u t e w) : Mk v t e w := by
  obtain ⟨a, cap, h1, h2, h3⟩ := hm
  exact ⟨a, cap, h1, h2, h.left h3⟩
theorem Lk.kds {v u : World} {t : Fml} {a : Option Addr} (h : Lk v u) (hk : Kds v t a) : Kds u t a := hk.below (h.below _)

set_option maxHeartbeats 8000000 in
set_option maxRecDepth 100000 in
theorem ltlAgain_walk {w : World} {na : Option Addr} {N nc : Nat} {M : Nat → ByteArray} {a1 a2 a3 a5 : Addr} (hP : Pst w na N nc M a1 a2 a3 a5) (S : ByteArray) :
    Calls Tryd.prog 6 #[.string S, .slice na N nc] w fun e w' => e = .returned (.bool true) ∧ Below w.heap.size w w' := by
  obtain ⟨w1, hw1⟩ : ∃ y, y = w.alloc (.cells #[.string ⟨#[97]⟩, .string ⟨#[98]⟩] 9) := ⟨_, rfl⟩
  have hB1 : Below w.heap.size w w1 := by rw [hw1]; exact box_below _ _
  have hM1 : ∀ i, i < 2 → w1.cell? ⟨w.heap.size, 0 + i, none⟩ = some (.string (m1 i)) := fun i hi => by
    rw [hw1]
    match i, hi with
    | 0, _ => exact cell_of_alloc rfl
    | 1, _ => exact cell_of_alloc rfl
  have hP1 : Pst w1 (some ⟨w.heap.size, 0, none⟩) 2 2 m1 a1 a2 a3 a5 := by
    have h1 := hP.below hB1
    exact ⟨⟨h1.sta.kc, h1.sta.sg, ⟨w.heap.size, 0, fun _ => rfl, hM1⟩, Nat.le_refl 2, by omega⟩, h1.er, h1.g6⟩
  have HE := hid hw1
  have HP := hid hP
  obtain ⟨p0, hp0⟩ : ∃ x, x = nd 3 0 := ⟨_, rfl⟩
  obtain ⟨p1, hp1⟩ : ∃ x, x = on 4 p0 := ⟨_, rfl⟩
  obtain ⟨p2, hp2⟩ : ∃ x, x = nd 3 1 := ⟨_, rfl⟩
  obtain ⟨p3, hp3⟩ : ∃ x, x = tw 8 p2 p0 := ⟨_, rfl⟩
  obtain ⟨q, hq⟩ : ∃ x, x = tw 6 p1 p3 := ⟨_, rfl⟩
  have hqu : q = u1 := by rw [hq, hp3, hp2, hp1, hp0]; rfl
  have A0 : Hid (∀ v u, Lk v u → Calls Tryd.prog 16 #[.int .i64 0] u fun e w' => Mk v p0 e w') := fun v u l => by rw [hp0]; exact (atom_f 0 u).mono fun _ _ h => l.mk' h
  have A1 : Hid (∀ v u, Lk v u → ∀ a cap, Kds v p0 a → Calls Tryd.prog 15 #[.int .i64 4, .agg #[.int .i64 p0.kind, .int .i64 p0.num, .slice a p0.cnt cap]] u fun e w' => Mk v p1 e w') := fun v u l a cap h => by
    rw [hp1]
    exact (one_f 4 p0 a cap u (l.kds h) (by rw [hp0]; exact Nat.zero_le 2)).mono fun _ _ h => l.mk' h
  have A2 : Hid (∀ v u, Lk v u → Calls Tryd.prog 16 #[.int .i64 1] u fun e w' => Mk v p2 e w') := fun v u l => by rw [hp2]; exact (atom_f 1 u).mono fun _ _ h => l.mk' h
  have A3 : Hid (∀ v u, Lk v u → ∀ a cap a' cap', Kds v p2 a → Kds v p0 a' → Calls Tryd.prog 14 #[.int .i64 8, .agg #[.int .i64 p2.kind, .int .i64 p2.num, .slice a p2.cnt cap], .agg #[.int .i64 p0.kind, .int .i64 p0.num, .slice a' p0.cnt cap']] u fun e w' => Mk v p3 e w') := fun v u l a cap a' cap' h h' => by
    rw [hp3]
    exact (two_f 8 p2 a cap p0 a' cap' u (l.kds h) (by rw [hp2]; exact Nat.zero_le 2) (l.kds h') (by rw [hp0]; exact Nat.zero_le 2)).mono fun _ _ h => l.mk' h
  have A4 : Hid (∀ v u, Lk v u → ∀ a cap a' cap', Kds v p1 a → Kds v p3 a' → Calls Tryd.prog 14 #[.int .i64 6, .agg #[.int .i64 p1.kind, .int .i64 p1.num, .slice a p1.cnt cap], .agg #[.int .i64 p3.kind, .int .i64 p3.num, .slice a' p3.cnt cap']] u fun e w' => Mk v q e w') := fun v u l a cap a' cap' h h' => by
    rw [hq]
    exact (two_f 6 p1 a cap p3 a' cap' u (l.kds h) (by rw [hp1]; exact Nat.le_succ 1) (l.kds h') (by rw [hp3]; exact Nat.le_refl 2)).mono fun _ _ h => l.mk' h
  have A5 : Hid (∀ v u, Lk v u → ∀ a cap a' cap', Kds v q a → Kds v q a' → Calls Tryd.prog 13 #[.agg #[.int .i64 q.kind, .int .i64 q.num, .slice a q.cnt cap], .agg #[.int .i64 q.kind, .int .i64 q.num, .slice a' q.cnt cap']] u fun e w' => e = .returned (.bool true) ∧ Below v.heap.size v w') := fun v u l a cap a' cap' h h' =>
    (same_any q a a' cap cap' u (l.kds h) (l.kds h') (by rw [hq]; exact (by decide : (2 : Nat) ≤ 9223372036854775807))).mono fun _ _ h => ⟨h.1, l.left h.2⟩
  have C0 : Hid (Calls Tryd.prog 11 #[.string ⟨#[97, 32, 45, 62, 32, 98, 32, 85, 32, 97]⟩, .slice (some ⟨w.heap.size, 0, none⟩) 2 2] w1 fun e w' => (∃ (a : Option Addr) (cap : Nat), e = .returned (.tuple #[.agg #[.int .i64 q.kind, .int .i64 q.num, .slice a q.cnt cap], .int .i64 0, .int .i64 0]) ∧ Kds w' q a) ∧ Below w1.heap.size w1 w') := by
    refine (parse_any hP1 s1T).mono ?_
    rintro e w' ⟨⟨r, hr, ha⟩, hb⟩
    rw [read_u1 hr] at ha
    obtain ⟨a, cap, he, hk⟩ := ha
    rw [hqu]
    exact ⟨⟨a, cap, he, kd_out hk⟩, hb⟩
  have C2 : Hid (∀ v u S, Lk v u → Below w.heap.size w v → Calls Tryd.prog 11 #[.string S, .slice na N nc] u fun e w' => (∃ r, RxIs N M S r ∧ PaAns v.heap.size (pof S r) e w') ∧ Below v.heap.size v w') := fun v u S l hv => by
    refine (parse_any (hP.below (hv.trans (l.below _))) S).mono fun e w' h => ?_
    obtain ⟨⟨r, h1, h2⟩, h3⟩ := h
    rw [l.heap] at h2
    exact ⟨⟨r, h1, h2⟩, l.left h3⟩
  have C3 : Hid (∀ t, (chk t 1 0).1 = 0 → nmd N M t = true → ∀ v u a cap, Lk v u → Below w.heap.size w v → Kds v t a → Calls Tryd.prog 8 #[.agg #[.int .i64 t.kind, .int .i64 t.num, .slice a t.cnt cap], .slice na N nc] u fun e w' => e = .returned (.tuple #[.string (byt (tx N M t)), .int .i64 0]) ∧ Below v.heap.size v w') := fun t hc hn v u a cap l hv hk => by
    have := print_any (hP.below (hv.trans (l.below _))).sta t a cap (l.kds hk) (by have := wf_two (chk_wf t 1 0 hc).1; omega)
    rw [prv_ok hc hn] at this
    exact this.mono fun _ _ h => ⟨h.1, l.left h.2⟩
  have CZ : Hid (∀ v u, Lk v u → Below w.heap.size w v → Calls Tryd.prog 8 #[.agg #[.int .i64 0, .int .i64 0, .slice none 0 0], .slice na N nc] u fun e w' => (∃ s c, e = .returned (.tuple #[.string s, .int .i64 c])) ∧ Below v.heap.size v w') := fun v u l hv =>
    (print_any (hP.below (hv.trans (l.below _))).sta (nd 0 0) none 0 (kd_out (B := 0) (kd_nd 0 0)) (Nat.zero_le _)).mono fun _ _ h => ⟨⟨_, _, h.1⟩, l.left h.2⟩
  have C4 : Hid (∀ t, (chk t 1 0).1 = 0 → ∀ v u a cap a' cap', Lk v u → Kds v t a → Kds v t a' → Calls Tryd.prog 13 #[.agg #[.int .i64 t.kind, .int .i64 t.num, .slice a t.cnt cap], .agg #[.int .i64 t.kind, .int .i64 t.num, .slice a' t.cnt cap']] u fun e w' => e = .returned (.bool true) ∧ Below v.heap.size v w') := fun t hc v u a cap a' cap' l h h' =>
    (same_any t a a' cap cap' u (l.kds h) (l.kds h') (by have := wf_two (chk_wf t 1 0 hc).1; omega)).mono fun _ _ h => ⟨h.1, l.left h.2⟩
  have HB : Hid (Below w.heap.size w w1) := hB1
  clear hw1 hB1 hM1 hP1 hP hp0 hp1 hp2 hp3 hq hqu
  go_enter Tryd.func6, Tryd.ntmps6
  go_wp2_with fail
  rw [← HE.out]
  refine C0.out.mono ?_
  rintro e w2 ⟨⟨ax, cx, rfl, hk2⟩, b2⟩
  have B2 : Hid (Below w.heap.size w w2) := HB.out.trans (b2.mono HB.out.size)
  obtain ⟨w3, hw3⟩ : ∃ y, y = w2.alloc (.cells #[.int .i64 q.kind, .int .i64 q.num, .slice ax q.cnt cx] 24) := ⟨_, rfl⟩
  have hk3 : Kds w3 q ax := by rw [hw3]; exact hk2.below (box_below _ _)
  have B3 : Hid (Below w.heap.size w w3) := by rw [hw3]; exact B2.out.alloc B2.out.size _
  have hy : Bx w3 w2.heap.size q ax cx := by rw [hw3]; exact bx_new w2 q ax cx
  have y0 := hy.c0
  have y1 := hy.c1
  have y2 := hy.c2
  have HE3 := hid hw3
  have K3 := hid hk3
  clear C0 b2 B2 hk2 hk3 hw3 hy
  go_wp2
  rw [← HE3.out]
  go_region_held3 (fun v => v.cell? ⟨w2.heap.size, 0, none⟩ = some (.int .i64 q.kind) ∧ v.cell? ⟨w2.heap.size, 1, none⟩ = some (.int .i64 q.num) ∧ v.cell? ⟨w2.heap.size, 2, none⟩ = some (.slice ax q.cnt cx)) (first | go_keep)
    (first
      | (go_at_call_of 16 (Value.int .i64 1); refine (A2.out w5 _ ?_).mono ?_; (exact ⟨rfl, rfl, rfl, rfl⟩); rintro e w6 ⟨x2, c2, rfl, k6, b6⟩; have z60 := below_cell b6 (Nat.le_refl _) z50; have z61 := below_cell b6 (Nat.le_refl _) z51; have z62 := below_cell b6 (Nat.le_refl _) z52)
      | (go_at_call_of 16 (Value.int .i64 0); refine (A0.out w6 _ ?_).mono ?_; (exact ⟨rfl, rfl, rfl, rfl⟩); rintro e w7 ⟨x3, c3, rfl, k7, b7⟩; have z70 := below_cell b7 (Nat.le_refl _) z60; have z71 := below_cell b7 (Nat.le_refl _) z61; have z72 := below_cell b7 (Nat.le_refl _) z62)
      | (go_at_call_of 16 (Value.int .i64 0); refine (A0.out w3 _ ?_).mono ?_; (exact ⟨rfl, rfl, rfl, rfl⟩); rintro e w4 ⟨x0, c0, rfl, k4, b4⟩; have z40 := below_cell b4 (Nat.le_refl _) y0; have z41 := below_cell b4 (Nat.le_refl _) y1; have z42 := below_cell b4 (Nat.le_refl _) y2)
      | (go_at_call_of 15 (Value.int .i64 4); refine (A1.out w4 _ ?_ x0 c0 k4).mono ?_; (exact ⟨rfl, rfl, rfl, rfl⟩); rintro e w5 ⟨x1, c1, rfl, k5, b5⟩; have z50 := below_cell b5 (Nat.le_refl _) z40; have z51 := below_cell b5 (Nat.le_refl _) z41; have z52 := below_cell b5 (Nat.le_refl _) z42)
      | (go_at_call_of 14 (Value.int .i64 8); refine (A3.out w7 _ ?_ x2 c2 x3 c3 (k6.below b7) k7).mono ?_; (exact ⟨rfl, rfl, rfl, rfl⟩); rintro e w8 ⟨x4, c4, rfl, k8, b8⟩; have z80 := below_cell b8 (Nat.le_refl _) z70; have z81 := below_cell b8 (Nat.le_refl _) z71; have z82 := below_cell b8 (Nat.le_refl _) z72)
      | (go_at_call_of 14 (Value.int .i64 6); refine (A4.out w8 _ ?_ x1 c1 x4 c4 (((k5.below b6).below b7).below b8) k8).mono ?_; (exact ⟨rfl, rfl, rfl, rfl⟩); rintro e w9 ⟨x5, c5, rfl, k9, b9⟩; have z90 := below_cell b9 (Nat.le_refl _) z80; have z91 := below_cell b9 (Nat.le_refl _) z81; have z92 := below_cell b9 (Nat.le_refl _) z82)
      | (go_at_call 13; refine (A5.out w9 _ ?_ ax cx x5 c5 ((((((K3.out.below b4).below b5).below b6).below b7).below b8).below b9) k9).mono ?_; (exact ⟨rfl, rfl, rfl, rfl⟩); rintro e w10 ⟨rfl, b10⟩; have z100 := below_cell b10 (Nat.le_refl _) z90; have z101 := below_cell b10 (Nat.le_refl _) z91; have z102 := below_cell b10 (Nat.le_refl _) z92)
      | fail)
  have B10 : Hid (Below w.heap.size w w10) := by
    have f4 := B3.out.trans (b4.mono B3.out.size)
    have f5 := f4.trans (b5.mono f4.size)
    have f6 := f5.trans (b6.mono f5.size)
    have f7 := f6.trans (b7.mono f6.size)
    have f8 := f7.trans (b8.mono f7.size)
    have f9 := f8.trans (b9.mono f8.size)
    exact f9.trans (b10.mono f9.size)
  clear A0 A1 A2 A3 A4 A5 K3 B3 HE3 k4 k5 k6 k7 k8 k9 b4 b5 b6 b7 b8 b9 b10 z40 z41 z42 z50 z51 z52 z60 z61 z62 z70 z71 z72 z80 z81 z82 z90 z91 z92 z100 z101 z102 y0 y1 y2
  go_wp2_with fail
  refine (C2.out w10 _ S ?_ B10.out).mono ?_
  · exact ⟨rfl, rfl, rfl, rfl⟩
  rintro e w12 ⟨⟨r, hr, ha⟩, b12⟩
  have B12 : Hid (Below w.heap.size w w12) := B10.out.trans (b12.mono B10.out.size)
  rcases pof_cases hr with ⟨t, hp, hc, hn⟩ | ⟨c, p, hp, hc, hle⟩
  · rw [hp] at ha
    obtain ⟨a, cap, rfl, hk⟩ := ha
    obtain ⟨w13, hw13⟩ : ∃ y, y = w12.alloc (.cells #[.int .i64 t.kind, .int .i64 t.num, .slice a t.cnt cap] 24) := ⟨_, rfl⟩
    have B13 : Hid (Below w.heap.size w w13) := by rw [hw13]; exact B12.out.alloc B12.out.size _
    have hk13 : Kds w13 t a := by rw [hw13]; exact (kd_out hk).below (box_below _ _)
    have hx13 : Bx w13 w12.heap.size t a cap := by rw [hw13]; exact bx_new w12 t a cap
    have K13 : Hid (Kds w13 t a ∧ Bx w13 w12.heap.size t a cap) := ⟨hk13, hx13⟩
    have y0 := hx13.c0
    have y1 := hx13.c1
    have y2 := hx13.c2
    rw [hw13] at y0 y1 y2
    have HE13 := hid hw13
    obtain ⟨T, hT⟩ : ∃ T, T = byt (tx N M t) := ⟨_, rfl⟩
    have D3 := hid (C3.out t hc hn)
    have D4 := hid (C4.out t hc)
    have HR : Hid (∀ r, RxIs N M T r → (300 < T.size ∧ pof T r = .error (2, 0)) ∨ (T.size ≤ 300 ∧ (pof T r = .ok t ∨ ∃ p, p < T.size ∧ pof T r = .error (5, p)))) := fun r h => by
      rw [hT] at h ⊢
      exact back_is hc hn h
    rw [← hT] at D3
    clear C3 C4 hT hw13 hx13 hk13 hk hr hp hc hn b12 B10 r
    go_wp2_with fail
    rw [← HE13.out]
    refine (D3.out w13 _ a cap ?_ B13.out K13.out.1).mono ?_
    · exact ⟨rfl, rfl, rfl, rfl⟩
    rintro e w14 ⟨rfl, b14⟩
    have B14 : Hid (Below w.heap.size w w14) := B13.out.trans (b14.mono B13.out.size)
    have K14 : Hid (Kds w14 t a ∧ Bx w14 w12.heap.size t a cap) := ⟨K13.out.1.below b14, (b14.block _ (Array.getElem?_eq_some_iff.1 K13.out.2).1).trans K13.out.2⟩
    clear b14 K13 B13 HE13 y0 y1 y2
    go_wp2_with fail
    refine (C2.out w14 _ T ?_ B14.out).mono ?_
    · exact ⟨rfl, rfl, rfl, rfl⟩
    rintro e w15 ⟨⟨r, hr, ha⟩, b15⟩
    have B15 : Hid (Below w.heap.size w w15) := B14.out.trans (b15.mono B14.out.size)
    have K15 : Hid (Kds w15 t a ∧ Bx w15 w12.heap.size t a cap) := ⟨K14.out.1.below b15, (b15.block _ (Array.getElem?_eq_some_iff.1 K14.out.2).1).trans K14.out.2⟩
    have hR := HR.out r hr
    clear b15 K14 B14 hr HR C2
    rcases hR with ⟨hl, hp⟩ | ⟨hl, hp | ⟨p, hlt, hp⟩⟩
    · rw [hp] at ha
      obtain rfl := ha
      obtain ⟨w16, hw16⟩ : ∃ y, y = w15.alloc (.cells #[.int .i64 0, .int .i64 0, .slice none 0 0] 24) := ⟨_, rfl⟩
      have B16 : Hid (Below w.heap.size w w16) := by rw [hw16]; exact B15.out.alloc B15.out.size _
      have hx16 : Tri w16 w15.heap.size (.int .i64 0) (.int .i64 0) (.slice none 0 0) := by rw [hw16]; exact tri_new _ _ _ _
      obtain ⟨⟨y0, y1, y2⟩, -⟩ := tri_cells hx16
      rw [hw16] at y0 y1 y2
      have HE16 := hid hw16
      clear hw16 hx16 hp hl D3 D4
      go_wp2_with fail
      rw [← HE16.out]
      refine (CZ.out w16 _ ?_ B16.out).mono ?_
      · exact ⟨rfl, rfl, rfl, rfl⟩
      rintro e w17 ⟨⟨s, c, rfl⟩, b17⟩
      have B17 : Hid (Below w.heap.size w w17) := B16.out.trans (b17.mono B16.out.size)
      clear b17 y0 y1 y2 CZ
      go_wp2
      go_ret
      exact ⟨rfl, B17.out⟩
    · rw [hp] at ha
      obtain ⟨a', cap', rfl, hk⟩ := ha
      obtain ⟨w16, hw16⟩ : ∃ y, y = w15.alloc (.cells #[.int .i64 t.kind, .int .i64 t.num, .slice a' t.cnt cap'] 24) := ⟨_, rfl⟩
      have B16 : Hid (Below w.heap.size w w16) := by rw [hw16]; exact B15.out.alloc B15.out.size _
      have hx16 : Bx w16 w15.heap.size t a' cap' := by rw [hw16]; exact bx_new w15 t a' cap'
      have hk16 : Kds w16 t a' := by rw [hw16]; exact (kd_out hk).below (box_below _ _)
      have K16 : Hid ((Kds w16 t a ∧ Bx w16 w12.heap.size t a cap) ∧ Kds w16 t a' ∧ Bx w16 w15.heap.size t a' cap') := by
        refine ⟨⟨?_, ?_⟩, hk16, hx16⟩
        · rw [hw16]; exact K15.out.1.below (box_below _ _)
        · rw [hw16]; exact ((box_below w15 _).block _ (Array.getElem?_eq_some_iff.1 K15.out.2).1).trans K15.out.2
      have y0 := hx16.c0
      have y1 := hx16.c1
      have y2 := hx16.c2
      rw [hw16] at y0 y1 y2
      have HE16 := hid hw16
      clear hw16 hx16 hk16 hk hp hl CZ K15
      go_wp2_with fail
      rw [← HE16.out]
      refine (D3.out w16 _ a' cap' ?_ B16.out K16.out.2.1).mono ?_
      · exact ⟨rfl, rfl, rfl, rfl⟩
      rintro e w17 ⟨rfl, b17⟩
      have B17 : Hid (Below w.heap.size w w17) := B16.out.trans (b17.mono B16.out.size)
      have K17 : Hid (Kds w17 t a ∧ Kds w17 t a') := ⟨K16.out.1.1.below b17, K16.out.2.1.below b17⟩
      have hx1 : Bx w17 w12.heap.size t a cap := (b17.block _ (Array.getElem?_eq_some_iff.1 K16.out.1.2).1).trans K16.out.1.2
      have hx2 : Bx w17 w15.heap.size t a' cap' := (b17.block _ (Array.getElem?_eq_some_iff.1 K16.out.2.2).1).trans K16.out.2.2
      clear b17 y0 y1 y2 K16 D3 B16 HE16
      have y0 := hx1.c0
      have y1 := hx1.c1
      have y2 := hx1.c2
      have v0 := hx2.c0
      have v1 := hx2.c1
      have v2 := hx2.c2
      clear hx1 hx2
      go_wp2_with fail
      refine (D4.out w17 _ a cap a' cap' ?_ K17.out.1 K17.out.2).mono ?_
      · exact ⟨rfl, rfl, rfl, rfl⟩
      rintro e w18 ⟨rfl, b18⟩
      have B18 : Hid (Below w.heap.size w w18) := B17.out.trans (b18.mono B17.out.size)
      clear b18 y0 y1 y2 v0 v1 v2 D4
      go_wp2
      go_ret
      exact ⟨by first | rfl | simp, B18.out⟩
    · rw [hp] at ha
      obtain rfl := ha
      obtain ⟨w16, hw16⟩ : ∃ y, y = w15.alloc (.cells #[.int .i64 0, .int .i64 0, .slice none 0 0] 24) := ⟨_, rfl⟩
      have B16 : Hid (Below w.heap.size w w16) := by rw [hw16]; exact B15.out.alloc B15.out.size _
      have hx16 : Tri w16 w15.heap.size (.int .i64 0) (.int .i64 0) (.slice none 0 0) := by rw [hw16]; exact tri_new _ _ _ _
      obtain ⟨⟨y0, y1, y2⟩, -⟩ := tri_cells hx16
      rw [hw16] at y0 y1 y2
      have HE16 := hid hw16
      clear hw16 hx16 hp hl hlt D3 D4
      go_wp2_with fail
      rw [← HE16.out]
      refine (CZ.out w16 _ ?_ B16.out).mono ?_
      · exact ⟨rfl, rfl, rfl, rfl⟩
      rintro e w17 ⟨⟨s, c, rfl⟩, b17⟩
      have B17 : Hid (Below w.heap.size w w17) := B16.out.trans (b17.mono B16.out.size)
      clear b17 y0 y1 y2 CZ
      go_wp2
      go_ret
      exact ⟨rfl, B17.out⟩
  · rw [hp] at ha
    obtain rfl := ha
    obtain ⟨w13, hw13⟩ : ∃ y, y = w12.alloc (.cells #[.int .i64 0, .int .i64 0, .slice none 0 0] 24) := ⟨_, rfl⟩
    have B13 : Hid (Below w.heap.size w w13) := by rw [hw13]; exact B12.out.alloc B12.out.size _
    have hx13 : Tri w13 w12.heap.size (.int .i64 0) (.int .i64 0) (.slice none 0 0) := by rw [hw13]; exact tri_new _ _ _ _
    obtain ⟨⟨y0, y1, y2⟩, -⟩ := tri_cells hx13
    rw [hw13] at y0 y1 y2
    have HE13 := hid hw13
    have hb0 : (c == 0) = false := beq_eq_false_iff_ne.2 hc
    have hz1 : (0 : Int) ≤ p := by omega
    have hz2 : (p : Int) ≤ S.size := by omega
    clear hw13 hx13 hp hr hle C2 C3 CZ C4 hc
    go_wp2
    go_ret
    exact ⟨by first | rfl | simp [hz2] | (simp; omega), by first | exact B13.out | (rw [← HE13.out]; exact B13.out)⟩

end Go.Proofs.YtgpjlgffmlkkoaaDoor
