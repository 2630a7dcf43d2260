/- readText. -/
import Derived.Test.YtgpjlgffmlkkoaaDoorFrm
import Derived.RegionTactic
namespace Go.Proofs.YtgpjlgffmlkkoaaDoor
open Go.RowKit

/-- What is read of a whole text: an error and its place, or a formula. -/
def TxIs (N : Nat) (M : Nat → ByteArray) (S : ByteArray) (r : Except (Int × Nat) Fml) : Prop :=
  (∃ c m, Ev N M 0 .leaf (skp S.data.toList) 0 (.error (c, m)) ∧ m ≤ S.size ∧ (c = 3 ∨ c = 4 ∨ c = 5) ∧ r = .error (c, S.size - m)) ∨
    (∃ t, Ev N M 0 .leaf (skp S.data.toList) 0 (.ok (t, [])) ∧ r = .ok t) ∨
    ∃ t s, Ev N M 0 .leaf (skp S.data.toList) 0 (.ok (t, s)) ∧ s ≠ [] ∧ s.length ≤ S.size ∧ r = .error (wrg N M s, S.size - s.length)

/-- What readText answers. -/
def RtAns (V1 V2 V3 V5 : Value) (r : Except (Int × Nat) Fml) (e : Ending) (w' : World) : Prop :=
  match r with
  | .ok t => ∃ (a : Option Addr) (cap : Nat), e = .returned (.tuple #[.agg #[.int .i64 t.kind, .int .i64 t.num, .slice a t.cnt cap], .nilIface]) ∧ Kds w' t a ∧ t.cnt ≤ 2
  | .error (c, p) => ∃ (x y : Int) (a : Option Addr) (n cap : Nat), e = .returned (.tuple #[.agg #[.int .i64 x, .int .i64 y, .slice a n cap], erV V1 V2 V3 V5 c (p : Int)])

set_option maxHeartbeats 4000000 in
theorem readText_large {w : World} {na : Option Addr} {N nc : Nat} {V1 V2 V3 V5 : Value} (hE : Ers w V1 V2 V3 V5) (S : ByteArray) (hS : 300 < S.size) :
    Calls Tryd.prog 23 #[.string S, .slice na N nc] w fun e w' => e = .returned (.tuple #[.agg #[.int .i64 0, .int .i64 0, .slice none 0 0], erV V1 V2 V3 V5 2 0]) ∧ Below w.heap.size w w' := by
  obtain ⟨a1, ha1⟩ := hE.s1
  have g1 := hE.e1
  have h1lt : 1 < w.heap.size := World.block_lt_of_cell? _ _ g1
  obtain ⟨w1, hw1⟩ : ∃ y, y = w.alloc (.cells #[.int .i64 0, .int .i64 0, .slice none 0 0] 24) := ⟨_, rfl⟩
  have hT1 : Tri w1 w.heap.size (.int .i64 0) (.int .i64 0) (.slice none 0 0) := by rw [hw1]; exact tri_new _ _ _ _
  have hB1 : Below w.heap.size w w1 := by rw [hw1]; exact box_below _ _
  have HT := hid hT1
  have HB1 := hid hB1
  have HE := hid hw1
  have g1' := below_cell hB1 (Nat.le_refl _) g1
  obtain ⟨⟨d0, d1, d2⟩, f0, f1, f2⟩ := tri_cells hT1
  have HA := hid ha1
  have hz : (300 : Int) < S.size := by omega
  clear hw1 hT1 hB1 hE
  go_enter Tryd.func23, Tryd.ntmps23
  go_wp2
  rw [← HE.out]
  go_region
  go_wp2
  (try simp only [Exit.inBlock, Exit.then])
  refine bodyPost_ret (results_cell_tmp1 rfl _ _ w.heap.size 24 #[.int .i64 0, .int .i64 0, .slice none 0 0] (0, 0) _ rfl (tri_set HT.out _ _ _) Tryd.underlying24 rfl (by kernel_rfl)) rfl ?_
  refine ⟨?_, below_drewN (below_tri HB1.out (Nat.le_refl _) _ _ _) 1⟩
  simp only [erV]
  rw [HA.out]
  rfl

set_option maxHeartbeats 4000000 in
theorem readText_small {w : World} {na : Option Addr} {N nc : Nat} {M : Nat → ByteArray} {V1 V2 V3 V5 : Value} (hSt : Sta w na N nc M) (hE : Ers w V1 V2 V3 V5) (S : ByteArray) (hS : S.size ≤ 300) :
    Calls Tryd.prog 23 #[.string S, .slice na N nc] w fun e w' => (∃ r, TxIs N M S r ∧ RtAns V1 V2 V3 V5 r e w') ∧ Below w.heap.size w w' := by
  obtain ⟨w2, hw2⟩ : ∃ y, y = (w.alloc (.cells #[.int .i64 0, .int .i64 0, .slice none 0 0] 24)).alloc (.cells #[.string S, .slice na N nc, .int .i64 0, .int .i64 0] 74) := ⟨_, rfl⟩
  have e1 : (w.alloc (.cells #[.int .i64 0, .int .i64 0, .slice none 0 0] 24)).heap.size = w.heap.size + 1 := by simp
  have hB2 : Below w.heap.size w w2 := by rw [hw2]; exact ((Below.refl _ _).alloc (Nat.le_refl _) _).alloc (by rw [e1]; omega) _
  have hT2 : Tri w2 w.heap.size (.int .i64 0) (.int .i64 0) (.slice none 0 0) := by rw [hw2]; exact (tri_new _ _ _ _).alloc _
  have hR2 : Rd w2 (w.heap.size + 1) S na N nc (0 : Nat) ((0 : Nat) : Int) := by rw [hw2, ← e1]; exact Go.Deep.blk_alloc_new _ _
  obtain ⟨z, hz0⟩ : ∃ y : Sp, y = ⟨w, na, N, nc, M, S, w.heap.size + 1, V1, V2, V3, V5⟩ := ⟨_, rfl⟩
  have hz : z.Ok := by
    rw [hz0]
    exact ⟨hSt, hE, by show S.size ≤ 1000; omega, by show w.heap.size ≤ w.heap.size + 1; omega⟩
  have C1 := hid (pass_any (w.heap.size + 1) S na N nc 0 0 ((0 : Nat) : Int) w2 hR2 (by omega) (by omega))
  have HL : Hid (∀ k u, k ≤ S.size → Rd u (w.heap.size + 1) S na N nc k ((0 : Nat) : Int) → Below w.heap.size w u → Calls Tryd.prog 35 #[.pointer (some ⟨w.heap.size + 1, 0, none⟩)] u fun e w' => ∃ r, Ev N M 0 .leaf (lft S k) 0 r ∧ z.Ans u 0 r e w') := fun k u hk hr hb => by
    have hAt : z.At u k 0 := by rw [hz0]; exact ⟨hr, hb, hk⟩
    have hk' : k ≤ z.S.size := by rw [hz0]; exact hk
    have := (levels hz (z.S.size - k) k hk' (Nat.le_refl _)).1 0 (by omega) u hAt
    rw [hz0] at this ⊢
    exact this
  have HW : Hid (∀ k u, z.At u k 0 → Calls Tryd.prog 36 #[.pointer (some ⟨w.heap.size + 1, 0, none⟩)] u fun e w' => e = .returned (erV V1 V2 V3 V5 (wrg N M (lft S k)) k) ∧ Below u.heap.size u w') := fun k u hA => by
    rw [hz0] at hA
    exact wrong_any hSt hE (w.heap.size + 1) S k ((0 : Nat) : Int) u hA.1 hA.2.1 hA.2.2 (by omega)
  have HZ : Hid (z = ⟨w, na, N, nc, M, S, w.heap.size + 1, V1, V2, V3, V5⟩) := hz0
  have HE := hid hw2
  have H2 : Hid (Below w.heap.size w w2 ∧ Tri w2 w.heap.size (.int .i64 0) (.int .i64 0) (.slice none 0 0)) := ⟨hB2, hT2⟩
  have hz3 : ¬ (300 : Int) < S.size := by omega
  have hne : w.heap.size ≠ w.heap.size + 1 := by omega
  clear hw2 e1 hB2 hT2 hR2 hz0 hz hSt hE
  go_enter Tryd.func23, Tryd.ntmps23
  go_wp2_with fail
  rw [← HE.out]
  refine C1.out.mono ?_
  rintro e w3 ⟨rfl, k0, hk0, hl0, hr3, hb3⟩
  have hT3 := H2.out.2.but hb3 hne
  have hB3 : Below w.heap.size w w3 := H2.out.1.trans (hb3.below (by omega) H2.out.1.size)
  have C2 := hid (HL.out k0 w3 hk0 hr3 hB3)
  have hl0' : lft S k0 = skp S.data.toList := hl0
  rw [hl0'] at C2
  have H3 : Hid (Below w.heap.size w w3 ∧ Tri w3 w.heap.size (.int .i64 0) (.int .i64 0) (.slice none 0 0)) := ⟨hB3, hT3⟩
  clear C1 hl0 hl0' hr3 hb3 hB3 hT3 HL
  go_wp2_with fail
  refine C2.out.mono ?_
  rintro e w4 ⟨r, hEv, hb4, hans⟩
  have hb4' : But (w.heap.size + 1) w3 w4 := by rw [HZ.out] at hb4; exact hb4
  have hT4 := H3.out.2.but hb4' hne
  have H4 : Hid (Below w.heap.size w w4 ∧ Tri w4 w.heap.size (.int .i64 0) (.int .i64 0) (.slice none 0 0) ∧ w3.heap.size ≤ w4.heap.size) := ⟨H3.out.1.trans (hb4'.below (by omega) H3.out.1.size), hT4, hb4'.size⟩
  have HEv := hid hEv
  have hxlt := hT4.lt
  have hx3 := H3.out.2.lt
  clear C2 hb4 hb4' hT4 hEv
  cases r with
  | error q =>
    obtain ⟨c, m⟩ := q
    obtain ⟨x, y, a, n, cap, k', rfl, hm, hAt, hcc⟩ := hans
    have hm' : m ≤ S.size := by rw [HZ.out] at hm; exact hm
    have hev : erV z.V1 z.V2 z.V3 z.V5 c ((z.S.size - m : Nat) : Int) = erV V1 V2 V3 V5 c ((S.size - m : Nat) : Int) := by rw [HZ.out]
    rw [hev]
    obtain ⟨ea, hea⟩ : ∃ y, erV V1 V2 V3 V5 c ((S.size - m : Nat) : Int) = .iface 72 y := ⟨_, rfl⟩
    rw [hea]
    have HEa := hid hea
    have HK : Hid (m ≤ S.size ∧ (c = 3 ∨ c = 4 ∨ c = 5)) := ⟨hm', hcc⟩
    obtain ⟨⟨d0, d1, d2⟩, f0, f1, f2⟩ := tri_cells H4.out.2.1
    clear hm hm' hcc hAt hea hev
    go_wp2
    (try simp only [Exit.inBlock, Exit.then])
    refine bodyPost_ret (results_cell_tmp1 rfl _ _ w.heap.size 24 #[.int .i64 x, .int .i64 y, .slice a n cap] (0, 0) _ rfl ((tri_set H4.out.2.1 _ _ _).alloc _) Tryd.underlying24 rfl (by kernel_rfl)) rfl ?_
    refine ⟨⟨_, Or.inl ⟨c, m, HEv.out, HK.out.1, HK.out.2, rfl⟩, x, y, a, n, cap, ?_⟩, (below_tri H4.out.1 (Nat.le_refl _) _ _ _).alloc (by rw [size_tri]; exact H4.out.1.size) _⟩
    rw [HEa.out]
    rfl
  | ok q =>
    obtain ⟨t, s⟩ := q
    obtain ⟨a, cap, k', rfl, hkd, hc, hAt, hs⟩ := hans
    have hs' : s = lft S k' := by rw [HZ.out] at hs; exact hs
    have hR4 : Rd w4 (w.heap.size + 1) S na N nc k' ((0 : Nat) : Int) := by rw [HZ.out] at hAt; exact hAt.1
    have hk' : k' ≤ S.size := by rw [HZ.out] at hAt; exact hAt.2.2
    subst hs'
    obtain ⟨w5, hw5⟩ : ∃ y, y = w4.alloc (.cells #[.int .i64 t.kind, .int .i64 t.num, .slice a t.cnt cap] 24) := ⟨_, rfl⟩
    have hk5 : Kds (hi w3.heap.size w5) t a := by rw [hw5]; exact kd_keep hkd (fun j _ h2 => Go.Deep.blk_alloc_lt _ _ _ h2)
    have hX5 : Tri w5 w4.heap.size (.int .i64 t.kind) (.int .i64 t.num) (.slice a t.cnt cap) := by rw [hw5]; exact tri_new _ _ _ _
    have H5 : Hid (Below w.heap.size w w5 ∧ Tri w5 w.heap.size (.int .i64 0) (.int .i64 0) (.slice none 0 0) ∧ Tri w5 w4.heap.size (.int .i64 t.kind) (.int .i64 t.num) (.slice a t.cnt cap) ∧ Kds (hi w3.heap.size w5) t a ∧ t.cnt ≤ 2 ∧ z.At w5 k' 0) := by
      refine ⟨?_, ?_, hX5, hk5, hc, ?_⟩
      · rw [hw5]; exact H4.out.1.alloc H4.out.1.size _
      · rw [hw5]; exact H4.out.2.1.alloc _
      · rw [hw5]; exact hAt.alloc _
    have c2 := hR4.c2
    have hblt := hR4.lt
    have HE5 := hid hw5
    have hs5 : w5.heap.size = w4.heap.size + 1 := by rw [hw5]; simp
    clear hkd hc hAt hR4 hw5 hk5 hs
    by_cases hend : k' < S.size
    · have hez : (k' : Int) < S.size := by omega
      have hsne : lft S k' ≠ [] := by rw [lft_cons hend]; simp
      have C5 := hid (HW.out k' w5 H5.out.2.2.2.2.2)
      obtain ⟨ea, hea⟩ : ∃ y, erV V1 V2 V3 V5 (wrg N M (lft S k')) k' = .iface 72 y := ⟨_, rfl⟩
      rw [hea] at C5
      have HEa := hid hea
      have HNe := hid hsne
      clear hea hsne hX5
      go_wp2_with fail
      rw [← HE5.out]
      refine C5.out.mono ?_
      rintro e w6 ⟨rfl, hb6⟩
      have hT6 := H5.out.2.1.below hb6 H5.out.2.1.lt
      have hX6 := H5.out.2.2.1.below hb6 H5.out.2.2.1.lt
      obtain ⟨⟨d0, d1, d2⟩, f0, f1, f2⟩ := tri_cells hT6
      obtain ⟨⟨g0, g1, g2⟩, -⟩ := tri_cells hX6
      have H6 : Hid (Below w.heap.size w w6 ∧ Tri w6 w.heap.size (.int .i64 0) (.int .i64 0) (.slice none 0 0)) := ⟨H5.out.1.trans (hb6.mono H5.out.1.size), hT6⟩
      clear C5 hb6 hT6 hX6
      go_wp2
      (try simp only [Exit.inBlock, Exit.then])
      refine bodyPost_ret (results_cell_tmp1 rfl _ _ w.heap.size 24 #[.int .i64 t.kind, .int .i64 t.num, .slice a t.cnt cap] (0, 0) _ rfl (tri_set H6.out.2 _ _ _) Tryd.underlying24 rfl (by kernel_rfl)) rfl ?_
      refine ⟨⟨_, Or.inr (Or.inr ⟨t, _, HEv.out, HNe.out, by rw [lft_len]; omega, rfl⟩), t.kind, t.num, a, t.cnt, cap, ?_⟩, below_tri H6.out.1 (Nat.le_refl _) _ _ _⟩
      rw [lft_len, show S.size - (S.size - k') = k' by omega, HEa.out]
      rfl
    · have hez : ¬ (k' : Int) < S.size := by omega
      have hnil : lft S k' = [] := lft_nil hend
      have HEv2 : Hid (Ev N M 0 .leaf (skp S.data.toList) 0 (.ok (t, []))) := by rw [← hnil]; exact HEv.out
      obtain ⟨⟨d0, d1, d2⟩, f0, f1, f2⟩ := tri_cells H4.out.2.1
      clear hnil hX5 HW
      go_wp2
      (try simp only [Exit.inBlock, Exit.then])
      refine bodyPost_ret (results_cell_tmp1 rfl _ _ w.heap.size 24 #[.int .i64 t.kind, .int .i64 t.num, .slice a t.cnt cap] (0, 0) _ rfl ((tri_set H4.out.2.1 _ _ _).alloc _) Tryd.underlying24 rfl (by kernel_rfl)) rfl ?_
      refine ⟨⟨_, Or.inr (Or.inl ⟨t, HEv2.out, rfl⟩), a, cap, rfl, ?_, H5.out.2.2.2.2.1⟩, (below_tri H4.out.1 (Nat.le_refl _) _ _ _).alloc (by rw [size_tri]; exact H4.out.1.size) _⟩
      refine kd_out (kd_keep H5.out.2.2.2.1 (fun j h1 h2 => ?_))
      have e5 := HE5.out
      by_cases hj : j < w4.heap.size
      · rw [e5, Go.Deep.blk_alloc_lt _ _ _ (by rw [size_tri]; exact hj), blk_tri (by omega), Go.Deep.blk_alloc_lt _ _ _ hj]
      · have ej : j = w4.heap.size := by omega
        subst ej
        rw [e5, Go.Deep.blk_alloc_new]
        have := Go.Deep.blk_alloc_new (((w4.setCell ⟨w.heap.size, 0, none⟩ (.int .i64 t.kind)).setCell ⟨w.heap.size, 1, none⟩ (.int .i64 t.num)).setCell ⟨w.heap.size, 2, none⟩ (.slice a t.cnt cap)) (.cells #[.int .i64 t.kind, .int .i64 t.num, .slice a t.cnt cap] 24)
        rwa [size_tri] at this

end Go.Proofs.YtgpjlgffmlkkoaaDoor
