/- SameLtl of two formulas. Small functions of push and of the document: leaf, part, one, two, isFixed, same. withKids. -/
import Derived.Test.YtmdpbaobihdgkaaGreatDoorLimJ
set_option linter.unusedSimpArgs false
namespace Go.Proofs.YtmdpbaobihdgkaaGreatDoor
open Go.RowKit
theorem same_no {t u : Fml} (h : ¬ (t.kind = u.kind ∧ t.num = u.num ∧ t.cnt = u.cnt)) : same t u = false := by rw [same_eq]; simp [h]
theorem allTo_no {r : Nat → Bool} {n j : Nat} (hj : j < n) (h : r j = false) : allTo r n = false := by
 cases e : allTo r n
 ·rfl
 ·have := (allTo_iff r n).1 e j hj
  rw [h] at this; cases this
end Go.Proofs.YtmdpbaobihdgkaaGreatDoor
namespace Go.Proofs.YtmdpbaobihdgkaaGreatDoor
open Go.RowKit
set_option maxHeartbeats 1000000 in
theorem part_g (k : Int) (a : Option Addr) (c cap : Nat) (w : World) : Calls Tryz.prog 85 #[.int .i64 k, .slice a c cap] w fun e w' => e = .returned (.agg #[.int .i64 k, .int .i64 0, .slice a c cap]) ∧ Below w.heap.size w w' := by
 go_enter Tryz.func85, Tryz.ntmps85
 go_wp2
 refine bodyPost_ret (results_cell_row rfl _ _ w.heap.size 24 #[.int .i64 k, .int .i64 0, .slice a c cap] (0, 0) _ rfl ?_ Tryz.underlying24 rfl (by kernel_rfl)) rfl ?_
 ·exact Go.Deep.blk_alloc_new _ _
 ·exact ⟨rfl, box_below _ _⟩
theorem kn_tw {B : Nat} {w : World} {k : Int} {t t2 : Fml} {a a2 : Option Addr} {cap cap2 b : Nat} (hB : B ≤ b) (hb : w.heap[b]? = some (.cells #[.int .i64 t.kind, .int .i64 t.num, .slice a t.cnt cap, .int .i64 t2.kind, .int .i64 t2.num, .slice a2 t2.cnt cap2] 24)) (hc : t.cnt ≤ 9223372036854775807) (h : Kn B w t a) (hc2 : t2.cnt ≤ 9223372036854775807) (h2 : Kn B w t2 a2) : Kn B w (tw k t t2) (some ⟨b, 0, none⟩) :=
 kds_tw (cap := cap) (cap2 := cap2) ((lim_at (decide_eq_true hB)).trans hb) hc h hc2 h2
def Sm62 (t : Fml) : Prop := ∀ (u : Fml) (a a2 : Option Addr) (cap cap2 : Nat) (w : World), Kds w t a → Kds w u a2 → t.cnt ≤ 9223372036854775807 → u.cnt ≤ 9223372036854775807 →
  Calls Tryz.prog 113 #[.agg #[.int .i64 t.kind, .int .i64 t.num, .slice a t.cnt cap], .agg #[.int .i64 u.kind, .int .i64 u.num, .slice a2 u.cnt cap2]] w fun e w' => e = .returned (.bool (same t u)) ∧ Below w.heap.size w w'
def sameL (c c2 : Nat) (kid kid2 : Nat → Fml) : Bool := decide (c = c2) && allTo (fun i => same (kid i) (kid2 i)) c
set_option maxHeartbeats 2000000 in
theorem equalF72 {w : World} {a a2 : Option Addr} {b o b2 o2 c c2 cap cap2 : Nat} {kid kid2 : Nat → Fml} (ha : 0 < c → a = some ⟨b, o, none⟩) (ha2 : 0 < c2 → a2 = some ⟨b2, o2, none⟩) (hc : c ≤ 9223372036854775807) (hc2 : c2 ≤ 9223372036854775807)
  (hk : KidsAt w b o c kid) (hk2 : KidsAt w b2 o2 c2 kid2) (h62 : ∀ i, i < c → Sm62 (kid i)) :
  Calls Tryz.prog 142 #[.slice a c cap, .slice a2 c2 cap2, .func (.func 113) #[] #[]] w fun e w' => e = .returned (.bool (sameL c c2 kid kid2)) ∧ Below w.heap.size w w' := by
 have HA := hid ha
 have HA2 := hid ha2
 have HK := hid hk
 have HK2 := hid hk2
 have H62 := hid h62
 clear ha ha2 hk hk2 h62
 by_cases q : c = c2
 ·subst q
  have HS : Hid (sameL c c kid kid2 = allTo (fun i => same (kid i) (kid2 i)) c) := hid (by simp [sameL])
  generalize sameL c c kid kid2 = s at *
  go_enter Tryz.func142, Tryz.ntmps142
  go_wp2
  go_loopw [17] (fun i wr => ∃ j : Nat, j ≤ c ∧ i = .int .i64 j ∧ Hid ((∀ i, i < j → same (kid i) (kid2 i) = true) ∧ Below w.heap.size w wr)) (fun i _ => c - (intOf i).toNat)
  case atStart => exact ⟨0, Nat.zero_le _, rfl, hid ⟨fun i hi => absurd hi (Nat.not_lt_zero i), Below.refl _ _⟩⟩
  case round =>
   obtain ⟨j, hj, rfl, HJ⟩ := hrel
   by_cases hlt : j < c
   ·obtain rfl := HA.out (by omega)
    obtain rfl := HA2.out (by omega)
    obtain ⟨ai, ci, p1, p2, p3, p4, p5⟩ := HK.out j hlt
    obtain ⟨ai2, ci2, q1, q2, q3, q4, q5⟩ := HK2.out j hlt
    have hbw := HJ.out.2
    have f1 := below_cell hbw jq0 p1
    have f2 := below_cell hbw jq0 p2
    have f3 := below_cell hbw jq0 p3
    have g1 := below_cell hbw jq0 q1
    have g2 := below_cell hbw jq0 q2
    have g3 := below_cell hbw jq0 q3
    have hb1 : b < wr.heap.size := World.block_lt_of_cell? _ _ f1
    have hb2 : b2 < wr.heap.size := World.block_lt_of_cell? _ _ g1
    have hjz : (j : Int) < c := by omega
    obtain ⟨y, hy⟩ : ∃ y, y = same (kid j) (kid2 j) := ⟨_, rfl⟩
    have HY := hid hy
    obtain ⟨v, hv⟩ : ∃ y, y = (wr.alloc (.cells #[.int .i64 (kid j).kind, .int .i64 (kid j).num, .slice ai (kid j).cnt ci] 24)).alloc (.cells #[.int .i64 (kid2 j).kind, .int .i64 (kid2 j).num, .slice ai2 (kid2 j).cnt ci2] 24) := ⟨_, rfl⟩
    have e1 : (wr.alloc (.cells #[.int .i64 (kid j).kind, .int .i64 (kid j).num, .slice ai (kid j).cnt ci] 24)).heap.size = wr.heap.size + 1 := by simp
    have hBv : Below wr.heap.size wr v := by rw [hv]; exact ((Below.refl _ _).alloc jq0 _).alloc (by rw [e1]; omega) _
    have hBw : Below w.heap.size w v := hbw.trans (hBv.mono hbw.size)
    have C2 := hid (H62.out j hlt (kid2 j) ai ai2 ci ci2 v (p5.below hBw) (q5.below hBw) p4 q4)
    rw [← hy] at C2
    have HV := hid hv
    have HBw := hid hBw
    obtain ⟨kk, hkk⟩ : ∃ x, x = kid j := ⟨_, rfl⟩
    obtain ⟨kl, hkl⟩ : ∃ x, x = kid2 j := ⟨_, rfl⟩
    rw [← hkk] at f1 f2 f3 C2 HV
    rw [← hkl] at g1 g2 g3 C2 HV
    clear hkk hkl hy hv hBv hBw e1 p1 p2 p3 p4 p5 q1 q2 q3 q4 q5 hbw
    go_wp2_with fail
    rw [← HV.out]
    refine C2.out.mono ?_
    rintro e w3 ⟨rfl, hb3⟩
    have H3 : Hid (Below w.heap.size w w3) := HBw.out.trans (hb3.mono HBw.out.size)
    clear hb3 C2
    cases y
    ·go_wp2
     go_ret
     exact ⟨ret_bool (by rw [HS.out]; exact (allTo_no (r := fun i => same (kid i) (kid2 i)) hlt HY.out.symm).symm), H3.out⟩
    ·go_wp2
     go_roundw
     case rel => exact ⟨j + 1, by omega, by go_num, hid ⟨snoc_all HJ.out.1 HY.out.symm, H3.out⟩⟩
     case measure => simp [intOf]; omega
   ·obtain rfl : j = c := by omega
    go_wp2
    go_ret
    exact ⟨ret_bool (by rw [HS.out]; exact ((allTo_iff _ j).2 HJ.out.1).symm), HJ.out.2⟩
 ·have q3z : ((c : Int) != (c2 : Int)) = true := by
   rw [bne_iff_ne]; omega
  have HS : Hid (sameL c c2 kid kid2 = false) := hid (by simp [sameL, q])
  rw [HS.out]
  go_enter Tryz.func142, Tryz.ntmps142
  go_wp2
  go_ret
  exact ⟨rfl, Below.refl _ _⟩
set_option maxHeartbeats 2000000 in
theorem same62 : ∀ t : Fml, Sm62 t := by
 intro t
 induction t using Fml.ind with
 | h t ih =>
 intro u a a2 cap cap2 w h1 h2 hc hc2
 obtain ⟨b, o, ha, hk⟩ := h1.out
 obtain ⟨b2, o2, ha2, hk2⟩ := h2.out
 have ES := hid (same_no (t := t) (u := u))
 have EK : Hid (t.kind = u.kind → t.num = u.num → same t u = sameL t.cnt u.cnt t.kid u.kid) := fun q1 q2 => by
  rw [same_eq, sameL]
  simp [q1, q2]
 obtain ⟨w1, hw1⟩ : ∃ y, y = (w.alloc (.cells #[.int .i64 t.kind, .int .i64 t.num, .slice a t.cnt cap] 24)).alloc (.cells #[.int .i64 u.kind, .int .i64 u.num, .slice a2 u.cnt cap2] 24) := ⟨_, rfl⟩
 have e1 : (w.alloc (.cells #[.int .i64 t.kind, .int .i64 t.num, .slice a t.cnt cap] 24)).heap.size = w.heap.size + 1 := by simp
 have hB1 : Below w.heap.size w w1 := by rw [hw1]; exact ((Below.refl _ _).alloc jq0 _).alloc (by rw [e1]; omega) _
 have C := hid (equalF72 (w := w1) (cap := cap) (cap2 := cap2) (kid := t.kid) (kid2 := u.kid) ha ha2 hc hc2 (fun i hi => by
  obtain ⟨ai, ci, e1, e2, e3, e4, e5⟩ := hk i hi
  exact ⟨ai, ci, below_cell hB1 jq0 e1, below_cell hB1 jq0 e2, below_cell hB1 jq0 e3, e4, e5.below hB1⟩) (fun i hi => by
  obtain ⟨ai, ci, e1, e2, e3, e4, e5⟩ := hk2 i hi
  exact ⟨ai, ci, below_cell hB1 jq0 e1, below_cell hB1 jq0 e2, below_cell hB1 jq0 e3, e4, e5.below hB1⟩) ih)
 have HE := hid hw1
 have HB1 := hid hB1
 clear h1 h2 ha hk ha2 hk2 ih hw1 e1 hB1
 generalize sameL t.cnt u.cnt t.kid u.kid = y at *
 generalize same t u = s at *
 generalize t.kind = k at *
 generalize t.num = n at *
 generalize t.cnt = c at *
 generalize u.kind = k2 at *
 generalize u.num = n2 at *
 generalize u.cnt = c2 at *
 by_cases q1 : k = k2
 ·subst q1
  by_cases q2 : n = n2
  ·subst q2
   have HS : Hid (s = y) := EK.out rfl rfl
   clear ES EK
   go_enter Tryz.func113, Tryz.ntmps113
   go_wp2_with fail
   rw [← HE.out]
   refine C.out.mono ?_
   rintro e w3 ⟨rfl, hb3⟩
   have H3 : Hid (Below w.heap.size w w3) := HB1.out.trans (hb3.mono HB1.out.size)
   clear hb3 C HE
   go_wp2
   go_ret
   exact ⟨ret_bool (by rw [HS.out]), H3.out⟩
  ·have q2z : (n == n2) = false := beq_eq_false_iff_ne.2 q2
   have HS : Hid (s = false) := ES.out (fun h => q2 h.2.1)
   clear q2
   go_enter Tryz.func113, Tryz.ntmps113
   go_wp2
   rw [← HE.out]
   go_ret
   exact ⟨ret_bool HS.out.symm, HB1.out⟩
 ·have q1z : (k == k2) = false := beq_eq_false_iff_ne.2 q1
  have HS : Hid (s = false) := ES.out (fun h => q1 h.1)
  clear q1
  go_enter Tryz.func113, Tryz.ntmps113
  go_wp2
  rw [← HE.out]
  go_ret
  exact ⟨ret_bool HS.out.symm, HB1.out⟩
end Go.Proofs.YtmdpbaobihdgkaaGreatDoor
namespace Go.Proofs.YtmdpbaobihdgkaaGreatDoor
open Go.RowKit
theorem Tryz.info24 : (Tryz.prog.info? 24).map (fun i => (i.zero, i.size, i.bytes)) = some (some (.agg #[.int .i64 0, .int .i64 0, .slice none 0 0]), 3, 40) := by kernel_rfl
theorem info_parts {P : Program} {e : TypeId} {z : Option Value} {s b : Nat} (h : (P.info? e).map (fun i => (i.zero, i.size, i.bytes)) = some (z, s, b)) : ∃ i, P.info? e = some i ∧ i.zero = z ∧ i.size = s ∧ i.bytes = b := by
 obtain ⟨i, hi, he⟩ := Option.map_eq_some_iff.1 h
 simp only [Prod.mk.injEq] at he
 exact ⟨i, hi, he⟩
theorem below_of_drew {w w' : World} (h : Below w.drew.heap.size w.drew w') : Below w.heap.size w w' := ⟨h.os, h.tape, h.output, h.size, h.block⟩
theorem trip_one (k n : Int) (a : Option Addr) (c cap : Nat) : ∀ u ∈ [Value.int .i64 k, .int .i64 n, .slice a c cap], u.oneCell' = true := by
 intro u hu
 simp only [List.mem_cons, List.not_mem_nil, or_false] at hu
 rcases hu with rfl | rfl | rfl <;> rfl
set_option maxHeartbeats 4000000 in
theorem withKids29 {w : World} {k n : Int} {a : Option Addr} {b o c cap : Nat} {kid r : Nat → Fml} (ha : 0 < c → a = some ⟨b, o, none⟩) (hc : c ≤ 2) (hk : KidsAt w b o c kid) (hr : ∀ i, i < c → (r i).cnt ≤ 9223372036854775807)
  (hf : ∀ i, i < c → ∀ (ai : Option Addr) (ci : Nat) (u : World), Below w.heap.size w u → Kds u (kid i) ai → Calls Tryz.prog 42 #[.agg #[.int .i64 (kid i).kind, .int .i64 (kid i).num, .slice ai (kid i).cnt ci]] u fun e u' => Nk u.heap.size u (r i) e u') :
  Calls Tryz.prog 84 #[.agg #[.int .i64 k, .int .i64 n, .slice a c cap], .func (.func 42) #[] #[]] w fun e w' => Nk w.heap.size w (mkn k n c r) e w' := by
 obtain ⟨i0, hi, hz0, hz1, hz2⟩ := info_parts Tryz.info24
 have HI : Hid (Tryz.prog.info? 24 = some i0 ∧ i0.zero = some (.agg #[.int .i64 0, .int .i64 0, .slice none 0 0]) ∧ i0.size = 3 ∧ i0.bytes = 40) := ⟨hi, hz0, hz1, hz2⟩
 have HA := hid ha
 have HK := hid hk
 have HF := hid hf
 have HR := hid hr
 obtain ⟨u1, hu1⟩ : ∃ y, y = (w.alloc (.cells #[.int .i64 k, .int .i64 n, .slice a c cap] 24)).alloc (.cells #[.int .i64 0, .int .i64 0, .slice none 0 0] 24) := ⟨_, rfl⟩
 have e1 : u1.heap.size = w.heap.size + 1 + 1 := by rw [hu1]; simp
 have b1 : Below w.heap.size w u1 := by rw [hu1]; exact ((Below.refl _ _).alloc jq0 _).alloc (by simp) _
 have x1 : Tri u1 (w.heap.size + 1) (.int .i64 0) (.int .i64 0) (.slice none 0 0) := by
  rw [hu1, show w.heap.size + 1 = (w.alloc (.cells #[.int .i64 k, .int .i64 n, .slice a c cap] 24)).heap.size by simp]
  exact tri_new _ _ _ _
 obtain ⟨u2, hu2⟩ : ∃ y, y = u1.alloc (.cells #[.int .i64 k, .int .i64 n, .slice none 0 0] 24) := ⟨_, rfl⟩
 have b2 : Below u1.heap.size u1 u2 := by rw [hu2]; exact box_below _ _
 have x2 : Tri u2 (w.heap.size + 1 + 1) (.int .i64 k) (.int .i64 n) (.slice none 0 0) := by rw [hu2, ← e1]; exact tri_new _ _ _ _
 have HS : Hid (Below w.heap.size w u2 ∧ Tri u2 (w.heap.size + 1) (.int .i64 0) (.int .i64 0) (.slice none 0 0) ∧ Tri u2 (w.heap.size + 1 + 1) (.int .i64 k) (.int .i64 n) (.slice none 0 0) ∧ Gk u2 (w.heap.size + 1 + 1) (w.heap.size + 1 + 1) 0 r (.slice none 0 0)) :=
  ⟨b1.trans (b2.mono b1.size), x1.below b2, x2, Gk.start r jq0 x2.lt⟩
 have HU1 := hid hu1
 have HU2 := hid hu2
 clear ha hk hf hr hu1 hu2 e1 b1 x1 b2 x2 hi hz0 hz1 hz2
 go_enter Tryz.func84, Tryz.ntmps84
 go_wp2
 rw [← HU1.out, ← HU2.out]
 clear HU1 HU2
 go_loopw [16] (fun i wr => ∃ j : Nat, j ≤ c ∧ i = .int .i64 j ∧ ∃ v, Hid (Below w.heap.size w wr ∧ Tri wr (w.heap.size + 1) (.int .i64 0) (.int .i64 0) (.slice none 0 0) ∧ Tri wr (w.heap.size + 1 + 1) (.int .i64 k) (.int .i64 n) v ∧ Gk wr (w.heap.size + 1 + 1) (w.heap.size + 1 + 1) j r v)) (fun i _ => c - (intOf i).toNat)
 case atStart => exact ⟨0, Nat.zero_le _, rfl, _, HS⟩
 case round =>
  obtain ⟨j, hj, rfl, v, HJ⟩ := hrel
  clear HS
  by_cases hlt : j < c
  ·obtain rfl := HA.out (by omega)
   obtain ⟨ai, ci, p1, p2, p3, p4, p5⟩ := HK.out j hlt
   have y1 := below_cell HJ.out.1 jq0 p1
   have y2 := below_cell HJ.out.1 jq0 p2
   have y3 := below_cell HJ.out.1 jq0 p3
   have hjz : (j : Int) < c := by omega
   obtain ⟨kk, hkk⟩ : ∃ y, y = kid j := ⟨_, rfl⟩
   rw [← hkk] at y1 y2 y3
   obtain ⟨rr, hrr⟩ : ∃ y, y = r j := ⟨_, rfl⟩
   have HRR := hid hrr
   have C : Hid (∀ z : World, Below w.heap.size w z → Calls Tryz.prog 42 #[.agg #[.int .i64 kk.kind, .int .i64 kk.num, .slice ai kk.cnt ci]] z fun e w' => Nk z.heap.size z rr e w') := fun z hz => by
    have := HF.out j hlt ai ci z hz (p5.below hz)
    rw [← hkk, ← hrr] at this
    exact this
   obtain ⟨U0, hU0⟩ : ∃ y, y = wr.alloc (.cells #[.int .i64 kk.kind, .int .i64 kk.num, .slice ai kk.cnt ci] 24) := ⟨_, rfl⟩
   have hB0 : Below wr.heap.size wr U0 := by rw [hU0]; exact box_below _ _
   have hs0 : U0.heap.size = wr.heap.size + 1 := by rw [hU0]; simp
   have hx0 : Tri U0 wr.heap.size (.int .i64 kk.kind) (.int .i64 kk.num) (.slice ai kk.cnt ci) := by rw [hU0]; exact tri_new _ _ _ _
   have H0 : Hid (Below w.heap.size w U0 ∧ Tri U0 (w.heap.size + 1) (.int .i64 0) (.int .i64 0) (.slice none 0 0) ∧ Tri U0 (w.heap.size + 1 + 1) (.int .i64 k) (.int .i64 n) v ∧ Gk U0 (w.heap.size + 1 + 1) (w.heap.size + 1 + 1) j r v) :=
    ⟨HJ.out.1.trans (hB0.mono HJ.out.1.size), HJ.out.2.1.below hB0, HJ.out.2.2.1.below hB0, HJ.out.2.2.2.below hB0⟩
   have hgb : w.heap.size + 1 + 1 < wr.heap.size := HJ.out.2.2.2.lt
   obtain ⟨d0, d1, d2⟩ := (tri_cells hx0).1
   obtain ⟨-, -, kv⟩ := (tri_cells H0.out.2.2.1).1
   have HU0 := hid hU0
   clear hU0 hB0 hx0 hkk hrr p1 p2 p3 p4 p5
   go_wp2
   rw [← HU0.out]
   clear HU0 y1 y2 y3
   refine G_region (fun z => z.cell? ⟨w.heap.size + 1 + 1, 2, none⟩ = some v ∧ z.cell? ⟨wr.heap.size, 0, none⟩ = some (.int .i64 kk.kind) ∧ z.cell? ⟨wr.heap.size, 1, none⟩ = some (.int .i64 kk.num) ∧ z.cell? ⟨wr.heap.size, 2, none⟩ = some (.slice ai kk.cnt ci)) (fun j => j == 8) (by kernel_rfl) ⟨kv, d0, d1, d2⟩ (fun hHeld => ?_)
   refine G_tk (i := 0) (oi := { dst := some 20, op := Op.fieldAddr 24 (Operand.tmp 5) 2, type := 0, pos := _, after := #[], guard := none }) (v := .pointer (some ⟨w.heap.size + 1 + 1, 2, none⟩)) hHeld ?_
   (try simp only [Act.put, jq1, jq2, jq3])
   refine G_tk (i := 1) (oi := { dst := some 21, op := Op.load 22 (Operand.tmp 20), type := 22, pos := _, after := #[{ on := 0, ground := Ground.data }], guard := none }) (v := v) hHeld ?_
   (try simp only [Act.put, jq1, jq2, jq3])
   refine G_tk (i := 2) (oi := { dst := some 22, op := Op.move (Operand.tmp 1), type := 92, pos := _, after := #[], guard := none }) (v := .func (.func 42) #[] #[]) hHeld ?_
   (try simp only [Act.put, jq1, jq2, jq3])
   refine G_tk (i := 3) (oi := { dst := some 23, op := Op.load 24 (Operand.tmp 7), type := 24, pos := _, after := #[], guard := none }) (v := .agg #[.int .i64 kk.kind, .int .i64 kk.num, .slice ai kk.cnt ci]) hHeld ?_
   (try simp only [Act.put, jq1, jq2, jq3])
   refine G_step (i := 4) (o := _) (by kernel_rfl) rfl (fun K' hK => ?_)
   go_simp
   go_at_call 42
   refine (C.out _ (below_drewN H0.out.1 1)).mono ?_
   rintro e w2 ⟨a3, c3, rfl, hk3, hb3⟩
   dsimp only
   have hv4 := below_of_drew hb3
   have akv := below_cell hv4 jq0 kv
   have ad0 := below_cell hv4 jq0 d0
   have ad1 := below_cell hv4 jq0 d1
   have ad2 := below_cell hv4 jq0 d2
   refine hK.out _ _ (fun _ => ?_) (fun hS2 => ?_)
   ·exact ⟨akv, ad0, ad1, ad2⟩
   have hHeld2 := hS2 rfl
   clear hK K' hS2 hHeld
   (try simp only [Act.put, jq1, jq2, jq3])
   have hk3' : Kn U0.heap.size w2 rr a3 := hk3
   have H2 : Hid (Below w.heap.size w w2 ∧ Tri w2 (w.heap.size + 1) (.int .i64 0) (.int .i64 0) (.slice none 0 0) ∧ Tri w2 (w.heap.size + 1 + 1) (.int .i64 k) (.int .i64 n) v ∧ Gk w2 (w.heap.size + 1 + 1) (w.heap.size + 1 + 1) j r v ∧ Kn U0.heap.size w2 rr a3 ∧ ∀ g, v.ownBlock = some g → g < U0.heap.size) :=
    ⟨H0.out.1.trans (hv4.mono H0.out.1.size), H0.out.2.1.below hv4, H0.out.2.2.1.below hv4, H0.out.2.2.2.below hv4, hk3', fun g hg => (H0.out.2.2.2.own g hg).2⟩
   clear hk3 hk3' hb3 hv4 C
   refine G_step (i := 5) (o := _) (by kernel_rfl) rfl (fun K' hK => ?_)
   go_simp
   obtain ⟨U, hU⟩ : ∃ y, y = w2.alloc (.cells #[.int .i64 rr.kind, .int .i64 rr.num, .slice a3 rr.cnt c3] 24) := ⟨_, rfl⟩
   have hBU : Below w2.heap.size w2 U := by rw [hU]; exact box_below _ _
   have hUb : U.heap[w2.heap.size]? = some (.cells #[.int .i64 rr.kind, .int .i64 rr.num, .slice a3 rr.cnt c3] 24) := by rw [hU]; exact Go.Deep.blk_alloc_new _ _
   have hUs : U.heap.size = w2.heap.size + 1 := by rw [hU]; simp
   rw [← hU]
   clear hU
   have bkv := below_cell hBU jq0 akv
   have bd0 := below_cell hBU jq0 ad0
   have bd1 := below_cell hBU jq0 ad1
   have bd2 := below_cell hBU jq0 ad2
   refine hK.out _ _ (fun _ => ?_) (fun hS2 => ?_)
   ·exact ⟨bkv, bd0, bd1, bd2⟩
   have hHeld3 := hS2 rfl
   clear hK K' hS2 hHeld2
   (try simp only [Act.put, jq1, jq2, jq3])
   have HGU : Hid (Gk U (w.heap.size + 1 + 1) (w.heap.size + 1 + 1) j r v ∧ Below w.heap.size w U ∧ Tri U (w.heap.size + 1) (.int .i64 0) (.int .i64 0) (.slice none 0 0) ∧ Tri U (w.heap.size + 1 + 1) (.int .i64 k) (.int .i64 n) v ∧ Kn U0.heap.size U rr a3) := ⟨H2.out.2.2.2.1.below hBU, H2.out.1.trans (hBU.mono H2.out.1.size), H2.out.2.1.below hBU, H2.out.2.2.1.below hBU, H2.out.2.2.2.2.1.below hBU⟩
   obtain ⟨A, C, hown0, hA0⟩ := HGU.out.1.list
   have HO : Hid (U.ownsRow (w.heap.size + 1 + 1 + 1) 24 3 v j (kvs r A C j) ∧ ∀ i, i < j → Kds (lim (okB (w.heap.size + 1 + 1) (w.heap.size + 1 + 1) v) U) (r i) (A i)) := ⟨hown0, hA0⟩
   have HKS : Hid (w.heap.size + 1 + 1 + 1 ≤ U.heap.size) := HGU.out.1.lt
   have hj2 : j ≤ 2 := by omega
   clear hown0 hA0
   refine G_step (i := 6) (o := _) (by kernel_rfl) rfl (fun K' hK => ?_)
   refine step_append_lies _ (by rfl) _ _ _ (by rfl) (w.heap.size + 1 + 1 + 1) 24 i0 _ 3 40 Tryz.underlying22 HI.out.1 HI.out.2.1 HI.out.2.2.1 HI.out.2.2.2 rfl (by omega) v j (kvs r A C j) (by rfl) HO.out.1 ⟨w2.heap.size, 0, none⟩ 1 1 [.int .i64 rr.kind, .int .i64 rr.num, .slice a3 rr.cnt c3] (by rfl) (by rfl) (World.news_of_block (cs := #[.int .i64 rr.kind, .int .i64 rr.num, .slice a3 rr.cnt c3]) (t := 24) (fr := (0, 0)) hUb) (trip_one _ _ _ _ _) (by omega) (by unfold maxLen; omega) (by omega) HKS.out (w2.heap.size + 1) hUs ?_
   intro gg gc w4 hown hgrow hat _
   have ckv := HGU.out.1.keep hgrow jq0 bkv
   have hx4 : w4.heap[wr.heap.size]? = U.heap[wr.heap.size]? := grown_block hgrow (World.block_lt_of_cell? _ _ bd0) (fun e => by have := (HJ.out.2.2.2.own _ e).2; omega)
   have cd0 : w4.cell? ⟨wr.heap.size, 0, none⟩ = some (.int .i64 kk.kind) := by rw [World.cell?_of_block hx4]; exact bd0
   have cd1 : w4.cell? ⟨wr.heap.size, 1, none⟩ = some (.int .i64 kk.num) := by rw [World.cell?_of_block hx4]; exact bd1
   have cd2 : w4.cell? ⟨wr.heap.size, 2, none⟩ = some (.slice ai kk.cnt ci) := by rw [World.cell?_of_block hx4]; exact bd2
   have ct4 : Tri w4 (w.heap.size + 1 + 1) (.int .i64 k) (.int .i64 n) v := (HGU.out.1.keepb hgrow jq0).trans HGU.out.2.2.2.1
   obtain ⟨-, -, -, cfz⟩ := tri_cells ct4
   have cr4 : Tri w4 (w.heap.size + 1) (.int .i64 0) (.int .i64 0) (.slice none 0 0) := (HGU.out.1.keepb hgrow (Nat.le_succ _)).trans HGU.out.2.2.1
   have H4 : Hid (Below w.heap.size w (w4.setCell ⟨w.heap.size + 1 + 1, 2, none⟩ (.slice (some ⟨gg, 0, none⟩) (j + 1) gc)) ∧ Tri (w4.setCell ⟨w.heap.size + 1 + 1, 2, none⟩ (.slice (some ⟨gg, 0, none⟩) (j + 1) gc)) (w.heap.size + 1) (.int .i64 0) (.int .i64 0) (.slice none 0 0) ∧ Tri (w4.setCell ⟨w.heap.size + 1 + 1, 2, none⟩ (.slice (some ⟨gg, 0, none⟩) (j + 1) gc)) (w.heap.size + 1 + 1) (.int .i64 k) (.int .i64 n) (.slice (some ⟨gg, 0, none⟩) (j + 1) gc) ∧ Gk (w4.setCell ⟨w.heap.size + 1 + 1, 2, none⟩ (.slice (some ⟨gg, 0, none⟩) (j + 1) gc)) (w.heap.size + 1 + 1) (w.heap.size + 1 + 1) (j + 1) r (.slice (some ⟨gg, 0, none⟩) (j + 1) gc)) := by
    have hrr := HRR.out
    rw [hrr] at hown
    have hkn := HGU.out.2.2.2.2
    rw [hrr] at hkn
    refine ⟨(HGU.out.2.1.trans ((HGU.out.1.low hgrow).mono (by omega))).setCell (show w.heap.size ≤ w.heap.size + 1 + 1 by omega) _, (Go.Deep.blk_setCell_other _ _ _ _ (by show w.heap.size + 1 ≠ w.heap.size + 1 + 1; omega)).trans cr4, tri_set2 ct4 _, ?_⟩
    exact (Gk.step HGU.out.1 HO.out.2 hkn (by omega) H2.out.2.2.2.2.2 hgrow (by rw [hUs]; exact hat) hown).set 2 _
   refine hK.out _ _ (fun _ => ?_) (fun hS2 => ?_)
   ·exact ⟨ckv, cd0, cd1, cd2⟩
   have hHeld4 := hS2 rfl
   clear hK K' hS2 hHeld3
   (try simp only [Act.put, jq1, jq2, jq3])
   refine G_tk (i := 7) (oi := { dst := some 27, op := Op.fieldAddr 24 (Operand.tmp 5) 2, type := 0, pos := _, after := #[{ on := 0, ground := Ground.phase }, { on := 1, ground := Ground.phase }, { on := 2, ground := Ground.phase }, { on := 3, ground := Ground.phase }, { on := 4, ground := Ground.phase }, { on := 5, ground := Ground.phase }, { on := 6, ground := Ground.phase }], guard := none }) (v := .pointer (some ⟨w.heap.size + 1 + 1, 2, none⟩)) hHeld4 ?_
   (try simp only [Act.put, jq1, jq2, jq3])
   refine G_step (i := 8) (o := _) (by kernel_rfl) rfl (fun K' hK => ?_)
   go_simp
   refine hK.out _ _ (fun h => absurd h (by decide)) (fun _ => ?_)
   clear hK K' hHeld4
   (try simp only [Act.put, jq1, jq2, jq3])
   refine G_done (by kernel_rfl) ?_ _
   clear H2 HGU HO HKS hBU hUb hUs hown hgrow hat akv ad0 ad1 ad2 bkv bd0 bd1 bd2 ckv cd0 cd1 cd2 cfz ct4 cr4 hx4 d0 d1 d2 kv HJ H0 HRR hs0
   go_wp2
   go_roundw
   case rel => exact ⟨j + 1, by omega, by go_num, _, H4⟩
   case measure => simp [intOf]; omega
  ·obtain rfl : c = j := by omega
   obtain ⟨ka, kc, rfl, hKn⟩ := HJ.out.2.2.2.done HR.out
   obtain ⟨⟨f0, f1, f2⟩, -⟩ := tri_cells HJ.out.2.2.1
   obtain ⟨⟨r0, r1, r2⟩, z0, z1, z2⟩ := tri_cells HJ.out.2.1
   have HKn := hid (hKn k n)
   have HT := hid HJ.out.2.1
   have HB := hid HJ.out.1
   have hlt1 := HJ.out.2.1.lt
   have hlt2 := HJ.out.2.2.1.lt
   clear hKn HJ
   go_wp2
   (try simp only [Exit.inBlock, Exit.then])
   refine bodyPost_ret (results_cell_row rfl _ _ (w.heap.size + 1) 24 #[.int .i64 k, .int .i64 n, .slice ka c kc] (0, 0) _ rfl (tri_set HT.out _ _ _) Tryz.underlying24 rfl (by kernel_rfl)) rfl ?_
   exact ⟨ka, kc, rfl, HKn.out.keep (by omega) (fun x h1 _ => blk_tri (by omega) _ _ _), below_tri HB.out (by omega) _ _ _⟩
end Go.Proofs.YtmdpbaobihdgkaaGreatDoor
