/- Small functions of push and of the document: leaf, part, one, two, isFixed, same. -/
import Derived.Test.YtmdpbaobihdgkaaGreatDoorPsh2J
namespace Go.Proofs.YtmdpbaobihdgkaaGreatDoor
open Go.RowKit

set_option maxHeartbeats 1000000 in
theorem part_g (k : Int) (a : Option Addr) (c cap : Nat) (w : World) : Calls Tryz.prog 85 #[.int .i64 k, .slice a c cap] w fun e w' => e = .returned (.agg #[.int .i64 k, .int .i64 0, .slice a c cap]) ∧ Below w.heap.size w w' := by
  go_enter Tryz.func85, Tryz.ntmps85
  go_wp2
  refine bodyPost_ret (results_cell_row rfl _ _ w.heap.size 24 #[.int .i64 k, .int .i64 0, .slice a c cap] (0, 0) _ rfl ?_ Tryz.underlying24 rfl (by kernel_rfl)) rfl ?_
  · exact Go.Deep.blk_alloc_new _ _
  · exact ⟨rfl, box_below _ _⟩

theorem kn_tw {B : Nat} {w : World} {k : Int} {t t2 : Fml} {a a2 : Option Addr} {cap cap2 b : Nat} (hB : B ≤ b) (hb : w.heap[b]? = some (.cells #[.int .i64 t.kind, .int .i64 t.num, .slice a t.cnt cap, .int .i64 t2.kind, .int .i64 t2.num, .slice a2 t2.cnt cap2] 24)) (hc : t.cnt ≤ 9223372036854775807) (h : Kn B w t a) (hc2 : t2.cnt ≤ 9223372036854775807) (h2 : Kn B w t2 a2) : Kn B w (tw k t t2) (some ⟨b, 0, none⟩) :=
  kds_tw (cap := cap) (cap2 := cap2) ((lim_at (decide_eq_true hB)).trans hb) hc h hc2 h2

/-- What push's same answers of a formula and whatever other. -/
def Sm62 (t : Fml) : Prop := ∀ (u : Fml) (a a2 : Option Addr) (cap cap2 : Nat) (w : World), Kds w t a → Kds w u a2 → t.cnt ≤ 9223372036854775807 → u.cnt ≤ 9223372036854775807 →
    Calls Tryz.prog 113 #[.agg #[.int .i64 t.kind, .int .i64 t.num, .slice a t.cnt cap], .agg #[.int .i64 u.kind, .int .i64 u.num, .slice a2 u.cnt cap2]] w fun e w' => e = .returned (.bool (same t u)) ∧ Below w.heap.size w w'

/-- Two lists of Kids are the same. -/
def sameL (c c2 : Nat) (kid kid2 : Nat → Fml) : Bool := decide (c = c2) && allTo (fun i => same (kid i) (kid2 i)) c

set_option maxHeartbeats 2000000 in
theorem equalF72 {w : World} {a a2 : Option Addr} {b o b2 o2 c c2 cap cap2 : Nat} {kid kid2 : Nat → Fml} (ha : 0 < c → a = some ⟨b, o, none⟩) (ha2 : 0 < c2 → a2 = some ⟨b2, o2, none⟩) (hc : c ≤ 9223372036854775807) (hc2 : c2 ≤ 9223372036854775807)
    (hk : KidsAt w b o c kid) (hk2 : KidsAt w b2 o2 c2 kid2) (h62 : ∀ i, i < c → Sm62 (kid i)) :
    Calls Tryz.prog 142 #[.slice a c cap, .slice a2 c2 cap2, .func (.func 113) #[] #[]] w fun e w' => e = .returned (.bool (sameL c c2 kid kid2)) ∧ Below w.heap.size w w' := by
  have HA := hid ha
  have HA2 := hid ha2
  have HK := hid hk
  have HK2 := hid hk2
  have H62 := hid h62
  clear ha ha2 hk hk2 h62
  by_cases q : c = c2
  · subst q
    have HS : Hid (sameL c c kid kid2 = allTo (fun i => same (kid i) (kid2 i)) c) := hid (by simp [sameL])
    generalize sameL c c kid kid2 = s at *
    go_enter Tryz.func142, Tryz.ntmps142
    go_wp2
    go_loopw [17] (fun i wr => ∃ j : Nat, j ≤ c ∧ i = .int .i64 j ∧ Hid ((∀ i, i < j → same (kid i) (kid2 i) = true) ∧ Below w.heap.size w wr)) (fun i _ => c - (intOf i).toNat)
    case atStart => exact ⟨0, Nat.zero_le _, rfl, hid ⟨fun i hi => absurd hi (Nat.not_lt_zero i), Below.refl _ _⟩⟩
    case round =>
      obtain ⟨j, hj, rfl, HJ⟩ := hrel
      by_cases hlt : j < c
      · obtain rfl := HA.out (by omega)
        obtain rfl := HA2.out (by omega)
        obtain ⟨ai, ci, p1, p2, p3, p4, p5⟩ := HK.out j hlt
        obtain ⟨ai2, ci2, q1, q2, q3, q4, q5⟩ := HK2.out j hlt
        have hbw := HJ.out.2
        have f1 := below_cell hbw (Nat.le_refl _) p1
        have f2 := below_cell hbw (Nat.le_refl _) p2
        have f3 := below_cell hbw (Nat.le_refl _) p3
        have g1 := below_cell hbw (Nat.le_refl _) q1
        have g2 := below_cell hbw (Nat.le_refl _) q2
        have g3 := below_cell hbw (Nat.le_refl _) q3
        have hb1 : b < wr.heap.size := World.block_lt_of_cell? _ _ f1
        have hb2 : b2 < wr.heap.size := World.block_lt_of_cell? _ _ g1
        have hjz : (j : Int) < c := by omega
        obtain ⟨y, hy⟩ : ∃ y, y = same (kid j) (kid2 j) := ⟨_, rfl⟩
        have HY := hid hy
        obtain ⟨v, hv⟩ : ∃ y, y = (wr.alloc (.cells #[.int .i64 (kid j).kind, .int .i64 (kid j).num, .slice ai (kid j).cnt ci] 24)).alloc (.cells #[.int .i64 (kid2 j).kind, .int .i64 (kid2 j).num, .slice ai2 (kid2 j).cnt ci2] 24) := ⟨_, rfl⟩
        have e1 : (wr.alloc (.cells #[.int .i64 (kid j).kind, .int .i64 (kid j).num, .slice ai (kid j).cnt ci] 24)).heap.size = wr.heap.size + 1 := by simp
        have hBv : Below wr.heap.size wr v := by rw [hv]; exact ((Below.refl _ _).alloc (Nat.le_refl _) _).alloc (by rw [e1]; omega) _
        have hBw : Below w.heap.size w v := hbw.trans (hBv.mono hbw.size)
        have C2 := hid (H62.out j hlt (kid2 j) ai ai2 ci ci2 v (p5.below hBw) (q5.below hBw) p4 q4)
        rw [← hy] at C2
        have HV := hid hv
        have HBw := hid hBw
        obtain ⟨kk, hkk⟩ : ∃ x, x = kid j := ⟨_, rfl⟩
        obtain ⟨kl, hkl⟩ : ∃ x, x = kid2 j := ⟨_, rfl⟩
        rw [← hkk] at f1 f2 f3 C2 HV
        rw [← hkl] at g1 g2 g3 C2 HV
        clear hkk hkl hy hv hBv hBw e1 p1 p2 p3 p4 p5 q1 q2 q3 q4 q5 hbw
        go_wp2_with fail
        rw [← HV.out]
        refine C2.out.mono ?_
        rintro e w3 ⟨rfl, hb3⟩
        have H3 : Hid (Below w.heap.size w w3) := HBw.out.trans (hb3.mono HBw.out.size)
        clear hb3 C2
        cases y
        · go_wp2
          go_ret
          exact ⟨ret_bool (by rw [HS.out]; exact (allTo_no (r := fun i => same (kid i) (kid2 i)) hlt HY.out.symm).symm), H3.out⟩
        · go_wp2
          go_roundw
          case rel => exact ⟨j + 1, by omega, by go_num, hid ⟨snoc_all HJ.out.1 HY.out.symm, H3.out⟩⟩
          case measure => simp [intOf]; omega
      · obtain rfl : j = c := by omega
        go_wp2
        go_ret
        exact ⟨ret_bool (by rw [HS.out]; exact ((allTo_iff _ j).2 HJ.out.1).symm), HJ.out.2⟩
  · have q3z : ((c : Int) != (c2 : Int)) = true := by
      rw [bne_iff_ne]; omega
    have HS : Hid (sameL c c2 kid kid2 = false) := hid (by simp [sameL, q])
    rw [HS.out]
    go_enter Tryz.func142, Tryz.ntmps142
    go_wp2
    go_ret
    exact ⟨rfl, Below.refl _ _⟩

set_option maxHeartbeats 2000000 in
theorem same62 : ∀ t : Fml, Sm62 t := by
  intro t
  induction t using Fml.ind with
  | h t ih =>
  intro u a a2 cap cap2 w h1 h2 hc hc2
  obtain ⟨b, o, ha, hk⟩ := h1.out
  obtain ⟨b2, o2, ha2, hk2⟩ := h2.out
  have ES := hid (same_no (t := t) (u := u))
  have EK : Hid (t.kind = u.kind → t.num = u.num → same t u = sameL t.cnt u.cnt t.kid u.kid) := fun q1 q2 => by
    rw [same_eq, sameL]
    simp [q1, q2]
  obtain ⟨w1, hw1⟩ : ∃ y, y = (w.alloc (.cells #[.int .i64 t.kind, .int .i64 t.num, .slice a t.cnt cap] 24)).alloc (.cells #[.int .i64 u.kind, .int .i64 u.num, .slice a2 u.cnt cap2] 24) := ⟨_, rfl⟩
  have e1 : (w.alloc (.cells #[.int .i64 t.kind, .int .i64 t.num, .slice a t.cnt cap] 24)).heap.size = w.heap.size + 1 := by simp
  have hB1 : Below w.heap.size w w1 := by rw [hw1]; exact ((Below.refl _ _).alloc (Nat.le_refl _) _).alloc (by rw [e1]; omega) _
  have C := hid (equalF72 (w := w1) (cap := cap) (cap2 := cap2) (kid := t.kid) (kid2 := u.kid) ha ha2 hc hc2 (fun i hi => by
    obtain ⟨ai, ci, e1, e2, e3, e4, e5⟩ := hk i hi
    exact ⟨ai, ci, below_cell hB1 (Nat.le_refl _) e1, below_cell hB1 (Nat.le_refl _) e2, below_cell hB1 (Nat.le_refl _) e3, e4, e5.below hB1⟩) (fun i hi => by
    obtain ⟨ai, ci, e1, e2, e3, e4, e5⟩ := hk2 i hi
    exact ⟨ai, ci, below_cell hB1 (Nat.le_refl _) e1, below_cell hB1 (Nat.le_refl _) e2, below_cell hB1 (Nat.le_refl _) e3, e4, e5.below hB1⟩) ih)
  have HE := hid hw1
  have HB1 := hid hB1
  clear h1 h2 ha hk ha2 hk2 ih hw1 e1 hB1
  generalize sameL t.cnt u.cnt t.kid u.kid = y at *
  generalize same t u = s at *
  generalize t.kind = k at *
  generalize t.num = n at *
  generalize t.cnt = c at *
  generalize u.kind = k2 at *
  generalize u.num = n2 at *
  generalize u.cnt = c2 at *
  by_cases q1 : k = k2
  · subst q1
    by_cases q2 : n = n2
    · subst q2
      have HS : Hid (s = y) := EK.out rfl rfl
      clear ES EK
      go_enter Tryz.func113, Tryz.ntmps113
      go_wp2_with fail
      rw [← HE.out]
      refine C.out.mono ?_
      rintro e w3 ⟨rfl, hb3⟩
      have H3 : Hid (Below w.heap.size w w3) := HB1.out.trans (hb3.mono HB1.out.size)
      clear hb3 C HE
      go_wp2
      go_ret
      exact ⟨ret_bool (by rw [HS.out]), H3.out⟩
    · have q2z : (n == n2) = false := beq_eq_false_iff_ne.2 q2
      have HS : Hid (s = false) := ES.out (fun h => q2 h.2.1)
      clear q2
      go_enter Tryz.func113, Tryz.ntmps113
      go_wp2
      rw [← HE.out]
      go_ret
      exact ⟨ret_bool HS.out.symm, HB1.out⟩
  · have q1z : (k == k2) = false := beq_eq_false_iff_ne.2 q1
    have HS : Hid (s = false) := ES.out (fun h => q1 h.1)
    clear q1
    go_enter Tryz.func113, Tryz.ntmps113
    go_wp2
    rw [← HE.out]
    go_ret
    exact ⟨ret_bool HS.out.symm, HB1.out⟩

end Go.Proofs.YtmdpbaobihdgkaaGreatDoor
