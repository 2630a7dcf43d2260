/- SameLtl of two formulas. -/
import Derived.Test.YtinacgkiigbmjaaDoorLim
import Derived.Test.YtinacgkiigbmjaaDoorPsh3
import Derived.Test.YtinacgkiigbmjaaDoorRefChk
namespace Go.Proofs.YtinacgkiigbmjaaDoor
open Go.RowKit

/-- What SameLtl answers of a formula and whatever other. -/
def Sm17 (t : Fml) : Prop := ∀ (u : Fml) (a a2 : Option Addr) (cap cap2 : Nat) (w : World), Kds w t a → Kds w u a2 → t.cnt ≤ 9223372036854775807 → u.cnt ≤ 9223372036854775807 →
    Calls Tryd.prog 17 #[.agg #[.int .i64 t.kind, .int .i64 t.num, .slice a t.cnt cap], .agg #[.int .i64 u.kind, .int .i64 u.num, .slice a2 u.cnt cap2]] w fun e w' => e = .returned (.bool (same t u)) ∧ Below w.heap.size w w'

theorem same_no {t u : Fml} (h : ¬ (t.kind = u.kind ∧ t.num = u.num ∧ t.cnt = u.cnt)) : same t u = false := by rw [same_eq]; simp [h]
theorem same_kids {t u : Fml} (h : t.kind = u.kind ∧ t.num = u.num ∧ t.cnt = u.cnt) : same t u = allTo (fun i => same (t.kid i) (u.kid i)) t.cnt := by rw [same_eq]; simp [h]
theorem allTo_no {r : Nat → Bool} {n j : Nat} (hj : j < n) (h : r j = false) : allTo r n = false := by
  cases e : allTo r n
  · rfl
  · have := (allTo_iff r n).1 e j hj
    rw [h] at this; cases this

set_option maxHeartbeats 4000000 in
set_option maxRecDepth 100000 in
theorem same17 : ∀ t : Fml, Sm17 t := by
  intro t
  induction t using Fml.ind with
  | h t ih =>
  intro u a a2 cap cap2 w h1 h2 hc hc2
  obtain ⟨b, o, ha, hk⟩ := h1.out
  obtain ⟨b2, o2, ha2, hk2⟩ := h2.out
  have HK := hid hk
  have HK2 := hid hk2
  have HIH := hid ih
  have HA := hid ha
  have HA2 := hid ha2
  have ES := hid (same_no (t := t) (u := u))
  have EK := hid (same_kids (t := t) (u := u))
  obtain ⟨w1, hw1⟩ : ∃ y, y = (w.alloc (.cells #[.int .i64 t.kind, .int .i64 t.num, .slice a t.cnt cap] 24)).alloc (.cells #[.int .i64 u.kind, .int .i64 u.num, .slice a2 u.cnt cap2] 24) := ⟨_, rfl⟩
  have e1 : (w.alloc (.cells #[.int .i64 t.kind, .int .i64 t.num, .slice a t.cnt cap] 24)).heap.size = w.heap.size + 1 := by simp
  have hB1 : Below w.heap.size w w1 := by rw [hw1]; exact ((Below.refl _ _).alloc (Nat.le_refl _) _).alloc (by rw [e1]; omega) _
  have hs1 : w1.heap.size = w.heap.size + 1 + 1 := by rw [hw1]; simp
  have hx1 : Tri w1 w.heap.size (.int .i64 t.kind) (.int .i64 t.num) (.slice a t.cnt cap) := by rw [hw1]; exact (tri_new w _ _ _).alloc _
  have hx2 : Tri w1 (w.heap.size + 1) (.int .i64 u.kind) (.int .i64 u.num) (.slice a2 u.cnt cap2) := by rw [hw1, ← e1]; exact tri_new _ _ _ _
  have HC : Hid (∀ z, Below w1.heap.size w1 z → (z.cell? ⟨w.heap.size, 2, none⟩ = some (.slice a t.cnt cap) ∧ z.cell? ⟨w.heap.size + 1, 2, none⟩ = some (.slice a2 u.cnt cap2)) ∧ Below w.heap.size w z) := fun z hz =>
    ⟨⟨(tri_cells (hx1.below hz)).1.2.2, (tri_cells (hx2.below hz)).1.2.2⟩, hB1.trans (hz.mono hB1.size)⟩
  have HE := hid hw1
  have HB1 := hid hB1
  clear h1 h2 ha hk ha2 hk2 ih hw1 e1 hB1 hs1 hx1 hx2
  generalize same t u = s at *
  generalize t.kid = kid at *
  generalize u.kid = kid2 at *
  generalize t.kind = k at *
  generalize t.num = n at *
  generalize t.cnt = c at *
  generalize u.kind = k2 at *
  generalize u.num = n2 at *
  generalize u.cnt = c2 at *
  by_cases q1 : k = k2
  · subst q1
    by_cases q2 : n = n2
    · subst q2
      by_cases q3 : c = c2
      · subst q3
        have HS : Hid (s = allTo (fun i => same (kid i) (kid2 i)) c) := EK.out ⟨rfl, rfl, rfl⟩
        clear ES EK
        go_enter Tryd.func17, Tryd.ntmps17
        go_wp2
        rw [← HE.out]
        obtain ⟨⟨z1, z2⟩, -⟩ := HC.out w1 (Below.refl _ _)
        go_loopw [5] (fun i wr => ∃ j : Nat, j ≤ c ∧ i = .int .i64 j ∧ Hid ((∀ i, i < j → same (kid i) (kid2 i) = true) ∧ Below w1.heap.size w1 wr)) (fun i _ => c - (intOf i).toNat)
        case atStart => exact ⟨0, Nat.zero_le _, rfl, hid ⟨fun i hi => absurd hi (Nat.not_lt_zero i), Below.refl _ _⟩⟩
        case round =>
          obtain ⟨j, hj, rfl, HJ⟩ := hrel
          clear z1 z2
          obtain ⟨⟨z1, z2⟩, hbw⟩ := HC.out wr HJ.out.2
          by_cases hlt : j < c
          · obtain rfl := HA.out (by omega)
            obtain rfl := HA2.out (by omega)
            obtain ⟨ai, ci, p1, p2, p3, p4, p5⟩ := HK.out j hlt
            obtain ⟨ai2, ci2, q1, q2, q3, q4, q5⟩ := HK2.out j hlt
            have f1 := below_cell hbw (Nat.le_refl _) p1
            have f2 := below_cell hbw (Nat.le_refl _) p2
            have f3 := below_cell hbw (Nat.le_refl _) p3
            have g1 := below_cell hbw (Nat.le_refl _) q1
            have g2 := below_cell hbw (Nat.le_refl _) q2
            have g3 := below_cell hbw (Nat.le_refl _) q3
            have hjz : (j : Int) < c := by omega
            have hj0 : (0 : Int) ≤ j := by omega
            obtain ⟨y, hy⟩ : ∃ y, y = same (kid j) (kid2 j) := ⟨_, rfl⟩
            have HY := hid hy
            have C2 : Hid (∀ v : World, v.heap = wr.heap → (v.os = wr.os ∧ v.tape = wr.tape ∧ v.output = wr.output) → Calls Tryd.prog 17 #[.agg #[.int .i64 (kid j).kind, .int .i64 (kid j).num, .slice ai (kid j).cnt ci], .agg #[.int .i64 (kid2 j).kind, .int .i64 (kid2 j).num, .slice ai2 (kid2 j).cnt ci2]] v fun e w' => e = .returned (.bool y) ∧ Below wr.heap.size wr w') := fun v hu ho => by
              have hbu : Below w.heap.size w v := below_of_heap hbw hu.symm ho.1.symm ho.2.1.symm ho.2.2.symm
              refine (HIH.out j hlt (kid2 j) ai ai2 ci ci2 v (p5.below hbu) (q5.below hbu) p4 q4).mono fun e w' hh => ⟨by rw [hy]; exact hh.1, ?_⟩
              have h3 := hh.2
              exact ⟨h3.os.trans ho.1, h3.tape.trans ho.2.1, h3.output.trans ho.2.2, hu ▸ h3.size, fun i hi => (h3.block i (by rw [hu]; exact hi)).trans (by rw [hu])⟩
            obtain ⟨kk, hkk⟩ : ∃ x, x = kid j := ⟨_, rfl⟩
            obtain ⟨kl, hkl⟩ : ∃ x, x = kid2 j := ⟨_, rfl⟩
            rw [← hkk] at f1 f2 f3 C2
            rw [← hkl] at g1 g2 g3 C2
            clear hkk hkl hy p1 p2 p3 p4 p5 q1 q2 q3 q4 q5
            go_wp2
            go_region_held3 (fun z => (z.cell? ⟨w.heap.size, 2, none⟩ = some (.slice (some ⟨b, o, none⟩) c cap) ∧ z.cell? ⟨w.heap.size + 1, 2, none⟩ = some (.slice (some ⟨b2, o2, none⟩) c cap2)) ∧ (z.cell? ⟨b, o + j * 3, none⟩ = some (.int .i64 kk.kind) ∧ z.cell? ⟨b, o + j * 3 + 1, none⟩ = some (.int .i64 kk.num) ∧ z.cell? ⟨b, o + j * 3 + 2, none⟩ = some (.slice ai kk.cnt ci)) ∧ z.cell? ⟨b2, o2 + j * 3, none⟩ = some (.int .i64 kl.kind) ∧ z.cell? ⟨b2, o2 + j * 3 + 1, none⟩ = some (.int .i64 kl.num) ∧ z.cell? ⟨b2, o2 + j * 3 + 2, none⟩ = some (.slice ai2 kl.cnt ci2)) (first | go_keep)
              (first | (go_at_call 17; refine (C2.out _ ?_ ?_).mono ?_; (exact rfl); (exact ⟨rfl, rfl, rfl⟩); rintro e w3 ⟨rfl, hb3⟩; have s1 := below_cell hb3 (Nat.le_refl _) z1; have s2 := below_cell hb3 (Nat.le_refl _) z2; have s3 := below_cell hb3 (Nat.le_refl _) f1; have s4 := below_cell hb3 (Nat.le_refl _) f2; have s5 := below_cell hb3 (Nat.le_refl _) f3; have s6 := below_cell hb3 (Nat.le_refl _) g1; have s7 := below_cell hb3 (Nat.le_refl _) g2; have s8 := below_cell hb3 (Nat.le_refl _) g3) | fail)
            have H3 : Hid (Below w1.heap.size w1 w3) := HJ.out.2.trans (hb3.mono HJ.out.2.size)
            clear hb3 C2 s1 s2 s3 s4 s5 s6 s7 s8
            cases y
            · go_wp2
              go_ret
              exact ⟨ret_bool (by rw [HS.out]; exact (allTo_no (r := fun i => same (kid i) (kid2 i)) hlt HY.out.symm).symm), (HC.out w3 H3.out).2⟩
            · go_wp2
              go_roundw
              case rel => exact ⟨j + 1, by omega, by go_num, hid ⟨snoc_all HJ.out.1 HY.out.symm, H3.out⟩⟩
              case measure => simp [intOf]; omega
          · obtain rfl : j = c := by omega
            go_wp2
            go_ret
            exact ⟨ret_bool (by rw [HS.out]; exact ((allTo_iff _ j).2 HJ.out.1).symm), hbw⟩
      · have q3z : ((c : Int) != (c2 : Int)) = true := by
          rw [bne_iff_ne]; omega
        have HS : Hid (s = false) := ES.out (fun h => q3 h.2.2)
        go_enter Tryd.func17, Tryd.ntmps17
        go_wp2
        rw [← HE.out]
        go_ret
        exact ⟨ret_bool HS.out.symm, HB1.out⟩
    · have q2z : (n != n2) = true := by rw [bne_iff_ne]; exact q2
      have HS : Hid (s = false) := ES.out (fun h => q2 h.2.1)
      clear q2
      go_enter Tryd.func17, Tryd.ntmps17
      go_wp2
      rw [← HE.out]
      go_ret
      exact ⟨ret_bool HS.out.symm, HB1.out⟩
  · have q1z : (k != k2) = true := by rw [bne_iff_ne]; exact q1
    have HS : Hid (s = false) := ES.out (fun h => q1 h.1)
    clear q1
    go_enter Tryd.func17, Tryd.ntmps17
    go_wp2
    rw [← HE.out]
    go_ret
    exact ⟨ret_bool HS.out.symm, HB1.out⟩

end Go.Proofs.YtinacgkiigbmjaaDoor
