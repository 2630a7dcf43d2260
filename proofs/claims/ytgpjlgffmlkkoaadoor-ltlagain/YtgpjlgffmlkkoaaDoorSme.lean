/- SameLtl of one formula, twice in memory. -/
import Derived.Test.YtgpjlgffmlkkoaaDoorPrn
import Derived.Test.YtgpjlgffmlkkoaaDoorRefChk
import Derived.Deep.RegionHeld3
namespace Go.Proofs.YtgpjlgffmlkkoaaDoor
open Go.RowKit

set_option maxHeartbeats 4000000 in
set_option maxRecDepth 100000 in
theorem same_any : ∀ (t : Fml) (a a2 : Option Addr) (cap cap2 : Nat) (w : World), Kds w t a → Kds w t a2 → t.cnt ≤ 9223372036854775807 →
    Calls Tryd.prog 13 #[.agg #[.int .i64 t.kind, .int .i64 t.num, .slice a t.cnt cap], .agg #[.int .i64 t.kind, .int .i64 t.num, .slice a2 t.cnt cap2]] w fun e w' => e = .returned (.bool true) ∧ Below w.heap.size w w' := by
  intro t
  induction t using Fml.ind with
  | h t ih =>
  intro a a2 cap cap2 w h1 h2 hc
  obtain ⟨b, o, ha, hk⟩ := h1.out
  obtain ⟨b2, o2, ha2, hk2⟩ := h2.out
  have HA : Hid ((0 < t.cnt → a = some ⟨b, o, none⟩) ∧ (0 < t.cnt → a2 = some ⟨b2, o2, none⟩)) := ⟨ha, ha2⟩
  have HK := hid hk
  have HK2 := hid hk2
  have HIH := hid ih
  obtain ⟨w1, hw1⟩ : ∃ y, y = (w.alloc (.cells #[.int .i64 t.kind, .int .i64 t.num, .slice a t.cnt cap] 24)).alloc (.cells #[.int .i64 t.kind, .int .i64 t.num, .slice a2 t.cnt cap2] 24) := ⟨_, rfl⟩
  have e1 : (w.alloc (.cells #[.int .i64 t.kind, .int .i64 t.num, .slice a t.cnt cap] 24)).heap.size = w.heap.size + 1 := by simp
  have hB1 : Below w.heap.size w w1 := by rw [hw1]; exact ((Below.refl _ _).alloc (Nat.le_refl _) _).alloc (by rw [e1]; omega) _
  have hs1 : w1.heap.size = w.heap.size + 1 + 1 := by rw [hw1]; simp
  have hx1 : Bx w1 w.heap.size t a cap := by
    rw [hw1]
    exact (Go.Deep.blk_alloc_lt _ _ _ (by rw [e1]; omega)).trans (bx_new w t a cap)
  have hx2 : Bx w1 (w.heap.size + 1) t a2 cap2 := by
    rw [hw1, ← e1]
    exact bx_new _ t a2 cap2
  have HX : Hid (∀ u, Below w1.heap.size w1 u → Bx u w.heap.size t a cap ∧ Bx u (w.heap.size + 1) t a2 cap2 ∧ Below w.heap.size w u) := fun u hu => ⟨(hu.block _ (by omega)).trans hx1, (hu.block _ (by omega)).trans hx2, hB1.trans (hu.mono hB1.size)⟩
  have HE := hid hw1
  clear h1 h2 ha hk ha2 hk2 ih hw1 e1 hB1 hs1 hx1 hx2
  generalize hkk : t.kind = k at *
  generalize hnn : t.num = n at *
  generalize hcc : t.cnt = c at *
  generalize hkd : t.kid = kid at *
  have HEq : Hid (t.kind = k ∧ t.num = n ∧ t.cnt = c) := ⟨hkk, hnn, hcc⟩
  clear hkk hnn hcc hkd
  have HC : Hid (∀ u, Below w1.heap.size w1 u → (u.cell? ⟨w.heap.size, 2, none⟩ = some (.slice a c cap) ∧ u.cell? ⟨w.heap.size + 1, 2, none⟩ = some (.slice a2 c cap2)) ∧ Below w.heap.size w u) := fun u hu => by
    obtain ⟨q1, q2, q3⟩ := HX.out u hu
    have y1 := q1.c2
    have y2 := q2.c2
    rw [HEq.out.2.2] at y1 y2
    exact ⟨⟨y1, y2⟩, q3⟩
  clear HX
  go_enter Tryd.func13, Tryd.ntmps13
  go_wp2
  rw [← HE.out]
  obtain ⟨⟨z1, z2⟩, -⟩ := HC.out w1 (Below.refl _ _)
  go_loopw [5] (fun i wr => ∃ j : Nat, j ≤ c ∧ i = .int .i64 j ∧ Hid (Below w1.heap.size w1 wr)) (fun i _ => c - (intOf i).toNat)
  case atStart => exact ⟨0, Nat.zero_le _, rfl, hid (Below.refl _ _)⟩
  case round =>
    obtain ⟨j, hj, rfl, HJ⟩ := hrel
    clear z1 z2
    obtain ⟨⟨z1, z2⟩, hbw⟩ := HC.out wr HJ.out
    by_cases hlt : j < c
    · obtain rfl := HA.out.1 (by omega)
      obtain rfl := HA.out.2 (by omega)
      obtain ⟨ai, ci, p1, p2, p3, p4, p5⟩ := HK.out j hlt
      obtain ⟨ai2, ci2, q1, q2, q3, q4, q5⟩ := HK2.out j hlt
      have f1 := below_cell hbw (Nat.le_refl _) p1
      have f2 := below_cell hbw (Nat.le_refl _) p2
      have f3 := below_cell hbw (Nat.le_refl _) p3
      have g1 := below_cell hbw (Nat.le_refl _) q1
      have g2 := below_cell hbw (Nat.le_refl _) q2
      have g3 := below_cell hbw (Nat.le_refl _) q3
      have hjz : (j : Int) < c := by omega
      have hj0 : (0 : Int) ≤ j := by omega
      have C2 : Hid (∀ u : World, u.heap = wr.heap → (u.os = wr.os ∧ u.tape = wr.tape ∧ u.output = wr.output) → Calls Tryd.prog 13 #[.agg #[.int .i64 (kid j).kind, .int .i64 (kid j).num, .slice ai (kid j).cnt ci], .agg #[.int .i64 (kid j).kind, .int .i64 (kid j).num, .slice ai2 (kid j).cnt ci2]] u fun e w' => e = .returned (.bool true) ∧ Below wr.heap.size wr w') := fun u hu ho => by
        have hbu : Below w.heap.size w u := below_of_heap hbw hu.symm ho.1.symm ho.2.1.symm ho.2.2.symm
        refine (HIH.out j hlt ai ai2 ci ci2 u (p5.below hbu) (q5.below hbu) p4).mono fun e w' hh => ⟨hh.1, ?_⟩
        have h3 := hh.2
        exact ⟨h3.os.trans ho.1, h3.tape.trans ho.2.1, h3.output.trans ho.2.2, hu ▸ h3.size, fun i hi => (h3.block i (by rw [hu]; exact hi)).trans (by rw [hu])⟩
      obtain ⟨kk, hkk⟩ : ∃ x, x = kid j := ⟨_, rfl⟩
      rw [← hkk] at f1 f2 f3 g1 g2 g3 C2
      clear hkk p1 p2 p3 p4 p5 q1 q2 q3 q4 q5
      go_wp2
      go_region_held3 (fun z => (z.cell? ⟨w.heap.size, 2, none⟩ = some (.slice (some ⟨b, o, none⟩) c cap) ∧ z.cell? ⟨w.heap.size + 1, 2, none⟩ = some (.slice (some ⟨b2, o2, none⟩) c cap2)) ∧ (z.cell? ⟨b, o + j * 3, none⟩ = some (.int .i64 kk.kind) ∧ z.cell? ⟨b, o + j * 3 + 1, none⟩ = some (.int .i64 kk.num) ∧ z.cell? ⟨b, o + j * 3 + 2, none⟩ = some (.slice ai kk.cnt ci)) ∧ z.cell? ⟨b2, o2 + j * 3, none⟩ = some (.int .i64 kk.kind) ∧ z.cell? ⟨b2, o2 + j * 3 + 1, none⟩ = some (.int .i64 kk.num) ∧ z.cell? ⟨b2, o2 + j * 3 + 2, none⟩ = some (.slice ai2 kk.cnt ci2)) (first | go_keep)
        (first | (go_at_call 13; refine (C2.out _ ?_ ?_).mono ?_; (exact rfl); (exact ⟨rfl, rfl, rfl⟩); rintro e w3 ⟨rfl, hb3⟩; have s1 := below_cell hb3 (Nat.le_refl _) z1; have s2 := below_cell hb3 (Nat.le_refl _) z2; have s3 := below_cell hb3 (Nat.le_refl _) f1; have s4 := below_cell hb3 (Nat.le_refl _) f2; have s5 := below_cell hb3 (Nat.le_refl _) f3; have s6 := below_cell hb3 (Nat.le_refl _) g1; have s7 := below_cell hb3 (Nat.le_refl _) g2; have s8 := below_cell hb3 (Nat.le_refl _) g3) | fail)
      have H3 : Hid (Below w1.heap.size w1 w3) := HJ.out.trans (hb3.mono HJ.out.size)
      clear hb3 C2 s1 s2 s3 s4 s5 s6 s7 s8
      go_wp2
      go_roundw
      case rel => exact ⟨j + 1, by omega, by go_num, H3⟩
      case measure => simp [intOf]; omega
    · go_wp2
      go_ret
      exact ⟨rfl, hbw⟩

end Go.Proofs.YtgpjlgffmlkkoaaDoor
