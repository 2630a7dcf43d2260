/- apart. -/
import Derived.Test.YtgpjlgffmlkkoaaDoorRow
import Derived.Deep.OwnRows
namespace Go.Proofs.YtgpjlgffmlkkoaaDoor
open Go.RowKit

theorem Tryd.info24 : (Tryd.prog.info? 24).map (fun i => (i.zero, i.size, i.bytes)) = some (some (.agg #[.int .i64 0, .int .i64 0, .slice none 0 0]), 3, 40) := by kernel_rfl

theorem make_kids (c : Nat) (hc : c ≤ 2) (u : World) : (Instr.makeSlice 22 (.int .i64 c) (.int .i64 c)).run Tryd.prog u = .ok (.slice (some ⟨u.heap.size, 0, none⟩) c c) (u.alloc (.cells (madeCells #[.int .i64 0, .int .i64 0, .slice none 0 0] (c * 3)) 24)) := by
  obtain ⟨i, hi, hzz⟩ := Option.map_eq_some_iff.1 Tryd.info24
  simp only [Prod.mk.injEq] at hzz
  obtain ⟨hz, hs, hb⟩ := hzz
  have hr := run_make (P := Tryd.prog) u 22 24 i _ Tryd.underlying22 hi hz .i64 .i64 c c (by omega) (Int.le_refl _) (by rw [hb]; omega) (by omega)
  rw [hs] at hr
  simp only [Int.toNat_natCast] at hr
  exact hr

/-- The first j Kids lie in the list y. -/
def Kl (B y : Nat) (t : Fml) (j : Nat) (w : World) : Prop := ∃ cs : Array Value, w.heap[y]? = some (.cells cs 24 (0, 0)) ∧ cs.size = t.cnt * 3 ∧
  ∀ i, i < j → ∃ ai ci, cs[i * 3]? = some (.int .i64 (t.kid i).kind) ∧ cs[i * 3 + 1]? = some (.int .i64 (t.kid i).num) ∧ cs[i * 3 + 2]? = some (.slice ai (t.kid i).cnt ci) ∧ (t.kid i).cnt ≤ 2 ∧ Kds (hi B (msk y w)) (t.kid i) ai

theorem kl_step {B y : Nat} {t : Fml} {j : Nat} {w w' : World} (h : Kl B y t j w) (hb : ∀ k, B ≤ k → k ≠ y → k < w.heap.size → w'.heap[k]? = w.heap[k]?) (hy : w'.heap[y]? = w.heap[y]?) : Kl B y t j w' := by
  obtain ⟨cs, h1, h2, h3⟩ := h
  refine ⟨cs, hy.trans h1, h2, fun i hi => ?_⟩
  obtain ⟨ai, ci, e1, e2, e3, e4, e5⟩ := h3 i hi
  exact ⟨ai, ci, e1, e2, e3, e4, ky_keep e5 hb⟩

theorem kl_set {B y : Nat} {t : Fml} {j : Nat} {w : World} (h : Kl B y t j w) (hj : j < t.cnt) {ai : Option Addr} {ci : Nat} (hk : Kds (hi B (msk y w)) (t.kid j) ai) (hc : (t.kid j).cnt ≤ 2) :
    Kl B y t (j + 1) (((w.setCell ⟨y, j * 3, none⟩ (.int .i64 (t.kid j).kind)).setCell ⟨y, j * 3 + 1, none⟩ (.int .i64 (t.kid j).num)).setCell ⟨y, j * 3 + 2, none⟩ (.slice ai (t.kid j).cnt ci)) := by
  obtain ⟨cs, h1, h2, h3⟩ := h
  have hb : ∀ k, B ≤ k → k ≠ y → k < w.heap.size → (((w.setCell ⟨y, j * 3, none⟩ (.int .i64 (t.kid j).kind)).setCell ⟨y, j * 3 + 1, none⟩ (.int .i64 (t.kid j).num)).setCell ⟨y, j * 3 + 2, none⟩ (.slice ai (t.kid j).cnt ci)).heap[k]? = w.heap[k]? := fun k _ hk _ => by
    rw [Go.Deep.blk_setCell_other _ _ _ _ hk, Go.Deep.blk_setCell_other _ _ _ _ hk, Go.Deep.blk_setCell_other _ _ _ _ hk]
  refine ⟨((cs.setIfInBounds (j * 3) (.int .i64 (t.kid j).kind)).setIfInBounds (j * 3 + 1) (.int .i64 (t.kid j).num)).setIfInBounds (j * 3 + 2) (.slice ai (t.kid j).cnt ci), ?_, by simpa using h2, fun i hi => ?_⟩
  · unfold World.setCell
    simp only [Array.getElem?_modify, if_true, h1, Option.map_some]
    rfl
  · by_cases e : i = j
    · subst e
      refine ⟨ai, ci, ?_, ?_, ?_, hc, ky_keep hk hb⟩
      · rw [Array.getElem?_setIfInBounds_ne (by omega), Array.getElem?_setIfInBounds_ne (by omega), Array.getElem?_setIfInBounds_self_of_lt (by omega)]
      · rw [Array.getElem?_setIfInBounds_ne (by omega), Array.getElem?_setIfInBounds_self_of_lt (by simp; omega)]
      · rw [Array.getElem?_setIfInBounds_self_of_lt (by simp; omega)]
    · obtain ⟨ai', ci', e1, e2, e3, e4, e5⟩ := h3 i (by omega)
      refine ⟨ai', ci', ?_, ?_, ?_, e4, ky_keep e5 hb⟩
      · rw [Array.getElem?_setIfInBounds_ne (by omega), Array.getElem?_setIfInBounds_ne (by omega), Array.getElem?_setIfInBounds_ne (by omega)]; exact e1
      · rw [Array.getElem?_setIfInBounds_ne (by omega), Array.getElem?_setIfInBounds_ne (by omega), Array.getElem?_setIfInBounds_ne (by omega)]; exact e2
      · rw [Array.getElem?_setIfInBounds_ne (by omega), Array.getElem?_setIfInBounds_ne (by omega), Array.getElem?_setIfInBounds_ne (by omega)]; exact e3

theorem kl_done {B y : Nat} {t : Fml} {w : World} (h : Kl B y t t.cnt w) (hB : B ≤ y) : Kds (hi B w) t (some ⟨y, 0, none⟩) := by
  obtain ⟨cs, h1, h2, h3⟩ := h
  refine Kds.mk ⟨y, 0, fun _ => rfl, fun i hi => ?_⟩
  obtain ⟨ai, ci, e1, e2, e3, e4, e5⟩ := h3 i hi
  refine ⟨ai, ci, hi_in hB ?_, hi_in hB ?_, hi_in hB ?_, by omega, ky_out e5⟩
  · simp only [Nat.zero_add]; exact cell_of_cells h1 e1
  · simp only [Nat.zero_add]; exact cell_of_cells h1 e2
  · simp only [Nat.zero_add]; exact cell_of_cells h1 e3

theorem kl_free {B y : Nat} {t : Fml} {j k : Nat} {w : World} (h : Kl B y t j w) (hk : k < t.cnt * 3) : w.frozen? ⟨y, k, none⟩ = false ∧ ∃ v, w.cell? ⟨y, k, none⟩ = some v := by
  obtain ⟨cs, h1, h2, h3⟩ := h
  refine ⟨by simp [World.frozen?, h1], cs[k]'(by omega), cell_of_cells h1 (by simp)⟩

theorem wf_two {t : Fml} (h : Wf t) : t.cnt ≤ 2 := by
  have h1 := (fit_kind h.out.1).2.2
  unfold ar at h1
  split at h1
  · omega
  · split at h1
    · omega
    · split at h1 <;> omega

set_option maxHeartbeats 4000000 in
set_option maxRecDepth 100000 in
theorem apart_any : ∀ (t : Fml) (a : Option Addr) (cap : Nat) (w : World), Kds w t a → Wf t →
    Calls Tryd.prog 26 #[.agg #[.int .i64 t.kind, .int .i64 t.num, .slice a t.cnt cap]] w fun e w' => ∃ (a' : Option Addr) (cap' : Nat), e = .returned (.agg #[.int .i64 t.kind, .int .i64 t.num, .slice a' t.cnt cap']) ∧ Kds (hi w.heap.size w') t a' ∧ Below w.heap.size w w' := by
  intro t
  induction t using Fml.ind with
  | h t ih =>
  intro a cap w hK hw
  obtain ⟨w1, hw1⟩ : ∃ y, y = (w.alloc (.cells #[.int .i64 t.kind, .int .i64 t.num, .slice a t.cnt cap] 24)).alloc (.cells #[.int .i64 0, .int .i64 0, .slice none 0 0] 24) := ⟨_, rfl⟩
  have e1 : (w.alloc (.cells #[.int .i64 t.kind, .int .i64 t.num, .slice a t.cnt cap] 24)).heap.size = w.heap.size + 1 := by simp
  have hs1 : w1.heap.size = w.heap.size + 1 + 1 := by rw [hw1]; simp
  have hB1 : Below w.heap.size w w1 := by rw [hw1]; exact ((Below.refl _ _).alloc (Nat.le_refl _) _).alloc (by rw [e1]; omega) _
  have hT1 : Tri w1 w.heap.size (.int .i64 t.kind) (.int .i64 t.num) (.slice a t.cnt cap) := by rw [hw1]; exact (tri_new _ _ _ _).alloc _
  have hX1 : Tri w1 (w.heap.size + 1) (.int .i64 0) (.int .i64 0) (.slice none 0 0) := by rw [hw1, ← e1]; exact tri_new _ _ _ _
  have H1 : Hid (w1.heap.size = w.heap.size + 1 + 1 ∧ Below w.heap.size w w1 ∧ Tri w1 w.heap.size (.int .i64 t.kind) (.int .i64 t.num) (.slice a t.cnt cap) ∧ Tri w1 (w.heap.size + 1) (.int .i64 0) (.int .i64 0) (.slice none 0 0)) := ⟨hs1, hB1, hT1, hX1⟩
  have HE := hid hw1
  have h2 := wf_two hw
  have HW := hid hw
  have HIH := hid ih
  have hne : w.heap.size + 1 ≠ w.heap.size := by omega
  have hne' : w.heap.size ≠ w.heap.size + 1 := by omega
  obtain ⟨⟨d0, d1, d2⟩, f0, f1, f2⟩ := tri_cells hT1
  obtain ⟨⟨g0, g1, g2⟩, j0, j1, j2⟩ := tri_cells hX1
  clear hw1 e1 hs1 hB1 hT1 hX1 ih hw
  by_cases h0 : t.cnt = 0
  · have HK : Hid (Kds w t a ∧ t.cnt = 0) := ⟨hK, h0⟩
    clear hK HE H1 HW HIH d0 d1 d2 f0 f1 f2 g0 g1 g2 j0 j1 j2
    go_enter Tryd.func26, Tryd.ntmps26
    go_wp2
    refine bodyPost_ret (results_cell_row rfl _ _ (w.heap.size + 1) 24 #[.int .i64 t.kind, .int .i64 t.num, .slice a 0 cap] (0, 0) _ rfl ?_ Tryd.underlying24 rfl (by kernel_rfl)) rfl ?_
    · have e1 : (w.alloc (.cells #[.int .i64 t.kind, .int .i64 t.num, .slice a 0 cap] 24)).heap.size = w.heap.size + 1 := by simp
      rw [← e1]
      exact tri_new _ _ _ _
    · refine ⟨a, cap, by rw [HK.out.2], Kds.mk ⟨0, 0, fun h => absurd HK.out.2 (by omega), fun i hi => absurd HK.out.2 (by omega)⟩, ?_⟩
      exact ((Below.refl _ _).alloc (Nat.le_refl _) _).alloc (by simp) _
  · have hz : ((t.cnt : Int) == 0) = false := by simp; omega
    have hmk := make_kids t.cnt h2
    obtain ⟨b, o, ha, hk⟩ := hK.out
    obtain rfl := ha (by omega)
    have HK := hid hk
    obtain ⟨w2, hw2⟩ : ∃ y, y = w1.alloc (.cells (madeCells #[.int .i64 0, .int .i64 0, .slice none 0 0] (t.cnt * 3)) 24) := ⟨_, rfl⟩
    have hs2 : w2.heap.size = w.heap.size + 1 + 1 + 1 := by rw [hw2, ← H1.out.1]; simp
    have H2 : Hid (w2.heap.size = w.heap.size + 1 + 1 + 1 ∧ Below w.heap.size w w2 ∧ Tri w2 w.heap.size (.int .i64 t.kind) (.int .i64 t.num) (.slice (some ⟨b, o, none⟩) t.cnt cap) ∧ Tri w2 (w.heap.size + 1) (.int .i64 0) (.int .i64 0) (.slice none 0 0) ∧ Kl (w.heap.size + 1 + 1) (w.heap.size + 1 + 1) t 0 w2) := by
      refine ⟨hs2, ?_, ?_, ?_, ?_⟩
      · rw [hw2]; exact H1.out.2.1.alloc H1.out.2.1.size _
      · rw [hw2]; exact H1.out.2.2.1.alloc _
      · rw [hw2]; exact H1.out.2.2.2.alloc _
      · refine ⟨_, by rw [hw2, ← H1.out.1]; exact Go.Deep.blk_alloc_new _ _, size_madeCells _ _, fun i hi => absurd hi (Nat.not_lt_zero i)⟩
    have HE2 : Hid (w2 = ((w.alloc (.cells #[.int .i64 t.kind, .int .i64 t.num, .slice (some ⟨b, o, none⟩) t.cnt cap] 24)).alloc (.cells #[.int .i64 0, .int .i64 0, .slice none 0 0] 24)).alloc (.cells (madeCells #[.int .i64 0, .int .i64 0, .slice none 0 0] (t.cnt * 3)) 24)) := by rw [hw2, HE.out]; exact hid rfl
    clear hK ha hk hw2 HE H1 d0 d1 d2 f0 f1 f2 g0 g1 g2 j0 j1 j2
    go_enter Tryd.func26, Tryd.ntmps26
    go_wp2
    rw [← HE2.out]
    go_loopw [18] (fun i wr => ∃ j : Nat, j ≤ t.cnt ∧ i = .int .i64 j ∧ Hid (w2.heap.size ≤ wr.heap.size ∧ Below w.heap.size w wr ∧ Tri wr w.heap.size (.int .i64 t.kind) (.int .i64 t.num) (.slice (some ⟨b, o, none⟩) t.cnt cap) ∧ Tri wr (w.heap.size + 1) (.int .i64 0) (.int .i64 0) (.slice none 0 0) ∧ Kl (w.heap.size + 1 + 1) (w.heap.size + 1 + 1) t j wr)) (fun i _ => t.cnt - (intOf i).toNat)
    case atStart => exact ⟨0, Nat.zero_le _, rfl, hid ⟨Nat.le_refl _, H2.out.2⟩⟩
    case round =>
      obtain ⟨j, hj, rfl, HJ⟩ := hrel
      have hsr := HJ.out.1
      have hs2 := H2.out.1
      by_cases hlt : j < t.cnt
      · obtain ⟨ai, ci, p1, p2, p3, p4, p5⟩ := HK.out j hlt
        have q1 := below_cell HJ.out.2.1 (Nat.le_refl _) p1
        have q2 := below_cell HJ.out.2.1 (Nat.le_refl _) p2
        have q3 := below_cell HJ.out.2.1 (Nat.le_refl _) p3
        have hjz : (j : Int) < t.cnt := by omega
        have hj0 : (0 : Int) ≤ j := by omega
        obtain ⟨k, hkk⟩ : ∃ x, x = t.kid j := ⟨_, rfl⟩
        rw [← hkk] at q1 q2 q3
        obtain ⟨w3, hw3⟩ : ∃ y, y = wr.alloc (.cells #[.int .i64 k.kind, .int .i64 k.num, .slice ai k.cnt ci] 24) := ⟨_, rfl⟩
        have hb3 : Below w.heap.size w w3 := by rw [hw3]; exact HJ.out.2.1.alloc HJ.out.2.1.size _
        have C3 := hid (HIH.out j hlt ai ci w3 (p5.below hb3) (HW.out.out.2 j hlt))
        rw [← hkk] at C3
        have HKK := hid hkk
        have HE3 := hid hw3
        clear p1 p2 p3 p4 p5 hkk hw3 hb3 hs2
        go_wp2_with fail
        rw [← HE3.out]
        refine C3.out.mono ?_
        rintro e w4 ⟨a', cap', rfl, hk4, hb4⟩
        have hs3 : w3.heap.size = wr.heap.size + 1 := by rw [HE3.out]; simp
        have hb4' : Below wr.heap.size wr w4 := by
          have : Below wr.heap.size wr w3 := by rw [HE3.out]; exact box_below _ _
          exact this.trans (hb4.mono (by omega))
        have hs2 := H2.out.1
        have hl4 : Kl (w.heap.size + 1 + 1) (w.heap.size + 1 + 1) t j w4 := kl_step HJ.out.2.2.2.2 (fun k _ _ hk => hb4'.block k hk) (hb4'.block _ (by omega))
        have hk4' : Kds (hi (w.heap.size + 1 + 1) (msk (w.heap.size + 1 + 1) w4)) (t.kid j) a' := by rw [← HKK.out]; exact ky_new hk4 (by omega) (by omega)
        have hc4 : (t.kid j).cnt ≤ 2 := wf_two (HW.out.out.2 j hlt)
        have hne2 : w.heap.size ≠ w.heap.size + 1 + 1 := by omega
        have hne3 : w.heap.size + 1 ≠ w.heap.size + 1 + 1 := by omega
        obtain ⟨z0, v0, y0⟩ := kl_free hl4 (k := j * 3) (by omega)
        obtain ⟨z1, v1, y1⟩ := kl_free hl4 (k := j * 3 + 1) (by omega)
        obtain ⟨z2, v2, y2⟩ := kl_free hl4 (k := j * 3 + 2) (by omega)
        have hT4 := HJ.out.2.2.1.below hb4' (by omega)
        have hX4 := HJ.out.2.2.2.1.below hb4' (by omega)
        have hB4 := HJ.out.2.1.trans (hb4'.mono HJ.out.2.1.size)
        have hs4 := hb4.size
        have H4 : Hid (w2.heap.size ≤ w4.heap.size ∧ Below w.heap.size w w4 ∧ Tri w4 w.heap.size (.int .i64 t.kind) (.int .i64 t.num) (.slice (some ⟨b, o, none⟩) t.cnt cap) ∧ Tri w4 (w.heap.size + 1) (.int .i64 0) (.int .i64 0) (.slice none 0 0) ∧ Kl (w.heap.size + 1 + 1) (w.heap.size + 1 + 1) t j w4 ∧ Kds (hi (w.heap.size + 1 + 1) (msk (w.heap.size + 1 + 1) w4)) (t.kid j) a' ∧ (t.kid j).cnt ≤ 2) :=
          ⟨by omega, hB4, hT4, hX4, hl4, hk4', hc4⟩
        clear C3 hk4 hb4 hb4' hs2 hl4 hk4' hc4 hT4 hX4 hB4 hs4 hs3
        go_wp2
        go_roundw
        case rel =>
          refine ⟨j + 1, by omega, by go_num, hid ?_⟩
          rw [HKK.out]
          refine ⟨?_, ?_, ?_, ?_, ?_⟩
          · simpa [World.setCell] using H4.out.1
          · exact ((H4.out.2.1.setCell (p := ⟨w.heap.size + 1 + 1, j * 3, none⟩) (by show w.heap.size ≤ w.heap.size + 1 + 1; omega) _).setCell (p := ⟨w.heap.size + 1 + 1, j * 3 + 1, none⟩) (by show w.heap.size ≤ w.heap.size + 1 + 1; omega) _).setCell (p := ⟨w.heap.size + 1 + 1, j * 3 + 2, none⟩) (by show w.heap.size ≤ w.heap.size + 1 + 1; omega) _
          · exact ((H4.out.2.2.1.setb hne2 _).setb hne2 _).setb hne2 _
          · exact ((H4.out.2.2.2.1.setb hne3 _).setb hne3 _).setb hne3 _
          · exact kl_set H4.out.2.2.2.2.1 hlt H4.out.2.2.2.2.2.1 H4.out.2.2.2.2.2.2
        case measure => simp [intOf]; omega
      · obtain rfl : j = t.cnt := by omega
        obtain ⟨⟨d0, d1, d2⟩, f0, f1, f2⟩ := tri_cells HJ.out.2.2.1
        obtain ⟨⟨g0, g1, g2⟩, j0, j1, j2⟩ := tri_cells HJ.out.2.2.2.1
        clear hs2
        go_wp2
        refine bodyPost_ret (results_cell_row rfl _ _ (w.heap.size + 1) 24 #[.int .i64 t.kind, .int .i64 t.num, .slice (some ⟨w.heap.size + 1 + 1, 0, none⟩) t.cnt t.cnt] (0, 0) _ rfl (tri_set (HJ.out.2.2.2.1.setb hne _) _ _ _) Tryd.underlying24 rfl (by kernel_rfl)) rfl ?_
        refine ⟨_, _, rfl, kd_mono (kl_done (kl_step HJ.out.2.2.2.2 ?_ ?_) (Nat.le_refl _)) (by omega), below_tri (HJ.out.2.1.setCell (p := ⟨w.heap.size, 2, none⟩) (Nat.le_refl _) _) (by omega) _ _ _⟩
        · intro k h1 h2 h3
          rw [blk_tri (by omega), Go.Deep.blk_setCell_other _ _ _ _ (by show k ≠ w.heap.size; omega)]
        · rw [blk_tri (by omega), Go.Deep.blk_setCell_other _ _ _ _ (by show w.heap.size + 1 + 1 ≠ w.heap.size; omega)]

end Go.Proofs.YtgpjlgffmlkkoaaDoor
