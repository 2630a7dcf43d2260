/- The document's slimmer: an LNot, and what has one Kid or none. -/
import Derived.Test.YtinacgkiigbmjaaDoorSlr0
namespace Go.Proofs.YtinacgkiigbmjaaDoor
open Go.RowKit

set_option maxHeartbeats 8000000 in
set_option maxRecDepth 20000 in
theorem sr4 {f : Fml} (p : Nat → Bool) (hw : Wf f) (hk : f.kind = 4) (hcc : f.cnt = 1) (a : Option Addr) (cap : Nat) (w : World) (h : Kq p w f a) :
    Calls Tryd.prog 34 #[.agg #[.int .i64 f.kind, .int .i64 f.num, .slice a f.cnt cap]] w fun e w' => Nq p w (slm f) e w' := by
  have t4 : (f.kind == 4) = true := by rw [hk]; rfl
  have t5 : (f.kind == 5) = false := by rw [hk]; rfl
  have t6 : (f.kind == 6) = false := by rw [hk]; rfl
  have t7 : (f.kind == 7) = false := by rw [hk]; rfl
  have t10 : (f.kind == 10) = false := by rw [hk]; rfl
  have t11 : (f.kind == 11) = false := by rw [hk]; rfl
  have t8 : (f.kind == 8) = false := by rw [hk]; rfl
  have t9 : (f.kind == 9) = false := by rw [hk]; rfl
  obtain ⟨b, o, a0, c0, rfl, e1, e2, e3, e4, e5⟩ := kid_cells h (i := 0) (by omega)
  simp only [Nat.zero_mul, Nat.add_zero] at e1 e2 e3
  obtain ⟨k0, hk0⟩ : ∃ y, y = f.kid 0 := ⟨_, rfl⟩
  rw [← hk0] at e1 e2 e3 e4 e5
  have HK0 := hid (And.intro e5 e4)
  have HKF := hid h
  obtain ⟨u, hu⟩ : ∃ y, y = (((w.alloc (.cells #[.int .i64 f.kind, .int .i64 f.num, .slice (some ⟨b, o, none⟩) f.cnt cap] 24)).alloc (.cells #[.int .i64 0, .int .i64 0, .slice none 0 0] 24)).alloc (.cells #[.int .i64 0, .int .i64 0, .slice none 0 0] 24)).alloc (.cells #[.int .i64 0, .int .i64 0, .slice none 0 0] 24) := ⟨_, rfl⟩
  obtain ⟨hs, hBu, hT1, hT2, hT3, hT4⟩ := four_new w _ u hu
  rw [hcc] at hT1
  have HS : Hid (∀ y, Below (w.heap.size + 1 + 1) u y → y.cell? ⟨w.heap.size, 2, none⟩ = some (.slice (some ⟨b, o, none⟩) 1 cap) ∧ y.cell? ⟨b, o, none⟩ = some (.int .i64 k0.kind) ∧ y.cell? ⟨b, o + 1, none⟩ = some (.int .i64 k0.num) ∧ y.cell? ⟨b, o + 2, none⟩ = some (.slice a0 k0.cnt c0)) := fun y hy => by
    have hb0 : b < w.heap.size := World.block_lt_of_cell? _ _ e1
    exact ⟨(tri_cells (Tri.belowB (show Tri u w.heap.size (.int .i64 f.kind) (.int .i64 f.num) (.slice (some ⟨b, o, none⟩) 1 cap) from hT1) hy (by omega))).1.2.2, below_cell' hy (by show b < w.heap.size + 1 + 1; omega) (below_cell hBu (Nat.le_refl _) e1), below_cell' hy (by show b < w.heap.size + 1 + 1; omega) (below_cell hBu (Nat.le_refl _) e2), below_cell' hy (by show b < w.heap.size + 1 + 1; omega) (below_cell hBu (Nat.le_refl _) e3)⟩
  have HX : Hid (u.heap.size = w.heap.size + 1 + 1 + 1 + 1 ∧ Below w.heap.size w u ∧ Tri u w.heap.size (.int .i64 f.kind) (.int .i64 f.num) (.slice (some ⟨b, o, none⟩) 1 cap) ∧ Tri u (w.heap.size + 1) (.int .i64 0) (.int .i64 0) (.slice none 0 0) ∧ Tri u (w.heap.size + 1 + 1) (.int .i64 0) (.int .i64 0) (.slice none 0 0) ∧ Tri u (w.heap.size + 1 + 1 + 1) (.int .i64 0) (.int .i64 0) (.slice none 0 0)) := ⟨hs, hBu, hT1, hT2, hT3, hT4⟩
  have HCC := hid hcc
  rw [hcc] at hu ⊢
  have HU := hid hu
  have hE := slm_not hk
  rw [← hk0] at hE
  have HE := hid hE
  clear hE
  have HW0 : Hid (k0.kind = 4 → k0.cnt = 1) := fun hh => by
    have hw0 := hw.out.2 0 (by omega)
    rw [← hk0] at hw0
    have := fit_cases hw0.out.1
    omega
  clear hu hs hBu hT1 hT2 hT3 hT4 h hcc e1 e2 e3 e4 e5 hk hk0 hw
  generalize slm f = g at *
  go_enter Tryd.func34, Tryd.ntmps34
  go_wp2
  rw [← HU.out]
  have hB0 : Below (w.heap.size + 1 + 1) u u.drew := below_drewN (Below.refl _ _) 1
  refine G_region (fun y => y.cell? ⟨w.heap.size, 2, none⟩ = some (.slice (some ⟨b, o, none⟩) 1 cap) ∧ y.cell? ⟨b, o, none⟩ = some (.int .i64 k0.kind) ∧ y.cell? ⟨b, o + 1, none⟩ = some (.int .i64 k0.num) ∧ y.cell? ⟨b, o + 2, none⟩ = some (.slice a0 k0.cnt c0)) (fun _ => false) (by kernel_rfl) (HS.out _ hB0) (fun _ => ?_)
  refine G_take (i := 0) (oi := { dst := some 12, op := Op.fieldAddr 24 (Operand.tmp 1) 2, type := 0, pos := _, after := #[], guard := none }) (v := .pointer (some ⟨w.heap.size, 2, none⟩)) rfl (by kernel_rfl) (by kernel_rfl) (by kernel_rfl) (by kernel_rfl) (fun _ _ _ h => h) (by rfl) (fun u hu => ?_) (HS.out _ hB0) ?_
  · (try dsimp only at hu); go_simp
  (try simp only [Act.put, List.setIfInBounds_toArray, List.set_cons_zero, List.set_cons_succ])
  refine G_take (i := 1) (oi := { dst := some 13, op := Op.load 22 (Operand.tmp 12), type := 22, pos := _, after := #[{ on := 0, ground := Ground.data }], guard := none }) (v := .slice (some ⟨b, o, none⟩) 1 cap) rfl (by kernel_rfl) (by kernel_rfl) (by kernel_rfl) (by kernel_rfl) (fun _ _ _ h => h) (by rfl) (fun u hu => ?_) (HS.out _ hB0) ?_
  · (try dsimp only at hu); go_simp
  (try simp only [Act.put, List.setIfInBounds_toArray, List.set_cons_zero, List.set_cons_succ])
  refine G_take (i := 2) (oi := { dst := some 14, op := Op.indexAddr 22 (Operand.tmp 13) (Operand.const (Value.int IntKind.i64 0)), type := 0, pos := _, after := #[{ on := 1, ground := Ground.data }], guard := none }) (v := .pointer (some ⟨b, o, none⟩)) rfl (by kernel_rfl) (by kernel_rfl) (by kernel_rfl) (by kernel_rfl) (fun _ _ _ h => h) (by rfl) (fun u hu => ?_) (HS.out _ hB0) ?_
  · (try dsimp only at hu); go_simp
  (try simp only [Act.put, List.setIfInBounds_toArray, List.set_cons_zero, List.set_cons_succ])
  refine G_take (i := 3) (oi := { dst := some 15, op := Op.load 24 (Operand.tmp 14), type := 24, pos := _, after := #[{ on := 2, ground := Ground.data }], guard := none }) (v := .agg #[.int .i64 k0.kind, .int .i64 k0.num, .slice a0 k0.cnt c0]) rfl (by kernel_rfl) (by kernel_rfl) (by kernel_rfl) (by kernel_rfl) (fun _ _ _ h => h) (by rfl) (fun u hu => ?_) (HS.out _ hB0) ?_
  · (try dsimp only at hu); go_simp
  (try simp only [Act.put, List.setIfInBounds_toArray, List.set_cons_zero, List.set_cons_succ])
  refine G_take (i := 4) (oi := { dst := some 16, op := Op.fieldAddr 24 (Operand.tmp 1) 2, type := 0, pos := _, after := #[{ on := 12, ground := Ground.gcOnly Departure.lateStores }], guard := none }) (v := .pointer (some ⟨w.heap.size, 2, none⟩)) rfl (by kernel_rfl) (by kernel_rfl) (by kernel_rfl) (by kernel_rfl) (fun _ _ _ h => h) (by rfl) (fun u hu => ?_) (HS.out _ hB0) ?_
  · (try dsimp only at hu); go_simp
  (try simp only [Act.put, List.setIfInBounds_toArray, List.set_cons_zero, List.set_cons_succ])
  refine G_take (i := 5) (oi := { dst := some 17, op := Op.load 22 (Operand.tmp 16), type := 22, pos := _, after := #[{ on := 4, ground := Ground.data }, { on := 12, ground := Ground.gcOnly Departure.lateStores }], guard := none }) (v := .slice (some ⟨b, o, none⟩) 1 cap) rfl (by kernel_rfl) (by kernel_rfl) (by kernel_rfl) (by kernel_rfl) (fun _ _ _ h => h) (by rfl) (fun u hu => ?_) (HS.out _ hB0) ?_
  · (try dsimp only at hu); go_simp
  (try simp only [Act.put, List.setIfInBounds_toArray, List.set_cons_zero, List.set_cons_succ])
  refine G_take (i := 6) (oi := { dst := some 18, op := Op.fieldAddr 24 (Operand.tmp 1) 2, type := 0, pos := _, after := #[], guard := none }) (v := .pointer (some ⟨w.heap.size, 2, none⟩)) rfl (by kernel_rfl) (by kernel_rfl) (by kernel_rfl) (by kernel_rfl) (fun _ _ _ h => h) (by rfl) (fun u hu => ?_) (HS.out _ hB0) ?_
  · (try dsimp only at hu); go_simp
  (try simp only [Act.put, List.setIfInBounds_toArray, List.set_cons_zero, List.set_cons_succ])
  refine G_take (i := 7) (oi := { dst := some 19, op := Op.load 22 (Operand.tmp 18), type := 22, pos := _, after := #[{ on := 6, ground := Ground.data }], guard := none }) (v := .slice (some ⟨b, o, none⟩) 1 cap) rfl (by kernel_rfl) (by kernel_rfl) (by kernel_rfl) (by kernel_rfl) (fun _ _ _ h => h) (by rfl) (fun u hu => ?_) (HS.out _ hB0) ?_
  · (try dsimp only at hu); go_simp
  (try simp only [Act.put, List.setIfInBounds_toArray, List.set_cons_zero, List.set_cons_succ])
  refine G_take (i := 8) (oi := { dst := some 20, op := Op.call { callee := Callee.builtin Builtin.len, args := #[Operand.tmp 19], argTypes := #[22] }, type := 3, pos := _, after := #[{ on := 7, ground := Ground.data }], guard := none }) (v := .int .i64 1) rfl (by kernel_rfl) (by kernel_rfl) (by kernel_rfl) (by kernel_rfl) (fun _ _ _ h => h) (by rfl) (fun u hu => ?_) (HS.out _ hB0) ?_
  · (try dsimp only at hu); go_simp
  (try simp only [Act.put, List.setIfInBounds_toArray, List.set_cons_zero, List.set_cons_succ])
  refine G_take (i := 9) (oi := { dst := some 21, op := Op.binOp BinOp.sub 3 (Operand.tmp 20) (Operand.const (Value.int IntKind.i64 1)) 3, type := 3, pos := _, after := #[{ on := 8, ground := Ground.data }, { on := 12, ground := Ground.gcOnly Departure.lateStores }], guard := none }) (v := .int .i64 0) rfl (by kernel_rfl) (by kernel_rfl) (by kernel_rfl) (by kernel_rfl) (fun _ _ _ h => h) (by rfl) (fun u hu => ?_) (HS.out _ hB0) ?_
  · (try dsimp only at hu); go_simp; (try rfl)
  (try simp only [Act.put, List.setIfInBounds_toArray, List.set_cons_zero, List.set_cons_succ])
  refine G_take (i := 10) (oi := { dst := some 22, op := Op.indexAddr 22 (Operand.tmp 17) (Operand.tmp 21), type := 0, pos := _, after := #[{ on := 5, ground := Ground.data }, { on := 9, ground := Ground.data }, { on := 12, ground := Ground.gcOnly Departure.lateStores }], guard := none }) (v := .pointer (some ⟨b, o, none⟩)) rfl (by kernel_rfl) (by kernel_rfl) (by kernel_rfl) (by kernel_rfl) (fun _ _ _ h => h) (by rfl) (fun u hu => ?_) (HS.out _ hB0) ?_
  · (try dsimp only at hu); go_simp
  (try simp only [Act.put, List.setIfInBounds_toArray, List.set_cons_zero, List.set_cons_succ])
  refine G_take (i := 11) (oi := { dst := some 23, op := Op.load 24 (Operand.tmp 22), type := 24, pos := _, after := #[{ on := 10, ground := Ground.data }, { on := 12, ground := Ground.gcOnly Departure.lateStores }], guard := none }) (v := .agg #[.int .i64 k0.kind, .int .i64 k0.num, .slice a0 k0.cnt c0]) rfl (by kernel_rfl) (by kernel_rfl) (by kernel_rfl) (by kernel_rfl) (fun _ _ _ h => h) (by rfl) (fun u hu => ?_) (HS.out _ hB0) ?_
  · (try dsimp only at hu); go_simp
  (try simp only [Act.put, List.setIfInBounds_toArray, List.set_cons_zero, List.set_cons_succ])
  obtain ⟨y0, hy0⟩ : ∃ q, q = u.drew := ⟨_, rfl⟩
  have hx3 : Tri y0 (w.heap.size + 1 + 1) (.int .i64 0) (.int .i64 0) (.slice none 0 0) := by rw [hy0]; exact HX.out.2.2.2.2.1
  have hx4 : Tri y0 (w.heap.size + 1 + 1 + 1) (.int .i64 0) (.int .i64 0) (.slice none 0 0) := by rw [hy0]; exact HX.out.2.2.2.2.2
  rw [← hy0] at hB0 ⊢
  clear hy0
  obtain ⟨⟨d0, d1, d2⟩, g0, g1, g2⟩ := tri_cells hx3
  have hl3 := hx3.lt
  refine G_step (i := 12) (o := { dst := none, op := Op.store 24 (Operand.tmp 3) (Operand.tmp 15), type := 0, pos := _, after := #[{ on := 3, ground := Ground.data }, { on := 0, ground := Ground.phase }, { on := 1, ground := Ground.phase }, { on := 2, ground := Ground.phase }, { on := 3, ground := Ground.phase }, { on := 4, ground := Ground.textOnly Departure.lateStores }, { on := 5, ground := Ground.textOnly Departure.lateStores }, { on := 6, ground := Ground.textOnly Departure.lateStores }, { on := 7, ground := Ground.textOnly Departure.lateStores }, { on := 8, ground := Ground.textOnly Departure.lateStoresUnsure }, { on := 9, ground := Ground.textOnly Departure.lateStores }, { on := 10, ground := Ground.textOnly Departure.lateStores }, { on := 11, ground := Ground.textOnly Departure.lateStores }], guard := none }) (by kernel_rfl) rfl (fun K' hK => ?_)
  go_simp
  obtain ⟨y3, hy3⟩ : ∃ q, q = ((y0.setCell ⟨w.heap.size + 1 + 1, 0, none⟩ (.int .i64 k0.kind)).setCell ⟨w.heap.size + 1 + 1, 1, none⟩ (.int .i64 k0.num)).setCell ⟨w.heap.size + 1 + 1, 2, none⟩ (.slice a0 k0.cnt c0) := ⟨_, rfl⟩
  rw [← hy3]
  have hB3 : Below (w.heap.size + 1 + 1) u y3 := by rw [hy3]; exact below_tri hB0 (Nat.le_refl _) _ _ _
  have hA3 : Tri y3 (w.heap.size + 1 + 1) (.int .i64 k0.kind) (.int .i64 k0.num) (.slice a0 k0.cnt c0) := by rw [hy3]; exact tri_set hx3 _ _ _
  have hZ3 : Tri y3 (w.heap.size + 1 + 1 + 1) (.int .i64 0) (.int .i64 0) (.slice none 0 0) := by rw [hy3]; exact (blk_tri (by omega) _ _ _).trans hx4
  refine hK.out _ _ (fun _ => HS.out _ hB3) (fun _ => ?_)
  clear hK K' hy3 hx3 hx4 hB0 d0 d1 d2 g0 g1 g2 hl3
  (try simp only [Act.put, List.setIfInBounds_toArray, List.set_cons_zero, List.set_cons_succ])
  obtain ⟨⟨d0, d1, d2⟩, g0, g1, g2⟩ := tri_cells hZ3
  have hl3 := hZ3.lt
  refine G_step (i := 13) (o := { dst := none, op := Op.store 24 (Operand.tmp 4) (Operand.tmp 23), type := 0, pos := _, after := #[{ on := 11, ground := Ground.data }, { on := 12, ground := Ground.chain }, { on := 0, ground := Ground.phase }, { on := 1, ground := Ground.phase }, { on := 2, ground := Ground.phase }, { on := 3, ground := Ground.phase }, { on := 4, ground := Ground.phase }, { on := 5, ground := Ground.phase }, { on := 6, ground := Ground.phase }, { on := 7, ground := Ground.phase }, { on := 8, ground := Ground.phase }, { on := 9, ground := Ground.phase }, { on := 10, ground := Ground.phase }, { on := 11, ground := Ground.phase }, { on := 12, ground := Ground.phase }], guard := none }) (by kernel_rfl) rfl (fun K' hK => ?_)
  go_simp
  obtain ⟨y4, hy4⟩ : ∃ q, q = ((y3.setCell ⟨w.heap.size + 1 + 1 + 1, 0, none⟩ (.int .i64 k0.kind)).setCell ⟨w.heap.size + 1 + 1 + 1, 1, none⟩ (.int .i64 k0.num)).setCell ⟨w.heap.size + 1 + 1 + 1, 2, none⟩ (.slice a0 k0.cnt c0) := ⟨_, rfl⟩
  rw [← hy4]
  have hB4 : Below (w.heap.size + 1 + 1) u y4 := by rw [hy4]; exact below_tri hB3 (by omega) _ _ _
  have hZ4 : Tri y4 (w.heap.size + 1 + 1 + 1) (.int .i64 k0.kind) (.int .i64 k0.num) (.slice a0 k0.cnt c0) := by rw [hy4]; exact tri_set hZ3 _ _ _
  have hA4 : Tri y4 (w.heap.size + 1 + 1) (.int .i64 k0.kind) (.int .i64 k0.num) (.slice a0 k0.cnt c0) := by rw [hy4]; exact (blk_tri (by omega) _ _ _).trans hA3
  refine hK.out _ _ (fun _ => HS.out _ hB4) (fun _ => ?_)
  clear hK K' hy4 hA3 hZ3 hB3 d0 d1 d2 g0 g1 g2 hl3
  (try simp only [Act.put, List.setIfInBounds_toArray, List.set_cons_zero, List.set_cons_succ])
  refine G_done (by kernel_rfl) ?_ _
  have HY : Hid (Below w.heap.size w y4 ∧ Tri y4 w.heap.size (.int .i64 f.kind) (.int .i64 f.num) (.slice (some ⟨b, o, none⟩) 1 cap) ∧ Tri y4 (w.heap.size + 1) (.int .i64 0) (.int .i64 0) (.slice none 0 0) ∧ Tri y4 (w.heap.size + 1 + 1) (.int .i64 k0.kind) (.int .i64 k0.num) (.slice a0 k0.cnt c0) ∧ Tri y4 (w.heap.size + 1 + 1 + 1) (.int .i64 k0.kind) (.int .i64 k0.num) (.slice a0 k0.cnt c0)) := ⟨HX.out.2.1.trans (hB4.mono (by omega)), HX.out.2.2.1.belowB hB4 (by omega), HX.out.2.2.2.1.belowB hB4 (by omega), hA4, hZ4⟩
  clear hB4 hA4 hZ4 HS HU
  have L1 := hid (leaf_g 1 0 y4)
  go_wp2_with fail
  refine L1.out.mono ?_
  rintro e w5 ⟨rfl, hb5⟩
  have L2 := hid (leaf_g 2 0 w5)
  have HB5 : Hid (Below y4.heap.size y4 w5) := hb5
  clear hb5 L1
  go_wp2_with fail
  refine L2.out.mono ?_
  rintro e w6 ⟨rfl, hb6⟩
  have hb56 := HB5.out.trans (hb6.mono HB5.out.size)
  obtain ⟨wd, hwd⟩ : ∃ y, y = (w6.alloc (.cells #[.int .i64 1, .int .i64 0, .slice none 0 0] 24)).alloc (.cells #[.int .i64 2, .int .i64 0, .slice none 0 0] 24) := ⟨_, rfl⟩
  have HSR : Hid (Sr w f k0 k0 (some ⟨b, o, none⟩) a0 a0 cap c0 c0 wd w6.heap.size) := by
    refine sr_made (HY.out.1.trans (hb56.mono HY.out.1.size)) ?_ (HY.out.2.2.1.below hb56) (HY.out.2.2.2.1.below hb56) (HY.out.2.2.2.2.below hb56) wd hwd
    rw [HCC.out]
    exact HY.out.2.1.below hb56
  have HWD := hid hwd
  have HW6 : Hid (Tri w6 (w.heap.size + 1) (.int .i64 0) (.int .i64 0) (.slice none 0 0) ∧ Below w.heap.size w w6) := ⟨HY.out.2.2.1.below hb56, HY.out.1.trans (hb56.mono HY.out.1.size)⟩
  clear hwd hb6 hb56 HB5 L2 HY
  obtain ⟨⟨f0, f1, f2⟩, -⟩ := tri_cells HSR.out.bx
  obtain ⟨⟨r0, r1, r2⟩, z0, z1, z2⟩ := tri_cells HSR.out.rs
  obtain ⟨⟨v0, v1, v2⟩, -⟩ := tri_cells HSR.out.ka
  obtain ⟨⟨s0, s1, s2⟩, -⟩ := tri_cells HSR.out.kb
  obtain ⟨⟨yy0, yy1, yy2⟩, -⟩ := tri_cells HSR.out.ys
  obtain ⟨⟨nn0, nn1, nn2⟩, -⟩ := tri_cells HSR.out.ns
  have hltr := HSR.out.rs.lt
  have hx5 := HSR.out.lt
  rw [HCC.out] at f2
  rw [HWD.out] at f0 f1 f2 r0 r1 r2 z0 z1 z2 v0 v1 v2 s0 s1 s2 yy0 yy1 yy2 nn0 nn1 nn2 hltr
  by_cases q1 : k0.kind = 1
  · have HEq : Hid (g = nd 2 0) := by
      have e := HE.out
      rw [q1] at e
      exact e
    have b1 : (k0.kind == 1) = true := beq_iff_eq.2 q1
    clear q1 HE
    go_wp2
    rw [← HWD.out]
    (try simp only [Exit.inBlock, Exit.then])
    refine bodyPost_ret (results_cell_row rfl _ _ (w.heap.size + 1) 24 #[.int .i64 2, .int .i64 0, .slice none 0 0] (0, 0) _ rfl (tri_set HSR.out.rs _ _ _) Tryd.underlying24 rfl (by kernel_rfl)) rfl ?_
    rw [HEq.out]
    have hbf := below_tri (x := w.heap.size + 1) HSR.out.bel (by omega) (.int .i64 2) (.int .i64 0) (.slice none 0 0)
    exact ⟨none, 0, rfl, Kq.nd _ _ _, hbf⟩
  have b1 : (k0.kind == 1) = false := beq_eq_false_iff_ne.2 q1
  by_cases q2 : k0.kind = 2
  · have HEq : Hid (g = nd 1 0) := by
      have e := HE.out
      rw [q2] at e
      exact e
    have b2 : (k0.kind == 2) = true := beq_iff_eq.2 q2
    clear q1 q2 HE
    go_wp2
    rw [← HWD.out]
    (try simp only [Exit.inBlock, Exit.then])
    refine bodyPost_ret (results_cell_row rfl _ _ (w.heap.size + 1) 24 #[.int .i64 1, .int .i64 0, .slice none 0 0] (0, 0) _ rfl (tri_set HSR.out.rs _ _ _) Tryd.underlying24 rfl (by kernel_rfl)) rfl ?_
    rw [HEq.out]
    have hbf := below_tri (x := w.heap.size + 1) HSR.out.bel (by omega) (.int .i64 1) (.int .i64 0) (.slice none 0 0)
    exact ⟨none, 0, rfl, Kq.nd _ _ _, hbf⟩
  have b2 : (k0.kind == 2) = false := beq_eq_false_iff_ne.2 q2
  have q3 : ¬ fxd k0.kind = true := by simp [fxd, q1, q2]
  have hE := HE.out
  rw [if_neg q3] at hE
  by_cases q4 : k0.kind = 4
  · rw [if_pos q4] at hE
    have HEq := hid hE
    have b4 : (k0.kind == 4) = true := beq_iff_eq.2 q4
    have hc4 := HW0.out q4
    obtain ⟨bb, oo, ai, ci, rfl, y1, y2, y3, y4, y5⟩ := kid_cells HK0.out.1 (i := 0) (by omega)
    simp only [Nat.zero_mul, Nat.add_zero] at y1 y2 y3
    have x1 := below_cell HSR.out.bel (Nat.le_refl _) y1
    have x2 := below_cell HSR.out.bel (Nat.le_refl _) y2
    have x3 := below_cell HSR.out.bel (Nat.le_refl _) y3
    rw [HWD.out] at x1 x2 x3
    have hkz : (0 : Int) < k0.cnt := by omega
    have hkn : 0 < k0.cnt := by omega
    have HKK := hid y5
    obtain ⟨kk, hkk⟩ : ∃ y, y = k0.kid 0 := ⟨_, rfl⟩
    rw [← hkk] at x1 x2 x3 HEq HKK
    clear q1 q2 q3 q4 HE hE y1 y2 y3 y4 y5 hkk hc4
    go_wp2
    rw [← HWD.out]
    (try simp only [Exit.inBlock, Exit.then])
    refine bodyPost_ret (results_cell_row rfl _ _ (w.heap.size + 1) 24 #[.int .i64 kk.kind, .int .i64 kk.num, .slice ai kk.cnt ci] (0, 0) _ rfl (tri_set HSR.out.rs _ _ _) Tryd.underlying24 rfl (by kernel_rfl)) rfl ?_
    rw [HEq.out]
    have hbf := below_tri (x := w.heap.size + 1) HSR.out.bel (by omega) (.int .i64 kk.kind) (.int .i64 kk.num) (.slice ai kk.cnt ci)
    exact ⟨ai, ci, rfl, HKK.out.below hbf, hbf⟩
  rw [if_neg q4] at hE
  have HEq := hid hE
  have b4 : (k0.kind == 4) = false := beq_eq_false_iff_ne.2 q4
  clear q1 q2 q3 q4 HE hE
  go_wp2
  rw [← HWD.out]
  (try simp only [Exit.inBlock, Exit.then])
  refine bodyPost_ret (results_cell_row rfl _ _ (w.heap.size + 1) 24 #[.int .i64 f.kind, .int .i64 f.num, .slice (some ⟨b, o, none⟩) 1 cap] (0, 0) _ rfl (tri_set HSR.out.rs _ _ _) Tryd.underlying24 rfl (by kernel_rfl)) rfl ?_
  rw [HEq.out]
  have hbf := below_tri (x := w.heap.size + 1) HSR.out.bel (by omega) (.int .i64 f.kind) (.int .i64 f.num) (.slice (some ⟨b, o, none⟩) 1 cap)
  rw [← HCC.out] at hbf ⊢
  exact ⟨(some ⟨b, o, none⟩), cap, rfl, HKF.out.below hbf, hbf⟩

set_option maxHeartbeats 8000000 in
set_option maxRecDepth 20000 in
theorem sr7 {f : Fml} (p : Nat → Bool) (hk : f.kind = 7) (hcc : f.cnt = 1) (a : Option Addr) (cap : Nat) (w : World) (h : Kq p w f a) :
    Calls Tryd.prog 34 #[.agg #[.int .i64 f.kind, .int .i64 f.num, .slice a f.cnt cap]] w fun e w' => Nq p w (slm f) e w' := by
  have t4 : (f.kind == 4) = false := by rw [hk]; rfl
  have t5 : (f.kind == 5) = false := by rw [hk]; rfl
  have t6 : (f.kind == 6) = false := by rw [hk]; rfl
  have t7 : (f.kind == 7) = true := by rw [hk]; rfl
  have t10 : (f.kind == 10) = false := by rw [hk]; rfl
  have t11 : (f.kind == 11) = false := by rw [hk]; rfl
  have t8 : (f.kind == 8) = false := by rw [hk]; rfl
  have t9 : (f.kind == 9) = false := by rw [hk]; rfl
  obtain ⟨b, o, a0, c0, rfl, e1, e2, e3, e4, e5⟩ := kid_cells h (i := 0) (by omega)
  simp only [Nat.zero_mul, Nat.add_zero] at e1 e2 e3
  obtain ⟨k0, hk0⟩ : ∃ y, y = f.kid 0 := ⟨_, rfl⟩
  rw [← hk0] at e1 e2 e3 e4 e5
  have HK0 := hid (And.intro e5 e4)
  have HKF := hid h
  obtain ⟨u, hu⟩ : ∃ y, y = (((w.alloc (.cells #[.int .i64 f.kind, .int .i64 f.num, .slice (some ⟨b, o, none⟩) f.cnt cap] 24)).alloc (.cells #[.int .i64 0, .int .i64 0, .slice none 0 0] 24)).alloc (.cells #[.int .i64 0, .int .i64 0, .slice none 0 0] 24)).alloc (.cells #[.int .i64 0, .int .i64 0, .slice none 0 0] 24) := ⟨_, rfl⟩
  obtain ⟨hs, hBu, hT1, hT2, hT3, hT4⟩ := four_new w _ u hu
  rw [hcc] at hT1
  have HS : Hid (∀ y, Below (w.heap.size + 1 + 1) u y → y.cell? ⟨w.heap.size, 2, none⟩ = some (.slice (some ⟨b, o, none⟩) 1 cap) ∧ y.cell? ⟨b, o, none⟩ = some (.int .i64 k0.kind) ∧ y.cell? ⟨b, o + 1, none⟩ = some (.int .i64 k0.num) ∧ y.cell? ⟨b, o + 2, none⟩ = some (.slice a0 k0.cnt c0)) := fun y hy => by
    have hb0 : b < w.heap.size := World.block_lt_of_cell? _ _ e1
    exact ⟨(tri_cells (Tri.belowB (show Tri u w.heap.size (.int .i64 f.kind) (.int .i64 f.num) (.slice (some ⟨b, o, none⟩) 1 cap) from hT1) hy (by omega))).1.2.2, below_cell' hy (by show b < w.heap.size + 1 + 1; omega) (below_cell hBu (Nat.le_refl _) e1), below_cell' hy (by show b < w.heap.size + 1 + 1; omega) (below_cell hBu (Nat.le_refl _) e2), below_cell' hy (by show b < w.heap.size + 1 + 1; omega) (below_cell hBu (Nat.le_refl _) e3)⟩
  have HX : Hid (u.heap.size = w.heap.size + 1 + 1 + 1 + 1 ∧ Below w.heap.size w u ∧ Tri u w.heap.size (.int .i64 f.kind) (.int .i64 f.num) (.slice (some ⟨b, o, none⟩) 1 cap) ∧ Tri u (w.heap.size + 1) (.int .i64 0) (.int .i64 0) (.slice none 0 0) ∧ Tri u (w.heap.size + 1 + 1) (.int .i64 0) (.int .i64 0) (.slice none 0 0) ∧ Tri u (w.heap.size + 1 + 1 + 1) (.int .i64 0) (.int .i64 0) (.slice none 0 0)) := ⟨hs, hBu, hT1, hT2, hT3, hT4⟩
  have HCC := hid hcc
  rw [hcc] at hu ⊢
  have HU := hid hu
  have hE := slm_single (f := f) (by omega)
  rw [← hk0] at hE
  have HE := hid hE
  clear hE
  have H7 : Hid (f.kind = 7) := hid hk
  clear hu hs hBu hT1 hT2 hT3 hT4 h hcc e1 e2 e3 e4 e5 hk hk0
  generalize slm f = g at *
  go_enter Tryd.func34, Tryd.ntmps34
  go_wp2
  rw [← HU.out]
  have hB0 : Below (w.heap.size + 1 + 1) u u.drew := below_drewN (Below.refl _ _) 1
  refine G_region (fun y => y.cell? ⟨w.heap.size, 2, none⟩ = some (.slice (some ⟨b, o, none⟩) 1 cap) ∧ y.cell? ⟨b, o, none⟩ = some (.int .i64 k0.kind) ∧ y.cell? ⟨b, o + 1, none⟩ = some (.int .i64 k0.num) ∧ y.cell? ⟨b, o + 2, none⟩ = some (.slice a0 k0.cnt c0)) (fun _ => false) (by kernel_rfl) (HS.out _ hB0) (fun _ => ?_)
  refine G_take (i := 0) (oi := { dst := some 12, op := Op.fieldAddr 24 (Operand.tmp 1) 2, type := 0, pos := _, after := #[], guard := none }) (v := .pointer (some ⟨w.heap.size, 2, none⟩)) rfl (by kernel_rfl) (by kernel_rfl) (by kernel_rfl) (by kernel_rfl) (fun _ _ _ h => h) (by rfl) (fun u hu => ?_) (HS.out _ hB0) ?_
  · (try dsimp only at hu); go_simp
  (try simp only [Act.put, List.setIfInBounds_toArray, List.set_cons_zero, List.set_cons_succ])
  refine G_take (i := 1) (oi := { dst := some 13, op := Op.load 22 (Operand.tmp 12), type := 22, pos := _, after := #[{ on := 0, ground := Ground.data }], guard := none }) (v := .slice (some ⟨b, o, none⟩) 1 cap) rfl (by kernel_rfl) (by kernel_rfl) (by kernel_rfl) (by kernel_rfl) (fun _ _ _ h => h) (by rfl) (fun u hu => ?_) (HS.out _ hB0) ?_
  · (try dsimp only at hu); go_simp
  (try simp only [Act.put, List.setIfInBounds_toArray, List.set_cons_zero, List.set_cons_succ])
  refine G_take (i := 2) (oi := { dst := some 14, op := Op.indexAddr 22 (Operand.tmp 13) (Operand.const (Value.int IntKind.i64 0)), type := 0, pos := _, after := #[{ on := 1, ground := Ground.data }], guard := none }) (v := .pointer (some ⟨b, o, none⟩)) rfl (by kernel_rfl) (by kernel_rfl) (by kernel_rfl) (by kernel_rfl) (fun _ _ _ h => h) (by rfl) (fun u hu => ?_) (HS.out _ hB0) ?_
  · (try dsimp only at hu); go_simp
  (try simp only [Act.put, List.setIfInBounds_toArray, List.set_cons_zero, List.set_cons_succ])
  refine G_take (i := 3) (oi := { dst := some 15, op := Op.load 24 (Operand.tmp 14), type := 24, pos := _, after := #[{ on := 2, ground := Ground.data }], guard := none }) (v := .agg #[.int .i64 k0.kind, .int .i64 k0.num, .slice a0 k0.cnt c0]) rfl (by kernel_rfl) (by kernel_rfl) (by kernel_rfl) (by kernel_rfl) (fun _ _ _ h => h) (by rfl) (fun u hu => ?_) (HS.out _ hB0) ?_
  · (try dsimp only at hu); go_simp
  (try simp only [Act.put, List.setIfInBounds_toArray, List.set_cons_zero, List.set_cons_succ])
  refine G_take (i := 4) (oi := { dst := some 16, op := Op.fieldAddr 24 (Operand.tmp 1) 2, type := 0, pos := _, after := #[{ on := 12, ground := Ground.gcOnly Departure.lateStores }], guard := none }) (v := .pointer (some ⟨w.heap.size, 2, none⟩)) rfl (by kernel_rfl) (by kernel_rfl) (by kernel_rfl) (by kernel_rfl) (fun _ _ _ h => h) (by rfl) (fun u hu => ?_) (HS.out _ hB0) ?_
  · (try dsimp only at hu); go_simp
  (try simp only [Act.put, List.setIfInBounds_toArray, List.set_cons_zero, List.set_cons_succ])
  refine G_take (i := 5) (oi := { dst := some 17, op := Op.load 22 (Operand.tmp 16), type := 22, pos := _, after := #[{ on := 4, ground := Ground.data }, { on := 12, ground := Ground.gcOnly Departure.lateStores }], guard := none }) (v := .slice (some ⟨b, o, none⟩) 1 cap) rfl (by kernel_rfl) (by kernel_rfl) (by kernel_rfl) (by kernel_rfl) (fun _ _ _ h => h) (by rfl) (fun u hu => ?_) (HS.out _ hB0) ?_
  · (try dsimp only at hu); go_simp
  (try simp only [Act.put, List.setIfInBounds_toArray, List.set_cons_zero, List.set_cons_succ])
  refine G_take (i := 6) (oi := { dst := some 18, op := Op.fieldAddr 24 (Operand.tmp 1) 2, type := 0, pos := _, after := #[], guard := none }) (v := .pointer (some ⟨w.heap.size, 2, none⟩)) rfl (by kernel_rfl) (by kernel_rfl) (by kernel_rfl) (by kernel_rfl) (fun _ _ _ h => h) (by rfl) (fun u hu => ?_) (HS.out _ hB0) ?_
  · (try dsimp only at hu); go_simp
  (try simp only [Act.put, List.setIfInBounds_toArray, List.set_cons_zero, List.set_cons_succ])
  refine G_take (i := 7) (oi := { dst := some 19, op := Op.load 22 (Operand.tmp 18), type := 22, pos := _, after := #[{ on := 6, ground := Ground.data }], guard := none }) (v := .slice (some ⟨b, o, none⟩) 1 cap) rfl (by kernel_rfl) (by kernel_rfl) (by kernel_rfl) (by kernel_rfl) (fun _ _ _ h => h) (by rfl) (fun u hu => ?_) (HS.out _ hB0) ?_
  · (try dsimp only at hu); go_simp
  (try simp only [Act.put, List.setIfInBounds_toArray, List.set_cons_zero, List.set_cons_succ])
  refine G_take (i := 8) (oi := { dst := some 20, op := Op.call { callee := Callee.builtin Builtin.len, args := #[Operand.tmp 19], argTypes := #[22] }, type := 3, pos := _, after := #[{ on := 7, ground := Ground.data }], guard := none }) (v := .int .i64 1) rfl (by kernel_rfl) (by kernel_rfl) (by kernel_rfl) (by kernel_rfl) (fun _ _ _ h => h) (by rfl) (fun u hu => ?_) (HS.out _ hB0) ?_
  · (try dsimp only at hu); go_simp
  (try simp only [Act.put, List.setIfInBounds_toArray, List.set_cons_zero, List.set_cons_succ])
  refine G_take (i := 9) (oi := { dst := some 21, op := Op.binOp BinOp.sub 3 (Operand.tmp 20) (Operand.const (Value.int IntKind.i64 1)) 3, type := 3, pos := _, after := #[{ on := 8, ground := Ground.data }, { on := 12, ground := Ground.gcOnly Departure.lateStores }], guard := none }) (v := .int .i64 0) rfl (by kernel_rfl) (by kernel_rfl) (by kernel_rfl) (by kernel_rfl) (fun _ _ _ h => h) (by rfl) (fun u hu => ?_) (HS.out _ hB0) ?_
  · (try dsimp only at hu); go_simp; (try rfl)
  (try simp only [Act.put, List.setIfInBounds_toArray, List.set_cons_zero, List.set_cons_succ])
  refine G_take (i := 10) (oi := { dst := some 22, op := Op.indexAddr 22 (Operand.tmp 17) (Operand.tmp 21), type := 0, pos := _, after := #[{ on := 5, ground := Ground.data }, { on := 9, ground := Ground.data }, { on := 12, ground := Ground.gcOnly Departure.lateStores }], guard := none }) (v := .pointer (some ⟨b, o, none⟩)) rfl (by kernel_rfl) (by kernel_rfl) (by kernel_rfl) (by kernel_rfl) (fun _ _ _ h => h) (by rfl) (fun u hu => ?_) (HS.out _ hB0) ?_
  · (try dsimp only at hu); go_simp
  (try simp only [Act.put, List.setIfInBounds_toArray, List.set_cons_zero, List.set_cons_succ])
  refine G_take (i := 11) (oi := { dst := some 23, op := Op.load 24 (Operand.tmp 22), type := 24, pos := _, after := #[{ on := 10, ground := Ground.data }, { on := 12, ground := Ground.gcOnly Departure.lateStores }], guard := none }) (v := .agg #[.int .i64 k0.kind, .int .i64 k0.num, .slice a0 k0.cnt c0]) rfl (by kernel_rfl) (by kernel_rfl) (by kernel_rfl) (by kernel_rfl) (fun _ _ _ h => h) (by rfl) (fun u hu => ?_) (HS.out _ hB0) ?_
  · (try dsimp only at hu); go_simp
  (try simp only [Act.put, List.setIfInBounds_toArray, List.set_cons_zero, List.set_cons_succ])
  obtain ⟨y0, hy0⟩ : ∃ q, q = u.drew := ⟨_, rfl⟩
  have hx3 : Tri y0 (w.heap.size + 1 + 1) (.int .i64 0) (.int .i64 0) (.slice none 0 0) := by rw [hy0]; exact HX.out.2.2.2.2.1
  have hx4 : Tri y0 (w.heap.size + 1 + 1 + 1) (.int .i64 0) (.int .i64 0) (.slice none 0 0) := by rw [hy0]; exact HX.out.2.2.2.2.2
  rw [← hy0] at hB0 ⊢
  clear hy0
  obtain ⟨⟨d0, d1, d2⟩, g0, g1, g2⟩ := tri_cells hx3
  have hl3 := hx3.lt
  refine G_step (i := 12) (o := { dst := none, op := Op.store 24 (Operand.tmp 3) (Operand.tmp 15), type := 0, pos := _, after := #[{ on := 3, ground := Ground.data }, { on := 0, ground := Ground.phase }, { on := 1, ground := Ground.phase }, { on := 2, ground := Ground.phase }, { on := 3, ground := Ground.phase }, { on := 4, ground := Ground.textOnly Departure.lateStores }, { on := 5, ground := Ground.textOnly Departure.lateStores }, { on := 6, ground := Ground.textOnly Departure.lateStores }, { on := 7, ground := Ground.textOnly Departure.lateStores }, { on := 8, ground := Ground.textOnly Departure.lateStoresUnsure }, { on := 9, ground := Ground.textOnly Departure.lateStores }, { on := 10, ground := Ground.textOnly Departure.lateStores }, { on := 11, ground := Ground.textOnly Departure.lateStores }], guard := none }) (by kernel_rfl) rfl (fun K' hK => ?_)
  go_simp
  obtain ⟨y3, hy3⟩ : ∃ q, q = ((y0.setCell ⟨w.heap.size + 1 + 1, 0, none⟩ (.int .i64 k0.kind)).setCell ⟨w.heap.size + 1 + 1, 1, none⟩ (.int .i64 k0.num)).setCell ⟨w.heap.size + 1 + 1, 2, none⟩ (.slice a0 k0.cnt c0) := ⟨_, rfl⟩
  rw [← hy3]
  have hB3 : Below (w.heap.size + 1 + 1) u y3 := by rw [hy3]; exact below_tri hB0 (Nat.le_refl _) _ _ _
  have hA3 : Tri y3 (w.heap.size + 1 + 1) (.int .i64 k0.kind) (.int .i64 k0.num) (.slice a0 k0.cnt c0) := by rw [hy3]; exact tri_set hx3 _ _ _
  have hZ3 : Tri y3 (w.heap.size + 1 + 1 + 1) (.int .i64 0) (.int .i64 0) (.slice none 0 0) := by rw [hy3]; exact (blk_tri (by omega) _ _ _).trans hx4
  refine hK.out _ _ (fun _ => HS.out _ hB3) (fun _ => ?_)
  clear hK K' hy3 hx3 hx4 hB0 d0 d1 d2 g0 g1 g2 hl3
  (try simp only [Act.put, List.setIfInBounds_toArray, List.set_cons_zero, List.set_cons_succ])
  obtain ⟨⟨d0, d1, d2⟩, g0, g1, g2⟩ := tri_cells hZ3
  have hl3 := hZ3.lt
  refine G_step (i := 13) (o := { dst := none, op := Op.store 24 (Operand.tmp 4) (Operand.tmp 23), type := 0, pos := _, after := #[{ on := 11, ground := Ground.data }, { on := 12, ground := Ground.chain }, { on := 0, ground := Ground.phase }, { on := 1, ground := Ground.phase }, { on := 2, ground := Ground.phase }, { on := 3, ground := Ground.phase }, { on := 4, ground := Ground.phase }, { on := 5, ground := Ground.phase }, { on := 6, ground := Ground.phase }, { on := 7, ground := Ground.phase }, { on := 8, ground := Ground.phase }, { on := 9, ground := Ground.phase }, { on := 10, ground := Ground.phase }, { on := 11, ground := Ground.phase }, { on := 12, ground := Ground.phase }], guard := none }) (by kernel_rfl) rfl (fun K' hK => ?_)
  go_simp
  obtain ⟨y4, hy4⟩ : ∃ q, q = ((y3.setCell ⟨w.heap.size + 1 + 1 + 1, 0, none⟩ (.int .i64 k0.kind)).setCell ⟨w.heap.size + 1 + 1 + 1, 1, none⟩ (.int .i64 k0.num)).setCell ⟨w.heap.size + 1 + 1 + 1, 2, none⟩ (.slice a0 k0.cnt c0) := ⟨_, rfl⟩
  rw [← hy4]
  have hB4 : Below (w.heap.size + 1 + 1) u y4 := by rw [hy4]; exact below_tri hB3 (by omega) _ _ _
  have hZ4 : Tri y4 (w.heap.size + 1 + 1 + 1) (.int .i64 k0.kind) (.int .i64 k0.num) (.slice a0 k0.cnt c0) := by rw [hy4]; exact tri_set hZ3 _ _ _
  have hA4 : Tri y4 (w.heap.size + 1 + 1) (.int .i64 k0.kind) (.int .i64 k0.num) (.slice a0 k0.cnt c0) := by rw [hy4]; exact (blk_tri (by omega) _ _ _).trans hA3
  refine hK.out _ _ (fun _ => HS.out _ hB4) (fun _ => ?_)
  clear hK K' hy4 hA3 hZ3 hB3 d0 d1 d2 g0 g1 g2 hl3
  (try simp only [Act.put, List.setIfInBounds_toArray, List.set_cons_zero, List.set_cons_succ])
  refine G_done (by kernel_rfl) ?_ _
  have HY : Hid (Below w.heap.size w y4 ∧ Tri y4 w.heap.size (.int .i64 f.kind) (.int .i64 f.num) (.slice (some ⟨b, o, none⟩) 1 cap) ∧ Tri y4 (w.heap.size + 1) (.int .i64 0) (.int .i64 0) (.slice none 0 0) ∧ Tri y4 (w.heap.size + 1 + 1) (.int .i64 k0.kind) (.int .i64 k0.num) (.slice a0 k0.cnt c0) ∧ Tri y4 (w.heap.size + 1 + 1 + 1) (.int .i64 k0.kind) (.int .i64 k0.num) (.slice a0 k0.cnt c0)) := ⟨HX.out.2.1.trans (hB4.mono (by omega)), HX.out.2.2.1.belowB hB4 (by omega), HX.out.2.2.2.1.belowB hB4 (by omega), hA4, hZ4⟩
  clear hB4 hA4 hZ4 HS HU
  have L1 := hid (leaf_g 1 0 y4)
  go_wp2_with fail
  refine L1.out.mono ?_
  rintro e w5 ⟨rfl, hb5⟩
  have L2 := hid (leaf_g 2 0 w5)
  have HB5 : Hid (Below y4.heap.size y4 w5) := hb5
  clear hb5 L1
  go_wp2_with fail
  refine L2.out.mono ?_
  rintro e w6 ⟨rfl, hb6⟩
  have hb56 := HB5.out.trans (hb6.mono HB5.out.size)
  obtain ⟨wd, hwd⟩ : ∃ y, y = (w6.alloc (.cells #[.int .i64 1, .int .i64 0, .slice none 0 0] 24)).alloc (.cells #[.int .i64 2, .int .i64 0, .slice none 0 0] 24) := ⟨_, rfl⟩
  have HSR : Hid (Sr w f k0 k0 (some ⟨b, o, none⟩) a0 a0 cap c0 c0 wd w6.heap.size) := by
    refine sr_made (HY.out.1.trans (hb56.mono HY.out.1.size)) ?_ (HY.out.2.2.1.below hb56) (HY.out.2.2.2.1.below hb56) (HY.out.2.2.2.2.below hb56) wd hwd
    rw [HCC.out]
    exact HY.out.2.1.below hb56
  have HWD := hid hwd
  have HW6 : Hid (Tri w6 (w.heap.size + 1) (.int .i64 0) (.int .i64 0) (.slice none 0 0) ∧ Below w.heap.size w w6) := ⟨HY.out.2.2.1.below hb56, HY.out.1.trans (hb56.mono HY.out.1.size)⟩
  clear hwd hb6 hb56 HB5 L2 HY
  obtain ⟨⟨f0, f1, f2⟩, -⟩ := tri_cells HSR.out.bx
  obtain ⟨⟨r0, r1, r2⟩, z0, z1, z2⟩ := tri_cells HSR.out.rs
  obtain ⟨⟨v0, v1, v2⟩, -⟩ := tri_cells HSR.out.ka
  obtain ⟨⟨s0, s1, s2⟩, -⟩ := tri_cells HSR.out.kb
  obtain ⟨⟨yy0, yy1, yy2⟩, -⟩ := tri_cells HSR.out.ys
  obtain ⟨⟨nn0, nn1, nn2⟩, -⟩ := tri_cells HSR.out.ns
  have hltr := HSR.out.rs.lt
  have hx5 := HSR.out.lt
  rw [HCC.out] at f2
  rw [HWD.out] at f0 f1 f2 r0 r1 r2 z0 z1 z2 v0 v1 v2 s0 s1 s2 yy0 yy1 yy2 nn0 nn1 nn2 hltr
  have hE := HE.out
  have C := hid (fixed44 k0.kind k0.num a0 k0.cnt c0 wd)
  by_cases q1 : fxd k0.kind = true
  · rw [if_pos (Or.inl q1)] at hE
    have HEq := hid hE
    rw [q1] at C
    clear q1 HE hE H7
    go_wp2_with fail
    rw [← HWD.out]
    refine C.out.mono ?_
    rintro e w8 ⟨rfl, hb8⟩
    clear f0 f1 f2 r0 r1 r2 z0 z1 z2 v0 v1 v2 s0 s1 s2 yy0 yy1 yy2 nn0 nn1 nn2 hltr
    have HS8 := hid (HSR.out.below hb8)
    have hcf := HCC.out
    obtain ⟨⟨f0, f1, f2⟩, -⟩ := tri_cells HS8.out.bx
    obtain ⟨⟨r0, r1, r2⟩, z0, z1, z2⟩ := tri_cells HS8.out.rs
    obtain ⟨⟨v0, v1, v2⟩, -⟩ := tri_cells HS8.out.ka
    obtain ⟨⟨s0, s1, s2⟩, -⟩ := tri_cells HS8.out.kb
    have hltr := HS8.out.rs.lt
    rw [hcf] at f2
    clear hb8 hcf
    clear C
    go_wp2
    (try simp only [Exit.inBlock, Exit.then])
    refine bodyPost_ret (results_cell_row rfl _ _ (w.heap.size + 1) 24 #[.int .i64 k0.kind, .int .i64 k0.num, .slice a0 k0.cnt c0] (0, 0) _ rfl (tri_set HS8.out.rs _ _ _) Tryd.underlying24 rfl (by kernel_rfl)) rfl ?_
    rw [HEq.out]
    have hbf := below_tri (x := w.heap.size + 1) HS8.out.bel (by omega) (.int .i64 k0.kind) (.int .i64 k0.num) (.slice a0 k0.cnt c0)
    exact ⟨a0, c0, rfl, HK0.out.1.below hbf, hbf⟩
  have q1' : fxd k0.kind = false := by simpa using q1
  rw [q1'] at C
  rw [if_neg (by rintro (h1 | h1); exact q1 h1; exact h1.2 H7.out)] at hE
  have HEq := hid hE
  clear q1 q1' HE hE H7
  go_wp2_with fail
  rw [← HWD.out]
  refine C.out.mono ?_
  rintro e w8 ⟨rfl, hb8⟩
  clear f0 f1 f2 r0 r1 r2 z0 z1 z2 v0 v1 v2 s0 s1 s2 yy0 yy1 yy2 nn0 nn1 nn2 hltr
  have HS8 := hid (HSR.out.below hb8)
  have hcf := HCC.out
  obtain ⟨⟨f0, f1, f2⟩, -⟩ := tri_cells HS8.out.bx
  obtain ⟨⟨r0, r1, r2⟩, z0, z1, z2⟩ := tri_cells HS8.out.rs
  obtain ⟨⟨v0, v1, v2⟩, -⟩ := tri_cells HS8.out.ka
  obtain ⟨⟨s0, s1, s2⟩, -⟩ := tri_cells HS8.out.kb
  have hltr := HS8.out.rs.lt
  rw [hcf] at f2
  clear hb8 hcf
  clear C
  go_wp2
  (try simp only [Exit.inBlock, Exit.then])
  refine bodyPost_ret (results_cell_row rfl _ _ (w.heap.size + 1) 24 #[.int .i64 f.kind, .int .i64 f.num, .slice (some ⟨b, o, none⟩) 1 cap] (0, 0) _ rfl (tri_set HS8.out.rs _ _ _) Tryd.underlying24 rfl (by kernel_rfl)) rfl ?_
  rw [HEq.out]
  have hbf := below_tri (x := w.heap.size + 1) HS8.out.bel (by omega) (.int .i64 f.kind) (.int .i64 f.num) (.slice (some ⟨b, o, none⟩) 1 cap)
  rw [← HCC.out] at hbf ⊢
  exact ⟨(some ⟨b, o, none⟩), cap, rfl, HKF.out.below hbf, hbf⟩

set_option maxHeartbeats 8000000 in
set_option maxRecDepth 20000 in
theorem sr10 {f : Fml} (p : Nat → Bool) (hk : f.kind = 10) (hcc : f.cnt = 1) (a : Option Addr) (cap : Nat) (w : World) (h : Kq p w f a) :
    Calls Tryd.prog 34 #[.agg #[.int .i64 f.kind, .int .i64 f.num, .slice a f.cnt cap]] w fun e w' => Nq p w (slm f) e w' := by
  have t4 : (f.kind == 4) = false := by rw [hk]; rfl
  have t5 : (f.kind == 5) = false := by rw [hk]; rfl
  have t6 : (f.kind == 6) = false := by rw [hk]; rfl
  have t7 : (f.kind == 7) = false := by rw [hk]; rfl
  have t10 : (f.kind == 10) = true := by rw [hk]; rfl
  have t11 : (f.kind == 11) = false := by rw [hk]; rfl
  have t8 : (f.kind == 8) = false := by rw [hk]; rfl
  have t9 : (f.kind == 9) = false := by rw [hk]; rfl
  obtain ⟨b, o, a0, c0, rfl, e1, e2, e3, e4, e5⟩ := kid_cells h (i := 0) (by omega)
  simp only [Nat.zero_mul, Nat.add_zero] at e1 e2 e3
  obtain ⟨k0, hk0⟩ : ∃ y, y = f.kid 0 := ⟨_, rfl⟩
  rw [← hk0] at e1 e2 e3 e4 e5
  have HK0 := hid (And.intro e5 e4)
  have HKF := hid h
  obtain ⟨u, hu⟩ : ∃ y, y = (((w.alloc (.cells #[.int .i64 f.kind, .int .i64 f.num, .slice (some ⟨b, o, none⟩) f.cnt cap] 24)).alloc (.cells #[.int .i64 0, .int .i64 0, .slice none 0 0] 24)).alloc (.cells #[.int .i64 0, .int .i64 0, .slice none 0 0] 24)).alloc (.cells #[.int .i64 0, .int .i64 0, .slice none 0 0] 24) := ⟨_, rfl⟩
  obtain ⟨hs, hBu, hT1, hT2, hT3, hT4⟩ := four_new w _ u hu
  rw [hcc] at hT1
  have HS : Hid (∀ y, Below (w.heap.size + 1 + 1) u y → y.cell? ⟨w.heap.size, 2, none⟩ = some (.slice (some ⟨b, o, none⟩) 1 cap) ∧ y.cell? ⟨b, o, none⟩ = some (.int .i64 k0.kind) ∧ y.cell? ⟨b, o + 1, none⟩ = some (.int .i64 k0.num) ∧ y.cell? ⟨b, o + 2, none⟩ = some (.slice a0 k0.cnt c0)) := fun y hy => by
    have hb0 : b < w.heap.size := World.block_lt_of_cell? _ _ e1
    exact ⟨(tri_cells (Tri.belowB (show Tri u w.heap.size (.int .i64 f.kind) (.int .i64 f.num) (.slice (some ⟨b, o, none⟩) 1 cap) from hT1) hy (by omega))).1.2.2, below_cell' hy (by show b < w.heap.size + 1 + 1; omega) (below_cell hBu (Nat.le_refl _) e1), below_cell' hy (by show b < w.heap.size + 1 + 1; omega) (below_cell hBu (Nat.le_refl _) e2), below_cell' hy (by show b < w.heap.size + 1 + 1; omega) (below_cell hBu (Nat.le_refl _) e3)⟩
  have HX : Hid (u.heap.size = w.heap.size + 1 + 1 + 1 + 1 ∧ Below w.heap.size w u ∧ Tri u w.heap.size (.int .i64 f.kind) (.int .i64 f.num) (.slice (some ⟨b, o, none⟩) 1 cap) ∧ Tri u (w.heap.size + 1) (.int .i64 0) (.int .i64 0) (.slice none 0 0) ∧ Tri u (w.heap.size + 1 + 1) (.int .i64 0) (.int .i64 0) (.slice none 0 0) ∧ Tri u (w.heap.size + 1 + 1 + 1) (.int .i64 0) (.int .i64 0) (.slice none 0 0)) := ⟨hs, hBu, hT1, hT2, hT3, hT4⟩
  have HCC := hid hcc
  rw [hcc] at hu ⊢
  have HU := hid hu
  have hE := slm_single (f := f) (by omega)
  rw [← hk0] at hE
  have HE := hid hE
  clear hE
  have H7 : Hid (f.kind ≠ 7) := hid (by omega)
  clear hu hs hBu hT1 hT2 hT3 hT4 h hcc e1 e2 e3 e4 e5 hk hk0
  generalize slm f = g at *
  go_enter Tryd.func34, Tryd.ntmps34
  go_wp2
  rw [← HU.out]
  have hB0 : Below (w.heap.size + 1 + 1) u u.drew := below_drewN (Below.refl _ _) 1
  refine G_region (fun y => y.cell? ⟨w.heap.size, 2, none⟩ = some (.slice (some ⟨b, o, none⟩) 1 cap) ∧ y.cell? ⟨b, o, none⟩ = some (.int .i64 k0.kind) ∧ y.cell? ⟨b, o + 1, none⟩ = some (.int .i64 k0.num) ∧ y.cell? ⟨b, o + 2, none⟩ = some (.slice a0 k0.cnt c0)) (fun _ => false) (by kernel_rfl) (HS.out _ hB0) (fun _ => ?_)
  refine G_take (i := 0) (oi := { dst := some 12, op := Op.fieldAddr 24 (Operand.tmp 1) 2, type := 0, pos := _, after := #[], guard := none }) (v := .pointer (some ⟨w.heap.size, 2, none⟩)) rfl (by kernel_rfl) (by kernel_rfl) (by kernel_rfl) (by kernel_rfl) (fun _ _ _ h => h) (by rfl) (fun u hu => ?_) (HS.out _ hB0) ?_
  · (try dsimp only at hu); go_simp
  (try simp only [Act.put, List.setIfInBounds_toArray, List.set_cons_zero, List.set_cons_succ])
  refine G_take (i := 1) (oi := { dst := some 13, op := Op.load 22 (Operand.tmp 12), type := 22, pos := _, after := #[{ on := 0, ground := Ground.data }], guard := none }) (v := .slice (some ⟨b, o, none⟩) 1 cap) rfl (by kernel_rfl) (by kernel_rfl) (by kernel_rfl) (by kernel_rfl) (fun _ _ _ h => h) (by rfl) (fun u hu => ?_) (HS.out _ hB0) ?_
  · (try dsimp only at hu); go_simp
  (try simp only [Act.put, List.setIfInBounds_toArray, List.set_cons_zero, List.set_cons_succ])
  refine G_take (i := 2) (oi := { dst := some 14, op := Op.indexAddr 22 (Operand.tmp 13) (Operand.const (Value.int IntKind.i64 0)), type := 0, pos := _, after := #[{ on := 1, ground := Ground.data }], guard := none }) (v := .pointer (some ⟨b, o, none⟩)) rfl (by kernel_rfl) (by kernel_rfl) (by kernel_rfl) (by kernel_rfl) (fun _ _ _ h => h) (by rfl) (fun u hu => ?_) (HS.out _ hB0) ?_
  · (try dsimp only at hu); go_simp
  (try simp only [Act.put, List.setIfInBounds_toArray, List.set_cons_zero, List.set_cons_succ])
  refine G_take (i := 3) (oi := { dst := some 15, op := Op.load 24 (Operand.tmp 14), type := 24, pos := _, after := #[{ on := 2, ground := Ground.data }], guard := none }) (v := .agg #[.int .i64 k0.kind, .int .i64 k0.num, .slice a0 k0.cnt c0]) rfl (by kernel_rfl) (by kernel_rfl) (by kernel_rfl) (by kernel_rfl) (fun _ _ _ h => h) (by rfl) (fun u hu => ?_) (HS.out _ hB0) ?_
  · (try dsimp only at hu); go_simp
  (try simp only [Act.put, List.setIfInBounds_toArray, List.set_cons_zero, List.set_cons_succ])
  refine G_take (i := 4) (oi := { dst := some 16, op := Op.fieldAddr 24 (Operand.tmp 1) 2, type := 0, pos := _, after := #[{ on := 12, ground := Ground.gcOnly Departure.lateStores }], guard := none }) (v := .pointer (some ⟨w.heap.size, 2, none⟩)) rfl (by kernel_rfl) (by kernel_rfl) (by kernel_rfl) (by kernel_rfl) (fun _ _ _ h => h) (by rfl) (fun u hu => ?_) (HS.out _ hB0) ?_
  · (try dsimp only at hu); go_simp
  (try simp only [Act.put, List.setIfInBounds_toArray, List.set_cons_zero, List.set_cons_succ])
  refine G_take (i := 5) (oi := { dst := some 17, op := Op.load 22 (Operand.tmp 16), type := 22, pos := _, after := #[{ on := 4, ground := Ground.data }, { on := 12, ground := Ground.gcOnly Departure.lateStores }], guard := none }) (v := .slice (some ⟨b, o, none⟩) 1 cap) rfl (by kernel_rfl) (by kernel_rfl) (by kernel_rfl) (by kernel_rfl) (fun _ _ _ h => h) (by rfl) (fun u hu => ?_) (HS.out _ hB0) ?_
  · (try dsimp only at hu); go_simp
  (try simp only [Act.put, List.setIfInBounds_toArray, List.set_cons_zero, List.set_cons_succ])
  refine G_take (i := 6) (oi := { dst := some 18, op := Op.fieldAddr 24 (Operand.tmp 1) 2, type := 0, pos := _, after := #[], guard := none }) (v := .pointer (some ⟨w.heap.size, 2, none⟩)) rfl (by kernel_rfl) (by kernel_rfl) (by kernel_rfl) (by kernel_rfl) (fun _ _ _ h => h) (by rfl) (fun u hu => ?_) (HS.out _ hB0) ?_
  · (try dsimp only at hu); go_simp
  (try simp only [Act.put, List.setIfInBounds_toArray, List.set_cons_zero, List.set_cons_succ])
  refine G_take (i := 7) (oi := { dst := some 19, op := Op.load 22 (Operand.tmp 18), type := 22, pos := _, after := #[{ on := 6, ground := Ground.data }], guard := none }) (v := .slice (some ⟨b, o, none⟩) 1 cap) rfl (by kernel_rfl) (by kernel_rfl) (by kernel_rfl) (by kernel_rfl) (fun _ _ _ h => h) (by rfl) (fun u hu => ?_) (HS.out _ hB0) ?_
  · (try dsimp only at hu); go_simp
  (try simp only [Act.put, List.setIfInBounds_toArray, List.set_cons_zero, List.set_cons_succ])
  refine G_take (i := 8) (oi := { dst := some 20, op := Op.call { callee := Callee.builtin Builtin.len, args := #[Operand.tmp 19], argTypes := #[22] }, type := 3, pos := _, after := #[{ on := 7, ground := Ground.data }], guard := none }) (v := .int .i64 1) rfl (by kernel_rfl) (by kernel_rfl) (by kernel_rfl) (by kernel_rfl) (fun _ _ _ h => h) (by rfl) (fun u hu => ?_) (HS.out _ hB0) ?_
  · (try dsimp only at hu); go_simp
  (try simp only [Act.put, List.setIfInBounds_toArray, List.set_cons_zero, List.set_cons_succ])
  refine G_take (i := 9) (oi := { dst := some 21, op := Op.binOp BinOp.sub 3 (Operand.tmp 20) (Operand.const (Value.int IntKind.i64 1)) 3, type := 3, pos := _, after := #[{ on := 8, ground := Ground.data }, { on := 12, ground := Ground.gcOnly Departure.lateStores }], guard := none }) (v := .int .i64 0) rfl (by kernel_rfl) (by kernel_rfl) (by kernel_rfl) (by kernel_rfl) (fun _ _ _ h => h) (by rfl) (fun u hu => ?_) (HS.out _ hB0) ?_
  · (try dsimp only at hu); go_simp; (try rfl)
  (try simp only [Act.put, List.setIfInBounds_toArray, List.set_cons_zero, List.set_cons_succ])
  refine G_take (i := 10) (oi := { dst := some 22, op := Op.indexAddr 22 (Operand.tmp 17) (Operand.tmp 21), type := 0, pos := _, after := #[{ on := 5, ground := Ground.data }, { on := 9, ground := Ground.data }, { on := 12, ground := Ground.gcOnly Departure.lateStores }], guard := none }) (v := .pointer (some ⟨b, o, none⟩)) rfl (by kernel_rfl) (by kernel_rfl) (by kernel_rfl) (by kernel_rfl) (fun _ _ _ h => h) (by rfl) (fun u hu => ?_) (HS.out _ hB0) ?_
  · (try dsimp only at hu); go_simp
  (try simp only [Act.put, List.setIfInBounds_toArray, List.set_cons_zero, List.set_cons_succ])
  refine G_take (i := 11) (oi := { dst := some 23, op := Op.load 24 (Operand.tmp 22), type := 24, pos := _, after := #[{ on := 10, ground := Ground.data }, { on := 12, ground := Ground.gcOnly Departure.lateStores }], guard := none }) (v := .agg #[.int .i64 k0.kind, .int .i64 k0.num, .slice a0 k0.cnt c0]) rfl (by kernel_rfl) (by kernel_rfl) (by kernel_rfl) (by kernel_rfl) (fun _ _ _ h => h) (by rfl) (fun u hu => ?_) (HS.out _ hB0) ?_
  · (try dsimp only at hu); go_simp
  (try simp only [Act.put, List.setIfInBounds_toArray, List.set_cons_zero, List.set_cons_succ])
  obtain ⟨y0, hy0⟩ : ∃ q, q = u.drew := ⟨_, rfl⟩
  have hx3 : Tri y0 (w.heap.size + 1 + 1) (.int .i64 0) (.int .i64 0) (.slice none 0 0) := by rw [hy0]; exact HX.out.2.2.2.2.1
  have hx4 : Tri y0 (w.heap.size + 1 + 1 + 1) (.int .i64 0) (.int .i64 0) (.slice none 0 0) := by rw [hy0]; exact HX.out.2.2.2.2.2
  rw [← hy0] at hB0 ⊢
  clear hy0
  obtain ⟨⟨d0, d1, d2⟩, g0, g1, g2⟩ := tri_cells hx3
  have hl3 := hx3.lt
  refine G_step (i := 12) (o := { dst := none, op := Op.store 24 (Operand.tmp 3) (Operand.tmp 15), type := 0, pos := _, after := #[{ on := 3, ground := Ground.data }, { on := 0, ground := Ground.phase }, { on := 1, ground := Ground.phase }, { on := 2, ground := Ground.phase }, { on := 3, ground := Ground.phase }, { on := 4, ground := Ground.textOnly Departure.lateStores }, { on := 5, ground := Ground.textOnly Departure.lateStores }, { on := 6, ground := Ground.textOnly Departure.lateStores }, { on := 7, ground := Ground.textOnly Departure.lateStores }, { on := 8, ground := Ground.textOnly Departure.lateStoresUnsure }, { on := 9, ground := Ground.textOnly Departure.lateStores }, { on := 10, ground := Ground.textOnly Departure.lateStores }, { on := 11, ground := Ground.textOnly Departure.lateStores }], guard := none }) (by kernel_rfl) rfl (fun K' hK => ?_)
  go_simp
  obtain ⟨y3, hy3⟩ : ∃ q, q = ((y0.setCell ⟨w.heap.size + 1 + 1, 0, none⟩ (.int .i64 k0.kind)).setCell ⟨w.heap.size + 1 + 1, 1, none⟩ (.int .i64 k0.num)).setCell ⟨w.heap.size + 1 + 1, 2, none⟩ (.slice a0 k0.cnt c0) := ⟨_, rfl⟩
  rw [← hy3]
  have hB3 : Below (w.heap.size + 1 + 1) u y3 := by rw [hy3]; exact below_tri hB0 (Nat.le_refl _) _ _ _
  have hA3 : Tri y3 (w.heap.size + 1 + 1) (.int .i64 k0.kind) (.int .i64 k0.num) (.slice a0 k0.cnt c0) := by rw [hy3]; exact tri_set hx3 _ _ _
  have hZ3 : Tri y3 (w.heap.size + 1 + 1 + 1) (.int .i64 0) (.int .i64 0) (.slice none 0 0) := by rw [hy3]; exact (blk_tri (by omega) _ _ _).trans hx4
  refine hK.out _ _ (fun _ => HS.out _ hB3) (fun _ => ?_)
  clear hK K' hy3 hx3 hx4 hB0 d0 d1 d2 g0 g1 g2 hl3
  (try simp only [Act.put, List.setIfInBounds_toArray, List.set_cons_zero, List.set_cons_succ])
  obtain ⟨⟨d0, d1, d2⟩, g0, g1, g2⟩ := tri_cells hZ3
  have hl3 := hZ3.lt
  refine G_step (i := 13) (o := { dst := none, op := Op.store 24 (Operand.tmp 4) (Operand.tmp 23), type := 0, pos := _, after := #[{ on := 11, ground := Ground.data }, { on := 12, ground := Ground.chain }, { on := 0, ground := Ground.phase }, { on := 1, ground := Ground.phase }, { on := 2, ground := Ground.phase }, { on := 3, ground := Ground.phase }, { on := 4, ground := Ground.phase }, { on := 5, ground := Ground.phase }, { on := 6, ground := Ground.phase }, { on := 7, ground := Ground.phase }, { on := 8, ground := Ground.phase }, { on := 9, ground := Ground.phase }, { on := 10, ground := Ground.phase }, { on := 11, ground := Ground.phase }, { on := 12, ground := Ground.phase }], guard := none }) (by kernel_rfl) rfl (fun K' hK => ?_)
  go_simp
  obtain ⟨y4, hy4⟩ : ∃ q, q = ((y3.setCell ⟨w.heap.size + 1 + 1 + 1, 0, none⟩ (.int .i64 k0.kind)).setCell ⟨w.heap.size + 1 + 1 + 1, 1, none⟩ (.int .i64 k0.num)).setCell ⟨w.heap.size + 1 + 1 + 1, 2, none⟩ (.slice a0 k0.cnt c0) := ⟨_, rfl⟩
  rw [← hy4]
  have hB4 : Below (w.heap.size + 1 + 1) u y4 := by rw [hy4]; exact below_tri hB3 (by omega) _ _ _
  have hZ4 : Tri y4 (w.heap.size + 1 + 1 + 1) (.int .i64 k0.kind) (.int .i64 k0.num) (.slice a0 k0.cnt c0) := by rw [hy4]; exact tri_set hZ3 _ _ _
  have hA4 : Tri y4 (w.heap.size + 1 + 1) (.int .i64 k0.kind) (.int .i64 k0.num) (.slice a0 k0.cnt c0) := by rw [hy4]; exact (blk_tri (by omega) _ _ _).trans hA3
  refine hK.out _ _ (fun _ => HS.out _ hB4) (fun _ => ?_)
  clear hK K' hy4 hA3 hZ3 hB3 d0 d1 d2 g0 g1 g2 hl3
  (try simp only [Act.put, List.setIfInBounds_toArray, List.set_cons_zero, List.set_cons_succ])
  refine G_done (by kernel_rfl) ?_ _
  have HY : Hid (Below w.heap.size w y4 ∧ Tri y4 w.heap.size (.int .i64 f.kind) (.int .i64 f.num) (.slice (some ⟨b, o, none⟩) 1 cap) ∧ Tri y4 (w.heap.size + 1) (.int .i64 0) (.int .i64 0) (.slice none 0 0) ∧ Tri y4 (w.heap.size + 1 + 1) (.int .i64 k0.kind) (.int .i64 k0.num) (.slice a0 k0.cnt c0) ∧ Tri y4 (w.heap.size + 1 + 1 + 1) (.int .i64 k0.kind) (.int .i64 k0.num) (.slice a0 k0.cnt c0)) := ⟨HX.out.2.1.trans (hB4.mono (by omega)), HX.out.2.2.1.belowB hB4 (by omega), HX.out.2.2.2.1.belowB hB4 (by omega), hA4, hZ4⟩
  clear hB4 hA4 hZ4 HS HU
  have L1 := hid (leaf_g 1 0 y4)
  go_wp2_with fail
  refine L1.out.mono ?_
  rintro e w5 ⟨rfl, hb5⟩
  have L2 := hid (leaf_g 2 0 w5)
  have HB5 : Hid (Below y4.heap.size y4 w5) := hb5
  clear hb5 L1
  go_wp2_with fail
  refine L2.out.mono ?_
  rintro e w6 ⟨rfl, hb6⟩
  have hb56 := HB5.out.trans (hb6.mono HB5.out.size)
  obtain ⟨wd, hwd⟩ : ∃ y, y = (w6.alloc (.cells #[.int .i64 1, .int .i64 0, .slice none 0 0] 24)).alloc (.cells #[.int .i64 2, .int .i64 0, .slice none 0 0] 24) := ⟨_, rfl⟩
  have HSR : Hid (Sr w f k0 k0 (some ⟨b, o, none⟩) a0 a0 cap c0 c0 wd w6.heap.size) := by
    refine sr_made (HY.out.1.trans (hb56.mono HY.out.1.size)) ?_ (HY.out.2.2.1.below hb56) (HY.out.2.2.2.1.below hb56) (HY.out.2.2.2.2.below hb56) wd hwd
    rw [HCC.out]
    exact HY.out.2.1.below hb56
  have HWD := hid hwd
  have HW6 : Hid (Tri w6 (w.heap.size + 1) (.int .i64 0) (.int .i64 0) (.slice none 0 0) ∧ Below w.heap.size w w6) := ⟨HY.out.2.2.1.below hb56, HY.out.1.trans (hb56.mono HY.out.1.size)⟩
  clear hwd hb6 hb56 HB5 L2 HY
  obtain ⟨⟨f0, f1, f2⟩, -⟩ := tri_cells HSR.out.bx
  obtain ⟨⟨r0, r1, r2⟩, z0, z1, z2⟩ := tri_cells HSR.out.rs
  obtain ⟨⟨v0, v1, v2⟩, -⟩ := tri_cells HSR.out.ka
  obtain ⟨⟨s0, s1, s2⟩, -⟩ := tri_cells HSR.out.kb
  obtain ⟨⟨yy0, yy1, yy2⟩, -⟩ := tri_cells HSR.out.ys
  obtain ⟨⟨nn0, nn1, nn2⟩, -⟩ := tri_cells HSR.out.ns
  have hltr := HSR.out.rs.lt
  have hx5 := HSR.out.lt
  rw [HCC.out] at f2
  rw [HWD.out] at f0 f1 f2 r0 r1 r2 z0 z1 z2 v0 v1 v2 s0 s1 s2 yy0 yy1 yy2 nn0 nn1 nn2 hltr
  have hE := HE.out
  have C := hid (fixed44 k0.kind k0.num a0 k0.cnt c0 wd)
  by_cases q1 : fxd k0.kind = true
  · rw [if_pos (Or.inl q1)] at hE
    have HEq := hid hE
    rw [q1] at C
    clear q1 HE hE H7
    go_wp2_with fail
    rw [← HWD.out]
    refine C.out.mono ?_
    rintro e w8 ⟨rfl, hb8⟩
    clear f0 f1 f2 r0 r1 r2 z0 z1 z2 v0 v1 v2 s0 s1 s2 yy0 yy1 yy2 nn0 nn1 nn2 hltr
    have HS8 := hid (HSR.out.below hb8)
    have hcf := HCC.out
    obtain ⟨⟨f0, f1, f2⟩, -⟩ := tri_cells HS8.out.bx
    obtain ⟨⟨r0, r1, r2⟩, z0, z1, z2⟩ := tri_cells HS8.out.rs
    obtain ⟨⟨v0, v1, v2⟩, -⟩ := tri_cells HS8.out.ka
    obtain ⟨⟨s0, s1, s2⟩, -⟩ := tri_cells HS8.out.kb
    have hltr := HS8.out.rs.lt
    rw [hcf] at f2
    clear hb8 hcf
    clear C
    go_wp2
    (try simp only [Exit.inBlock, Exit.then])
    refine bodyPost_ret (results_cell_row rfl _ _ (w.heap.size + 1) 24 #[.int .i64 k0.kind, .int .i64 k0.num, .slice a0 k0.cnt c0] (0, 0) _ rfl (tri_set HS8.out.rs _ _ _) Tryd.underlying24 rfl (by kernel_rfl)) rfl ?_
    rw [HEq.out]
    have hbf := below_tri (x := w.heap.size + 1) HS8.out.bel (by omega) (.int .i64 k0.kind) (.int .i64 k0.num) (.slice a0 k0.cnt c0)
    exact ⟨a0, c0, rfl, HK0.out.1.below hbf, hbf⟩
  have q1' : fxd k0.kind = false := by simpa using q1
  rw [q1'] at C
  by_cases q2 : k0.kind = f.kind
  · rw [if_pos (Or.inr ⟨q2, H7.out⟩)] at hE
    have HEq := hid hE
    have b2 : (k0.kind == f.kind) = true := beq_iff_eq.2 q2
    clear q1 q1' q2 HE hE H7
    go_wp2_with fail
    rw [← HWD.out]
    refine C.out.mono ?_
    rintro e w8 ⟨rfl, hb8⟩
    clear f0 f1 f2 r0 r1 r2 z0 z1 z2 v0 v1 v2 s0 s1 s2 yy0 yy1 yy2 nn0 nn1 nn2 hltr
    have HS8 := hid (HSR.out.below hb8)
    have hcf := HCC.out
    obtain ⟨⟨f0, f1, f2⟩, -⟩ := tri_cells HS8.out.bx
    obtain ⟨⟨r0, r1, r2⟩, z0, z1, z2⟩ := tri_cells HS8.out.rs
    obtain ⟨⟨v0, v1, v2⟩, -⟩ := tri_cells HS8.out.ka
    obtain ⟨⟨s0, s1, s2⟩, -⟩ := tri_cells HS8.out.kb
    have hltr := HS8.out.rs.lt
    rw [hcf] at f2
    clear hb8 hcf
    clear C
    go_wp2
    (try simp only [Exit.inBlock, Exit.then])
    refine bodyPost_ret (results_cell_row rfl _ _ (w.heap.size + 1) 24 #[.int .i64 k0.kind, .int .i64 k0.num, .slice a0 k0.cnt c0] (0, 0) _ rfl (tri_set HS8.out.rs _ _ _) Tryd.underlying24 rfl (by kernel_rfl)) rfl ?_
    rw [HEq.out]
    have hbf := below_tri (x := w.heap.size + 1) HS8.out.bel (by omega) (.int .i64 k0.kind) (.int .i64 k0.num) (.slice a0 k0.cnt c0)
    exact ⟨a0, c0, rfl, HK0.out.1.below hbf, hbf⟩
  · rw [if_neg (by rintro (h1 | h1); exact q1 h1; exact q2 h1.1)] at hE
    have HEq := hid hE
    have b2 : (k0.kind == f.kind) = false := beq_eq_false_iff_ne.2 q2
    clear q1 q1' q2 HE hE H7
    go_wp2_with fail
    rw [← HWD.out]
    refine C.out.mono ?_
    rintro e w8 ⟨rfl, hb8⟩
    clear f0 f1 f2 r0 r1 r2 z0 z1 z2 v0 v1 v2 s0 s1 s2 yy0 yy1 yy2 nn0 nn1 nn2 hltr
    have HS8 := hid (HSR.out.below hb8)
    have hcf := HCC.out
    obtain ⟨⟨f0, f1, f2⟩, -⟩ := tri_cells HS8.out.bx
    obtain ⟨⟨r0, r1, r2⟩, z0, z1, z2⟩ := tri_cells HS8.out.rs
    obtain ⟨⟨v0, v1, v2⟩, -⟩ := tri_cells HS8.out.ka
    obtain ⟨⟨s0, s1, s2⟩, -⟩ := tri_cells HS8.out.kb
    have hltr := HS8.out.rs.lt
    rw [hcf] at f2
    clear hb8 hcf
    clear C
    go_wp2
    (try simp only [Exit.inBlock, Exit.then])
    refine bodyPost_ret (results_cell_row rfl _ _ (w.heap.size + 1) 24 #[.int .i64 f.kind, .int .i64 f.num, .slice (some ⟨b, o, none⟩) 1 cap] (0, 0) _ rfl (tri_set HS8.out.rs _ _ _) Tryd.underlying24 rfl (by kernel_rfl)) rfl ?_
    rw [HEq.out]
    have hbf := below_tri (x := w.heap.size + 1) HS8.out.bel (by omega) (.int .i64 f.kind) (.int .i64 f.num) (.slice (some ⟨b, o, none⟩) 1 cap)
    rw [← HCC.out] at hbf ⊢
    exact ⟨(some ⟨b, o, none⟩), cap, rfl, HKF.out.below hbf, hbf⟩

set_option maxHeartbeats 8000000 in
set_option maxRecDepth 20000 in
theorem sr11 {f : Fml} (p : Nat → Bool) (hk : f.kind = 11) (hcc : f.cnt = 1) (a : Option Addr) (cap : Nat) (w : World) (h : Kq p w f a) :
    Calls Tryd.prog 34 #[.agg #[.int .i64 f.kind, .int .i64 f.num, .slice a f.cnt cap]] w fun e w' => Nq p w (slm f) e w' := by
  have t4 : (f.kind == 4) = false := by rw [hk]; rfl
  have t5 : (f.kind == 5) = false := by rw [hk]; rfl
  have t6 : (f.kind == 6) = false := by rw [hk]; rfl
  have t7 : (f.kind == 7) = false := by rw [hk]; rfl
  have t10 : (f.kind == 10) = false := by rw [hk]; rfl
  have t11 : (f.kind == 11) = true := by rw [hk]; rfl
  have t8 : (f.kind == 8) = false := by rw [hk]; rfl
  have t9 : (f.kind == 9) = false := by rw [hk]; rfl
  obtain ⟨b, o, a0, c0, rfl, e1, e2, e3, e4, e5⟩ := kid_cells h (i := 0) (by omega)
  simp only [Nat.zero_mul, Nat.add_zero] at e1 e2 e3
  obtain ⟨k0, hk0⟩ : ∃ y, y = f.kid 0 := ⟨_, rfl⟩
  rw [← hk0] at e1 e2 e3 e4 e5
  have HK0 := hid (And.intro e5 e4)
  have HKF := hid h
  obtain ⟨u, hu⟩ : ∃ y, y = (((w.alloc (.cells #[.int .i64 f.kind, .int .i64 f.num, .slice (some ⟨b, o, none⟩) f.cnt cap] 24)).alloc (.cells #[.int .i64 0, .int .i64 0, .slice none 0 0] 24)).alloc (.cells #[.int .i64 0, .int .i64 0, .slice none 0 0] 24)).alloc (.cells #[.int .i64 0, .int .i64 0, .slice none 0 0] 24) := ⟨_, rfl⟩
  obtain ⟨hs, hBu, hT1, hT2, hT3, hT4⟩ := four_new w _ u hu
  rw [hcc] at hT1
  have HS : Hid (∀ y, Below (w.heap.size + 1 + 1) u y → y.cell? ⟨w.heap.size, 2, none⟩ = some (.slice (some ⟨b, o, none⟩) 1 cap) ∧ y.cell? ⟨b, o, none⟩ = some (.int .i64 k0.kind) ∧ y.cell? ⟨b, o + 1, none⟩ = some (.int .i64 k0.num) ∧ y.cell? ⟨b, o + 2, none⟩ = some (.slice a0 k0.cnt c0)) := fun y hy => by
    have hb0 : b < w.heap.size := World.block_lt_of_cell? _ _ e1
    exact ⟨(tri_cells (Tri.belowB (show Tri u w.heap.size (.int .i64 f.kind) (.int .i64 f.num) (.slice (some ⟨b, o, none⟩) 1 cap) from hT1) hy (by omega))).1.2.2, below_cell' hy (by show b < w.heap.size + 1 + 1; omega) (below_cell hBu (Nat.le_refl _) e1), below_cell' hy (by show b < w.heap.size + 1 + 1; omega) (below_cell hBu (Nat.le_refl _) e2), below_cell' hy (by show b < w.heap.size + 1 + 1; omega) (below_cell hBu (Nat.le_refl _) e3)⟩
  have HX : Hid (u.heap.size = w.heap.size + 1 + 1 + 1 + 1 ∧ Below w.heap.size w u ∧ Tri u w.heap.size (.int .i64 f.kind) (.int .i64 f.num) (.slice (some ⟨b, o, none⟩) 1 cap) ∧ Tri u (w.heap.size + 1) (.int .i64 0) (.int .i64 0) (.slice none 0 0) ∧ Tri u (w.heap.size + 1 + 1) (.int .i64 0) (.int .i64 0) (.slice none 0 0) ∧ Tri u (w.heap.size + 1 + 1 + 1) (.int .i64 0) (.int .i64 0) (.slice none 0 0)) := ⟨hs, hBu, hT1, hT2, hT3, hT4⟩
  have HCC := hid hcc
  rw [hcc] at hu ⊢
  have HU := hid hu
  have hE := slm_single (f := f) (by omega)
  rw [← hk0] at hE
  have HE := hid hE
  clear hE
  have H7 : Hid (f.kind ≠ 7) := hid (by omega)
  clear hu hs hBu hT1 hT2 hT3 hT4 h hcc e1 e2 e3 e4 e5 hk hk0
  generalize slm f = g at *
  go_enter Tryd.func34, Tryd.ntmps34
  go_wp2
  rw [← HU.out]
  have hB0 : Below (w.heap.size + 1 + 1) u u.drew := below_drewN (Below.refl _ _) 1
  refine G_region (fun y => y.cell? ⟨w.heap.size, 2, none⟩ = some (.slice (some ⟨b, o, none⟩) 1 cap) ∧ y.cell? ⟨b, o, none⟩ = some (.int .i64 k0.kind) ∧ y.cell? ⟨b, o + 1, none⟩ = some (.int .i64 k0.num) ∧ y.cell? ⟨b, o + 2, none⟩ = some (.slice a0 k0.cnt c0)) (fun _ => false) (by kernel_rfl) (HS.out _ hB0) (fun _ => ?_)
  refine G_take (i := 0) (oi := { dst := some 12, op := Op.fieldAddr 24 (Operand.tmp 1) 2, type := 0, pos := _, after := #[], guard := none }) (v := .pointer (some ⟨w.heap.size, 2, none⟩)) rfl (by kernel_rfl) (by kernel_rfl) (by kernel_rfl) (by kernel_rfl) (fun _ _ _ h => h) (by rfl) (fun u hu => ?_) (HS.out _ hB0) ?_
  · (try dsimp only at hu); go_simp
  (try simp only [Act.put, List.setIfInBounds_toArray, List.set_cons_zero, List.set_cons_succ])
  refine G_take (i := 1) (oi := { dst := some 13, op := Op.load 22 (Operand.tmp 12), type := 22, pos := _, after := #[{ on := 0, ground := Ground.data }], guard := none }) (v := .slice (some ⟨b, o, none⟩) 1 cap) rfl (by kernel_rfl) (by kernel_rfl) (by kernel_rfl) (by kernel_rfl) (fun _ _ _ h => h) (by rfl) (fun u hu => ?_) (HS.out _ hB0) ?_
  · (try dsimp only at hu); go_simp
  (try simp only [Act.put, List.setIfInBounds_toArray, List.set_cons_zero, List.set_cons_succ])
  refine G_take (i := 2) (oi := { dst := some 14, op := Op.indexAddr 22 (Operand.tmp 13) (Operand.const (Value.int IntKind.i64 0)), type := 0, pos := _, after := #[{ on := 1, ground := Ground.data }], guard := none }) (v := .pointer (some ⟨b, o, none⟩)) rfl (by kernel_rfl) (by kernel_rfl) (by kernel_rfl) (by kernel_rfl) (fun _ _ _ h => h) (by rfl) (fun u hu => ?_) (HS.out _ hB0) ?_
  · (try dsimp only at hu); go_simp
  (try simp only [Act.put, List.setIfInBounds_toArray, List.set_cons_zero, List.set_cons_succ])
  refine G_take (i := 3) (oi := { dst := some 15, op := Op.load 24 (Operand.tmp 14), type := 24, pos := _, after := #[{ on := 2, ground := Ground.data }], guard := none }) (v := .agg #[.int .i64 k0.kind, .int .i64 k0.num, .slice a0 k0.cnt c0]) rfl (by kernel_rfl) (by kernel_rfl) (by kernel_rfl) (by kernel_rfl) (fun _ _ _ h => h) (by rfl) (fun u hu => ?_) (HS.out _ hB0) ?_
  · (try dsimp only at hu); go_simp
  (try simp only [Act.put, List.setIfInBounds_toArray, List.set_cons_zero, List.set_cons_succ])
  refine G_take (i := 4) (oi := { dst := some 16, op := Op.fieldAddr 24 (Operand.tmp 1) 2, type := 0, pos := _, after := #[{ on := 12, ground := Ground.gcOnly Departure.lateStores }], guard := none }) (v := .pointer (some ⟨w.heap.size, 2, none⟩)) rfl (by kernel_rfl) (by kernel_rfl) (by kernel_rfl) (by kernel_rfl) (fun _ _ _ h => h) (by rfl) (fun u hu => ?_) (HS.out _ hB0) ?_
  · (try dsimp only at hu); go_simp
  (try simp only [Act.put, List.setIfInBounds_toArray, List.set_cons_zero, List.set_cons_succ])
  refine G_take (i := 5) (oi := { dst := some 17, op := Op.load 22 (Operand.tmp 16), type := 22, pos := _, after := #[{ on := 4, ground := Ground.data }, { on := 12, ground := Ground.gcOnly Departure.lateStores }], guard := none }) (v := .slice (some ⟨b, o, none⟩) 1 cap) rfl (by kernel_rfl) (by kernel_rfl) (by kernel_rfl) (by kernel_rfl) (fun _ _ _ h => h) (by rfl) (fun u hu => ?_) (HS.out _ hB0) ?_
  · (try dsimp only at hu); go_simp
  (try simp only [Act.put, List.setIfInBounds_toArray, List.set_cons_zero, List.set_cons_succ])
  refine G_take (i := 6) (oi := { dst := some 18, op := Op.fieldAddr 24 (Operand.tmp 1) 2, type := 0, pos := _, after := #[], guard := none }) (v := .pointer (some ⟨w.heap.size, 2, none⟩)) rfl (by kernel_rfl) (by kernel_rfl) (by kernel_rfl) (by kernel_rfl) (fun _ _ _ h => h) (by rfl) (fun u hu => ?_) (HS.out _ hB0) ?_
  · (try dsimp only at hu); go_simp
  (try simp only [Act.put, List.setIfInBounds_toArray, List.set_cons_zero, List.set_cons_succ])
  refine G_take (i := 7) (oi := { dst := some 19, op := Op.load 22 (Operand.tmp 18), type := 22, pos := _, after := #[{ on := 6, ground := Ground.data }], guard := none }) (v := .slice (some ⟨b, o, none⟩) 1 cap) rfl (by kernel_rfl) (by kernel_rfl) (by kernel_rfl) (by kernel_rfl) (fun _ _ _ h => h) (by rfl) (fun u hu => ?_) (HS.out _ hB0) ?_
  · (try dsimp only at hu); go_simp
  (try simp only [Act.put, List.setIfInBounds_toArray, List.set_cons_zero, List.set_cons_succ])
  refine G_take (i := 8) (oi := { dst := some 20, op := Op.call { callee := Callee.builtin Builtin.len, args := #[Operand.tmp 19], argTypes := #[22] }, type := 3, pos := _, after := #[{ on := 7, ground := Ground.data }], guard := none }) (v := .int .i64 1) rfl (by kernel_rfl) (by kernel_rfl) (by kernel_rfl) (by kernel_rfl) (fun _ _ _ h => h) (by rfl) (fun u hu => ?_) (HS.out _ hB0) ?_
  · (try dsimp only at hu); go_simp
  (try simp only [Act.put, List.setIfInBounds_toArray, List.set_cons_zero, List.set_cons_succ])
  refine G_take (i := 9) (oi := { dst := some 21, op := Op.binOp BinOp.sub 3 (Operand.tmp 20) (Operand.const (Value.int IntKind.i64 1)) 3, type := 3, pos := _, after := #[{ on := 8, ground := Ground.data }, { on := 12, ground := Ground.gcOnly Departure.lateStores }], guard := none }) (v := .int .i64 0) rfl (by kernel_rfl) (by kernel_rfl) (by kernel_rfl) (by kernel_rfl) (fun _ _ _ h => h) (by rfl) (fun u hu => ?_) (HS.out _ hB0) ?_
  · (try dsimp only at hu); go_simp; (try rfl)
  (try simp only [Act.put, List.setIfInBounds_toArray, List.set_cons_zero, List.set_cons_succ])
  refine G_take (i := 10) (oi := { dst := some 22, op := Op.indexAddr 22 (Operand.tmp 17) (Operand.tmp 21), type := 0, pos := _, after := #[{ on := 5, ground := Ground.data }, { on := 9, ground := Ground.data }, { on := 12, ground := Ground.gcOnly Departure.lateStores }], guard := none }) (v := .pointer (some ⟨b, o, none⟩)) rfl (by kernel_rfl) (by kernel_rfl) (by kernel_rfl) (by kernel_rfl) (fun _ _ _ h => h) (by rfl) (fun u hu => ?_) (HS.out _ hB0) ?_
  · (try dsimp only at hu); go_simp
  (try simp only [Act.put, List.setIfInBounds_toArray, List.set_cons_zero, List.set_cons_succ])
  refine G_take (i := 11) (oi := { dst := some 23, op := Op.load 24 (Operand.tmp 22), type := 24, pos := _, after := #[{ on := 10, ground := Ground.data }, { on := 12, ground := Ground.gcOnly Departure.lateStores }], guard := none }) (v := .agg #[.int .i64 k0.kind, .int .i64 k0.num, .slice a0 k0.cnt c0]) rfl (by kernel_rfl) (by kernel_rfl) (by kernel_rfl) (by kernel_rfl) (fun _ _ _ h => h) (by rfl) (fun u hu => ?_) (HS.out _ hB0) ?_
  · (try dsimp only at hu); go_simp
  (try simp only [Act.put, List.setIfInBounds_toArray, List.set_cons_zero, List.set_cons_succ])
  obtain ⟨y0, hy0⟩ : ∃ q, q = u.drew := ⟨_, rfl⟩
  have hx3 : Tri y0 (w.heap.size + 1 + 1) (.int .i64 0) (.int .i64 0) (.slice none 0 0) := by rw [hy0]; exact HX.out.2.2.2.2.1
  have hx4 : Tri y0 (w.heap.size + 1 + 1 + 1) (.int .i64 0) (.int .i64 0) (.slice none 0 0) := by rw [hy0]; exact HX.out.2.2.2.2.2
  rw [← hy0] at hB0 ⊢
  clear hy0
  obtain ⟨⟨d0, d1, d2⟩, g0, g1, g2⟩ := tri_cells hx3
  have hl3 := hx3.lt
  refine G_step (i := 12) (o := { dst := none, op := Op.store 24 (Operand.tmp 3) (Operand.tmp 15), type := 0, pos := _, after := #[{ on := 3, ground := Ground.data }, { on := 0, ground := Ground.phase }, { on := 1, ground := Ground.phase }, { on := 2, ground := Ground.phase }, { on := 3, ground := Ground.phase }, { on := 4, ground := Ground.textOnly Departure.lateStores }, { on := 5, ground := Ground.textOnly Departure.lateStores }, { on := 6, ground := Ground.textOnly Departure.lateStores }, { on := 7, ground := Ground.textOnly Departure.lateStores }, { on := 8, ground := Ground.textOnly Departure.lateStoresUnsure }, { on := 9, ground := Ground.textOnly Departure.lateStores }, { on := 10, ground := Ground.textOnly Departure.lateStores }, { on := 11, ground := Ground.textOnly Departure.lateStores }], guard := none }) (by kernel_rfl) rfl (fun K' hK => ?_)
  go_simp
  obtain ⟨y3, hy3⟩ : ∃ q, q = ((y0.setCell ⟨w.heap.size + 1 + 1, 0, none⟩ (.int .i64 k0.kind)).setCell ⟨w.heap.size + 1 + 1, 1, none⟩ (.int .i64 k0.num)).setCell ⟨w.heap.size + 1 + 1, 2, none⟩ (.slice a0 k0.cnt c0) := ⟨_, rfl⟩
  rw [← hy3]
  have hB3 : Below (w.heap.size + 1 + 1) u y3 := by rw [hy3]; exact below_tri hB0 (Nat.le_refl _) _ _ _
  have hA3 : Tri y3 (w.heap.size + 1 + 1) (.int .i64 k0.kind) (.int .i64 k0.num) (.slice a0 k0.cnt c0) := by rw [hy3]; exact tri_set hx3 _ _ _
  have hZ3 : Tri y3 (w.heap.size + 1 + 1 + 1) (.int .i64 0) (.int .i64 0) (.slice none 0 0) := by rw [hy3]; exact (blk_tri (by omega) _ _ _).trans hx4
  refine hK.out _ _ (fun _ => HS.out _ hB3) (fun _ => ?_)
  clear hK K' hy3 hx3 hx4 hB0 d0 d1 d2 g0 g1 g2 hl3
  (try simp only [Act.put, List.setIfInBounds_toArray, List.set_cons_zero, List.set_cons_succ])
  obtain ⟨⟨d0, d1, d2⟩, g0, g1, g2⟩ := tri_cells hZ3
  have hl3 := hZ3.lt
  refine G_step (i := 13) (o := { dst := none, op := Op.store 24 (Operand.tmp 4) (Operand.tmp 23), type := 0, pos := _, after := #[{ on := 11, ground := Ground.data }, { on := 12, ground := Ground.chain }, { on := 0, ground := Ground.phase }, { on := 1, ground := Ground.phase }, { on := 2, ground := Ground.phase }, { on := 3, ground := Ground.phase }, { on := 4, ground := Ground.phase }, { on := 5, ground := Ground.phase }, { on := 6, ground := Ground.phase }, { on := 7, ground := Ground.phase }, { on := 8, ground := Ground.phase }, { on := 9, ground := Ground.phase }, { on := 10, ground := Ground.phase }, { on := 11, ground := Ground.phase }, { on := 12, ground := Ground.phase }], guard := none }) (by kernel_rfl) rfl (fun K' hK => ?_)
  go_simp
  obtain ⟨y4, hy4⟩ : ∃ q, q = ((y3.setCell ⟨w.heap.size + 1 + 1 + 1, 0, none⟩ (.int .i64 k0.kind)).setCell ⟨w.heap.size + 1 + 1 + 1, 1, none⟩ (.int .i64 k0.num)).setCell ⟨w.heap.size + 1 + 1 + 1, 2, none⟩ (.slice a0 k0.cnt c0) := ⟨_, rfl⟩
  rw [← hy4]
  have hB4 : Below (w.heap.size + 1 + 1) u y4 := by rw [hy4]; exact below_tri hB3 (by omega) _ _ _
  have hZ4 : Tri y4 (w.heap.size + 1 + 1 + 1) (.int .i64 k0.kind) (.int .i64 k0.num) (.slice a0 k0.cnt c0) := by rw [hy4]; exact tri_set hZ3 _ _ _
  have hA4 : Tri y4 (w.heap.size + 1 + 1) (.int .i64 k0.kind) (.int .i64 k0.num) (.slice a0 k0.cnt c0) := by rw [hy4]; exact (blk_tri (by omega) _ _ _).trans hA3
  refine hK.out _ _ (fun _ => HS.out _ hB4) (fun _ => ?_)
  clear hK K' hy4 hA3 hZ3 hB3 d0 d1 d2 g0 g1 g2 hl3
  (try simp only [Act.put, List.setIfInBounds_toArray, List.set_cons_zero, List.set_cons_succ])
  refine G_done (by kernel_rfl) ?_ _
  have HY : Hid (Below w.heap.size w y4 ∧ Tri y4 w.heap.size (.int .i64 f.kind) (.int .i64 f.num) (.slice (some ⟨b, o, none⟩) 1 cap) ∧ Tri y4 (w.heap.size + 1) (.int .i64 0) (.int .i64 0) (.slice none 0 0) ∧ Tri y4 (w.heap.size + 1 + 1) (.int .i64 k0.kind) (.int .i64 k0.num) (.slice a0 k0.cnt c0) ∧ Tri y4 (w.heap.size + 1 + 1 + 1) (.int .i64 k0.kind) (.int .i64 k0.num) (.slice a0 k0.cnt c0)) := ⟨HX.out.2.1.trans (hB4.mono (by omega)), HX.out.2.2.1.belowB hB4 (by omega), HX.out.2.2.2.1.belowB hB4 (by omega), hA4, hZ4⟩
  clear hB4 hA4 hZ4 HS HU
  have L1 := hid (leaf_g 1 0 y4)
  go_wp2_with fail
  refine L1.out.mono ?_
  rintro e w5 ⟨rfl, hb5⟩
  have L2 := hid (leaf_g 2 0 w5)
  have HB5 : Hid (Below y4.heap.size y4 w5) := hb5
  clear hb5 L1
  go_wp2_with fail
  refine L2.out.mono ?_
  rintro e w6 ⟨rfl, hb6⟩
  have hb56 := HB5.out.trans (hb6.mono HB5.out.size)
  obtain ⟨wd, hwd⟩ : ∃ y, y = (w6.alloc (.cells #[.int .i64 1, .int .i64 0, .slice none 0 0] 24)).alloc (.cells #[.int .i64 2, .int .i64 0, .slice none 0 0] 24) := ⟨_, rfl⟩
  have HSR : Hid (Sr w f k0 k0 (some ⟨b, o, none⟩) a0 a0 cap c0 c0 wd w6.heap.size) := by
    refine sr_made (HY.out.1.trans (hb56.mono HY.out.1.size)) ?_ (HY.out.2.2.1.below hb56) (HY.out.2.2.2.1.below hb56) (HY.out.2.2.2.2.below hb56) wd hwd
    rw [HCC.out]
    exact HY.out.2.1.below hb56
  have HWD := hid hwd
  have HW6 : Hid (Tri w6 (w.heap.size + 1) (.int .i64 0) (.int .i64 0) (.slice none 0 0) ∧ Below w.heap.size w w6) := ⟨HY.out.2.2.1.below hb56, HY.out.1.trans (hb56.mono HY.out.1.size)⟩
  clear hwd hb6 hb56 HB5 L2 HY
  obtain ⟨⟨f0, f1, f2⟩, -⟩ := tri_cells HSR.out.bx
  obtain ⟨⟨r0, r1, r2⟩, z0, z1, z2⟩ := tri_cells HSR.out.rs
  obtain ⟨⟨v0, v1, v2⟩, -⟩ := tri_cells HSR.out.ka
  obtain ⟨⟨s0, s1, s2⟩, -⟩ := tri_cells HSR.out.kb
  obtain ⟨⟨yy0, yy1, yy2⟩, -⟩ := tri_cells HSR.out.ys
  obtain ⟨⟨nn0, nn1, nn2⟩, -⟩ := tri_cells HSR.out.ns
  have hltr := HSR.out.rs.lt
  have hx5 := HSR.out.lt
  rw [HCC.out] at f2
  rw [HWD.out] at f0 f1 f2 r0 r1 r2 z0 z1 z2 v0 v1 v2 s0 s1 s2 yy0 yy1 yy2 nn0 nn1 nn2 hltr
  have hE := HE.out
  have C := hid (fixed44 k0.kind k0.num a0 k0.cnt c0 wd)
  by_cases q1 : fxd k0.kind = true
  · rw [if_pos (Or.inl q1)] at hE
    have HEq := hid hE
    rw [q1] at C
    clear q1 HE hE H7
    go_wp2_with fail
    rw [← HWD.out]
    refine C.out.mono ?_
    rintro e w8 ⟨rfl, hb8⟩
    clear f0 f1 f2 r0 r1 r2 z0 z1 z2 v0 v1 v2 s0 s1 s2 yy0 yy1 yy2 nn0 nn1 nn2 hltr
    have HS8 := hid (HSR.out.below hb8)
    have hcf := HCC.out
    obtain ⟨⟨f0, f1, f2⟩, -⟩ := tri_cells HS8.out.bx
    obtain ⟨⟨r0, r1, r2⟩, z0, z1, z2⟩ := tri_cells HS8.out.rs
    obtain ⟨⟨v0, v1, v2⟩, -⟩ := tri_cells HS8.out.ka
    obtain ⟨⟨s0, s1, s2⟩, -⟩ := tri_cells HS8.out.kb
    have hltr := HS8.out.rs.lt
    rw [hcf] at f2
    clear hb8 hcf
    clear C
    go_wp2
    (try simp only [Exit.inBlock, Exit.then])
    refine bodyPost_ret (results_cell_row rfl _ _ (w.heap.size + 1) 24 #[.int .i64 k0.kind, .int .i64 k0.num, .slice a0 k0.cnt c0] (0, 0) _ rfl (tri_set HS8.out.rs _ _ _) Tryd.underlying24 rfl (by kernel_rfl)) rfl ?_
    rw [HEq.out]
    have hbf := below_tri (x := w.heap.size + 1) HS8.out.bel (by omega) (.int .i64 k0.kind) (.int .i64 k0.num) (.slice a0 k0.cnt c0)
    exact ⟨a0, c0, rfl, HK0.out.1.below hbf, hbf⟩
  have q1' : fxd k0.kind = false := by simpa using q1
  rw [q1'] at C
  by_cases q2 : k0.kind = f.kind
  · rw [if_pos (Or.inr ⟨q2, H7.out⟩)] at hE
    have HEq := hid hE
    have b2 : (k0.kind == f.kind) = true := beq_iff_eq.2 q2
    clear q1 q1' q2 HE hE H7
    go_wp2_with fail
    rw [← HWD.out]
    refine C.out.mono ?_
    rintro e w8 ⟨rfl, hb8⟩
    clear f0 f1 f2 r0 r1 r2 z0 z1 z2 v0 v1 v2 s0 s1 s2 yy0 yy1 yy2 nn0 nn1 nn2 hltr
    have HS8 := hid (HSR.out.below hb8)
    have hcf := HCC.out
    obtain ⟨⟨f0, f1, f2⟩, -⟩ := tri_cells HS8.out.bx
    obtain ⟨⟨r0, r1, r2⟩, z0, z1, z2⟩ := tri_cells HS8.out.rs
    obtain ⟨⟨v0, v1, v2⟩, -⟩ := tri_cells HS8.out.ka
    obtain ⟨⟨s0, s1, s2⟩, -⟩ := tri_cells HS8.out.kb
    have hltr := HS8.out.rs.lt
    rw [hcf] at f2
    clear hb8 hcf
    clear C
    go_wp2
    (try simp only [Exit.inBlock, Exit.then])
    refine bodyPost_ret (results_cell_row rfl _ _ (w.heap.size + 1) 24 #[.int .i64 k0.kind, .int .i64 k0.num, .slice a0 k0.cnt c0] (0, 0) _ rfl (tri_set HS8.out.rs _ _ _) Tryd.underlying24 rfl (by kernel_rfl)) rfl ?_
    rw [HEq.out]
    have hbf := below_tri (x := w.heap.size + 1) HS8.out.bel (by omega) (.int .i64 k0.kind) (.int .i64 k0.num) (.slice a0 k0.cnt c0)
    exact ⟨a0, c0, rfl, HK0.out.1.below hbf, hbf⟩
  · rw [if_neg (by rintro (h1 | h1); exact q1 h1; exact q2 h1.1)] at hE
    have HEq := hid hE
    have b2 : (k0.kind == f.kind) = false := beq_eq_false_iff_ne.2 q2
    clear q1 q1' q2 HE hE H7
    go_wp2_with fail
    rw [← HWD.out]
    refine C.out.mono ?_
    rintro e w8 ⟨rfl, hb8⟩
    clear f0 f1 f2 r0 r1 r2 z0 z1 z2 v0 v1 v2 s0 s1 s2 yy0 yy1 yy2 nn0 nn1 nn2 hltr
    have HS8 := hid (HSR.out.below hb8)
    have hcf := HCC.out
    obtain ⟨⟨f0, f1, f2⟩, -⟩ := tri_cells HS8.out.bx
    obtain ⟨⟨r0, r1, r2⟩, z0, z1, z2⟩ := tri_cells HS8.out.rs
    obtain ⟨⟨v0, v1, v2⟩, -⟩ := tri_cells HS8.out.ka
    obtain ⟨⟨s0, s1, s2⟩, -⟩ := tri_cells HS8.out.kb
    have hltr := HS8.out.rs.lt
    rw [hcf] at f2
    clear hb8 hcf
    clear C
    go_wp2
    (try simp only [Exit.inBlock, Exit.then])
    refine bodyPost_ret (results_cell_row rfl _ _ (w.heap.size + 1) 24 #[.int .i64 f.kind, .int .i64 f.num, .slice (some ⟨b, o, none⟩) 1 cap] (0, 0) _ rfl (tri_set HS8.out.rs _ _ _) Tryd.underlying24 rfl (by kernel_rfl)) rfl ?_
    rw [HEq.out]
    have hbf := below_tri (x := w.heap.size + 1) HS8.out.bel (by omega) (.int .i64 f.kind) (.int .i64 f.num) (.slice (some ⟨b, o, none⟩) 1 cap)
    rw [← HCC.out] at hbf ⊢
    exact ⟨(some ⟨b, o, none⟩), cap, rfl, HKF.out.below hbf, hbf⟩

set_option maxHeartbeats 8000000 in
set_option maxRecDepth 20000 in
theorem sro {f : Fml} (p : Nat → Bool) (hk : f.kind = 1 ∨ f.kind = 2 ∨ f.kind = 3) (hcc : f.cnt = 0) (a : Option Addr) (cap : Nat) (w : World) (h : Kq p w f a) :
    Calls Tryd.prog 34 #[.agg #[.int .i64 f.kind, .int .i64 f.num, .slice a f.cnt cap]] w fun e w' => Nq p w (slm f) e w' := by
  have t4 : (f.kind == 4) = false := beq_eq_false_iff_ne.2 (by omega)
  have t5 : (f.kind == 5) = false := beq_eq_false_iff_ne.2 (by omega)
  have t6 : (f.kind == 6) = false := beq_eq_false_iff_ne.2 (by omega)
  have t7 : (f.kind == 7) = false := beq_eq_false_iff_ne.2 (by omega)
  have t10 : (f.kind == 10) = false := beq_eq_false_iff_ne.2 (by omega)
  have t11 : (f.kind == 11) = false := beq_eq_false_iff_ne.2 (by omega)
  have t8 : (f.kind == 8) = false := beq_eq_false_iff_ne.2 (by omega)
  have t9 : (f.kind == 9) = false := beq_eq_false_iff_ne.2 (by omega)
  have HKF := hid h
  obtain ⟨u, hu⟩ : ∃ y, y = (((w.alloc (.cells #[.int .i64 f.kind, .int .i64 f.num, .slice a f.cnt cap] 24)).alloc (.cells #[.int .i64 0, .int .i64 0, .slice none 0 0] 24)).alloc (.cells #[.int .i64 0, .int .i64 0, .slice none 0 0] 24)).alloc (.cells #[.int .i64 0, .int .i64 0, .slice none 0 0] 24) := ⟨_, rfl⟩
  obtain ⟨hs, hBu, hT1, hT2, hT3, hT4⟩ := four_new w _ u hu
  have HX : Hid (u.heap.size = w.heap.size + 1 + 1 + 1 + 1 ∧ Below w.heap.size w u ∧ Tri u w.heap.size (.int .i64 f.kind) (.int .i64 f.num) (.slice a 0 cap) ∧ Tri u (w.heap.size + 1) (.int .i64 0) (.int .i64 0) (.slice none 0 0) ∧ Tri u (w.heap.size + 1 + 1) (.int .i64 0) (.int .i64 0) (.slice none 0 0) ∧ Tri u (w.heap.size + 1 + 1 + 1) (.int .i64 0) (.int .i64 0) (.slice none 0 0)) := ⟨hs, hBu, by rw [hcc] at hT1; exact hT1, hT2, hT3, hT4⟩
  have HCC := hid hcc
  rw [hcc] at hu ⊢
  have HU := hid hu
  have hE : slm f = f := by
    unfold slm
    rw [if_neg (by omega), if_neg (by omega), if_neg (by omega), if_neg (by omega), if_neg (by omega), if_neg (by omega), if_neg (by omega), if_neg (by omega)]
  have HEq := hid hE
  clear hE
  clear hu hs hBu hT1 hT2 hT3 hT4 h hcc hk
  generalize slm f = g at *
  go_enter Tryd.func34, Tryd.ntmps34
  have HY : Hid (Below w.heap.size w u ∧ Tri u w.heap.size (.int .i64 f.kind) (.int .i64 f.num) (.slice a 0 cap) ∧ Tri u (w.heap.size + 1) (.int .i64 0) (.int .i64 0) (.slice none 0 0) ∧ Tri u (w.heap.size + 1 + 1) (.int .i64 0) (.int .i64 0) (.slice none 0 0) ∧ Tri u (w.heap.size + 1 + 1 + 1) (.int .i64 0) (.int .i64 0) (.slice none 0 0)) := ⟨HX.out.2.1, HX.out.2.2.1, HX.out.2.2.2.1, HX.out.2.2.2.2.1, HX.out.2.2.2.2.2⟩
  have L1 := hid (leaf_g 1 0 u)
  go_wp2_with fail
  rw [← HU.out]
  refine L1.out.mono ?_
  rintro e w5 ⟨rfl, hb5⟩
  have L2 := hid (leaf_g 2 0 w5)
  have HB5 : Hid (Below u.heap.size u w5) := hb5
  clear hb5 L1
  go_wp2_with fail
  refine L2.out.mono ?_
  rintro e w6 ⟨rfl, hb6⟩
  have hb56 := HB5.out.trans (hb6.mono HB5.out.size)
  obtain ⟨wd, hwd⟩ : ∃ y, y = (w6.alloc (.cells #[.int .i64 1, .int .i64 0, .slice none 0 0] 24)).alloc (.cells #[.int .i64 2, .int .i64 0, .slice none 0 0] 24) := ⟨_, rfl⟩
  have HSR : Hid (Sr w f (nd 0 0) (nd 0 0) a none none cap 0 0 wd w6.heap.size) := by
    refine sr_made (HY.out.1.trans (hb56.mono HY.out.1.size)) ?_ (HY.out.2.2.1.below hb56) (HY.out.2.2.2.1.below hb56) (HY.out.2.2.2.2.below hb56) wd hwd
    rw [HCC.out]
    exact HY.out.2.1.below hb56
  have HWD := hid hwd
  have HW6 : Hid (Tri w6 (w.heap.size + 1) (.int .i64 0) (.int .i64 0) (.slice none 0 0) ∧ Below w.heap.size w w6) := ⟨HY.out.2.2.1.below hb56, HY.out.1.trans (hb56.mono HY.out.1.size)⟩
  clear hwd hb6 hb56 HB5 L2 HY
  obtain ⟨⟨f0, f1, f2⟩, -⟩ := tri_cells HSR.out.bx
  obtain ⟨⟨r0, r1, r2⟩, z0, z1, z2⟩ := tri_cells HSR.out.rs
  obtain ⟨⟨v0, v1, v2⟩, -⟩ := tri_cells HSR.out.ka
  obtain ⟨⟨s0, s1, s2⟩, -⟩ := tri_cells HSR.out.kb
  obtain ⟨⟨yy0, yy1, yy2⟩, -⟩ := tri_cells HSR.out.ys
  obtain ⟨⟨nn0, nn1, nn2⟩, -⟩ := tri_cells HSR.out.ns
  have hltr := HSR.out.rs.lt
  have hx5 := HSR.out.lt
  rw [HCC.out] at f2
  rw [HWD.out] at f0 f1 f2 r0 r1 r2 z0 z1 z2 v0 v1 v2 s0 s1 s2 yy0 yy1 yy2 nn0 nn1 nn2 hltr
  go_wp2
  rw [← HWD.out]
  (try simp only [Exit.inBlock, Exit.then])
  refine bodyPost_ret (results_cell_row rfl _ _ (w.heap.size + 1) 24 #[.int .i64 f.kind, .int .i64 f.num, .slice a 0 cap] (0, 0) _ rfl (tri_set HSR.out.rs _ _ _) Tryd.underlying24 rfl (by kernel_rfl)) rfl ?_
  rw [HEq.out]
  have hbf := below_tri (x := w.heap.size + 1) HSR.out.bel (by omega) (.int .i64 f.kind) (.int .i64 f.num) (.slice a 0 cap)
  rw [← HCC.out] at hbf ⊢
  exact ⟨a, cap, rfl, HKF.out.below hbf, hbf⟩

end Go.Proofs.YtinacgkiigbmjaaDoor
