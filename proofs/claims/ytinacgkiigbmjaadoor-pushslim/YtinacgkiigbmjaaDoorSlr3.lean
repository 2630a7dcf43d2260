/- The document's slimmer: an LUntil, an LRelease; all. -/
import Derived.Test.YtinacgkiigbmjaaDoorSlr1
import Derived.Test.YtinacgkiigbmjaaDoorSlr2
namespace Go.Proofs.YtinacgkiigbmjaaDoor
open Go.RowKit

set_option maxHeartbeats 8000000 in
set_option maxRecDepth 20000 in
theorem sr8 {f : Fml} (p : Nat → Bool) (hw : Wf f) (hS : ∀ (f : Fml) (p : Nat → Bool), f.kind = 10 → Wf f → ∀ (a : Option Addr) (cap : Nat) (w : World), Kq p w f a → Calls Tryd.prog 34 #[.agg #[.int .i64 f.kind, .int .i64 f.num, .slice a f.cnt cap]] w fun e w' => Nq p w (slm f) e w') (hk : f.kind = 8) (hcc : f.cnt = 2) (a : Option Addr) (cap : Nat) (w : World) (h : Kq p w f a) :
    Calls Tryd.prog 34 #[.agg #[.int .i64 f.kind, .int .i64 f.num, .slice a f.cnt cap]] w fun e w' => Nq p w (slm f) e w' := by
  have t4 : (f.kind == 4) = false := by rw [hk]; rfl
  have t5 : (f.kind == 5) = false := by rw [hk]; rfl
  have t6 : (f.kind == 6) = false := by rw [hk]; rfl
  have t7 : (f.kind == 7) = false := by rw [hk]; rfl
  have t10 : (f.kind == 10) = false := by rw [hk]; rfl
  have t11 : (f.kind == 11) = false := by rw [hk]; rfl
  have t8 : (f.kind == 8) = true := by rw [hk]; rfl
  have t9 : (f.kind == 9) = false := by rw [hk]; rfl
  obtain ⟨b, o, a0, c0, rfl, e1, e2, e3, e4, e5⟩ := kid_cells h (i := 0) (by omega)
  obtain ⟨b', o', a1, c1, hab, g1, g2, g3, g4, g5⟩ := kid_cells h (i := 1) (by omega)
  simp only [Option.some.injEq, Addr.mk.injEq, and_true] at hab
  obtain ⟨rfl, rfl⟩ := hab
  simp only [Nat.zero_mul, Nat.add_zero, Nat.one_mul] at e1 e2 e3 g1 g2 g3
  obtain ⟨k0, hk0⟩ : ∃ y, y = f.kid 0 := ⟨_, rfl⟩
  obtain ⟨k1, hk1⟩ : ∃ y, y = f.kid 1 := ⟨_, rfl⟩
  rw [← hk0] at e1 e2 e3 e4 e5
  rw [← hk1] at g1 g2 g3 g4 g5
  have HK1 := hid (And.intro g5 g4)
  have HK0 := hid (And.intro e5 e4)
  have HKF := hid h
  obtain ⟨u, hu⟩ : ∃ y, y = (((w.alloc (.cells #[.int .i64 f.kind, .int .i64 f.num, .slice (some ⟨b, o, none⟩) f.cnt cap] 24)).alloc (.cells #[.int .i64 0, .int .i64 0, .slice none 0 0] 24)).alloc (.cells #[.int .i64 0, .int .i64 0, .slice none 0 0] 24)).alloc (.cells #[.int .i64 0, .int .i64 0, .slice none 0 0] 24) := ⟨_, rfl⟩
  obtain ⟨hs, hBu, hT1, hT2, hT3, hT4⟩ := four_new w _ u hu
  rw [hcc] at hT1
  have HS : Hid (∀ y, Below (w.heap.size + 1 + 1) u y → y.cell? ⟨w.heap.size, 2, none⟩ = some (.slice (some ⟨b, o, none⟩) 2 cap) ∧ y.cell? ⟨b, o, none⟩ = some (.int .i64 k0.kind) ∧ y.cell? ⟨b, o + 1, none⟩ = some (.int .i64 k0.num) ∧ y.cell? ⟨b, o + 2, none⟩ = some (.slice a0 k0.cnt c0) ∧ y.cell? ⟨b, o + 3, none⟩ = some (.int .i64 k1.kind) ∧ y.cell? ⟨b, o + 3 + 1, none⟩ = some (.int .i64 k1.num) ∧ y.cell? ⟨b, o + 3 + 2, none⟩ = some (.slice a1 k1.cnt c1)) := fun y hy => by
    have hb0 : b < w.heap.size := World.block_lt_of_cell? _ _ e1
    exact ⟨(tri_cells (Tri.belowB (show Tri u w.heap.size (.int .i64 f.kind) (.int .i64 f.num) (.slice (some ⟨b, o, none⟩) 2 cap) from hT1) hy (by omega))).1.2.2, below_cell' hy (by show b < w.heap.size + 1 + 1; omega) (below_cell hBu (Nat.le_refl _) e1), below_cell' hy (by show b < w.heap.size + 1 + 1; omega) (below_cell hBu (Nat.le_refl _) e2), below_cell' hy (by show b < w.heap.size + 1 + 1; omega) (below_cell hBu (Nat.le_refl _) e3), below_cell' hy (by show b < w.heap.size + 1 + 1; omega) (below_cell hBu (Nat.le_refl _) g1), below_cell' hy (by show b < w.heap.size + 1 + 1; omega) (below_cell hBu (Nat.le_refl _) g2), below_cell' hy (by show b < w.heap.size + 1 + 1; omega) (below_cell hBu (Nat.le_refl _) g3)⟩
  have HX : Hid (u.heap.size = w.heap.size + 1 + 1 + 1 + 1 ∧ Below w.heap.size w u ∧ Tri u w.heap.size (.int .i64 f.kind) (.int .i64 f.num) (.slice (some ⟨b, o, none⟩) 2 cap) ∧ Tri u (w.heap.size + 1) (.int .i64 0) (.int .i64 0) (.slice none 0 0) ∧ Tri u (w.heap.size + 1 + 1) (.int .i64 0) (.int .i64 0) (.slice none 0 0) ∧ Tri u (w.heap.size + 1 + 1 + 1) (.int .i64 0) (.int .i64 0) (.slice none 0 0)) := ⟨hs, hBu, hT1, hT2, hT3, hT4⟩
  have HCC := hid hcc
  rw [hcc] at hu ⊢
  have HU := hid hu
  have hE : slm f = if (k1.kind = 1 ∨ k1.kind = 2) ∨ k0.kind = 2 then k1 else if k0.kind = 1 then (if k1.kind = 10 then k1 else on 10 k1) else if same k0 k1 = true then k1 else f := by rw [slm_until hk, hk0, hk1]; rfl
  have HE := hid hE
  have HW1 : Hid (Wf k1) := by
    have := hw.out.2 1 (by omega)
    rw [← hk1] at this
    exact hid this
  clear hE
  clear hu hs hBu hT1 hT2 hT3 hT4 h hcc e1 e2 e3 e4 e5 g1 g2 g3 g4 g5 hk hk0 hk1 hw
  generalize slm f = g at *
  go_enter Tryd.func34, Tryd.ntmps34
  go_wp2
  rw [← HU.out]
  have hB0 : Below (w.heap.size + 1 + 1) u u.drew := below_drewN (Below.refl _ _) 1
  refine G_region (fun y => y.cell? ⟨w.heap.size, 2, none⟩ = some (.slice (some ⟨b, o, none⟩) 2 cap) ∧ y.cell? ⟨b, o, none⟩ = some (.int .i64 k0.kind) ∧ y.cell? ⟨b, o + 1, none⟩ = some (.int .i64 k0.num) ∧ y.cell? ⟨b, o + 2, none⟩ = some (.slice a0 k0.cnt c0) ∧ y.cell? ⟨b, o + 3, none⟩ = some (.int .i64 k1.kind) ∧ y.cell? ⟨b, o + 3 + 1, none⟩ = some (.int .i64 k1.num) ∧ y.cell? ⟨b, o + 3 + 2, none⟩ = some (.slice a1 k1.cnt c1)) (fun _ => false) (by kernel_rfl) (HS.out _ hB0) (fun _ => ?_)
  refine G_take (i := 0) (oi := { dst := some 12, op := Op.fieldAddr 24 (Operand.tmp 1) 2, type := 0, pos := _, after := #[], guard := none }) (v := .pointer (some ⟨w.heap.size, 2, none⟩)) rfl (by kernel_rfl) (by kernel_rfl) (by kernel_rfl) (by kernel_rfl) (fun _ _ _ h => h) (by rfl) (fun u hu => ?_) (HS.out _ hB0) ?_
  · (try dsimp only at hu); go_simp
  (try simp only [Act.put, List.setIfInBounds_toArray, List.set_cons_zero, List.set_cons_succ])
  refine G_take (i := 1) (oi := { dst := some 13, op := Op.load 22 (Operand.tmp 12), type := 22, pos := _, after := #[{ on := 0, ground := Ground.data }], guard := none }) (v := .slice (some ⟨b, o, none⟩) 2 cap) rfl (by kernel_rfl) (by kernel_rfl) (by kernel_rfl) (by kernel_rfl) (fun _ _ _ h => h) (by rfl) (fun u hu => ?_) (HS.out _ hB0) ?_
  · (try dsimp only at hu); go_simp
  (try simp only [Act.put, List.setIfInBounds_toArray, List.set_cons_zero, List.set_cons_succ])
  refine G_take (i := 2) (oi := { dst := some 14, op := Op.indexAddr 22 (Operand.tmp 13) (Operand.const (Value.int IntKind.i64 0)), type := 0, pos := _, after := #[{ on := 1, ground := Ground.data }], guard := none }) (v := .pointer (some ⟨b, o, none⟩)) rfl (by kernel_rfl) (by kernel_rfl) (by kernel_rfl) (by kernel_rfl) (fun _ _ _ h => h) (by rfl) (fun u hu => ?_) (HS.out _ hB0) ?_
  · (try dsimp only at hu); go_simp
  (try simp only [Act.put, List.setIfInBounds_toArray, List.set_cons_zero, List.set_cons_succ])
  refine G_take (i := 3) (oi := { dst := some 15, op := Op.load 24 (Operand.tmp 14), type := 24, pos := _, after := #[{ on := 2, ground := Ground.data }], guard := none }) (v := .agg #[.int .i64 k0.kind, .int .i64 k0.num, .slice a0 k0.cnt c0]) rfl (by kernel_rfl) (by kernel_rfl) (by kernel_rfl) (by kernel_rfl) (fun _ _ _ h => h) (by rfl) (fun u hu => ?_) (HS.out _ hB0) ?_
  · (try dsimp only at hu); go_simp
  (try simp only [Act.put, List.setIfInBounds_toArray, List.set_cons_zero, List.set_cons_succ])
  refine G_take (i := 4) (oi := { dst := some 16, op := Op.fieldAddr 24 (Operand.tmp 1) 2, type := 0, pos := _, after := #[{ on := 12, ground := Ground.gcOnly Departure.lateStores }], guard := none }) (v := .pointer (some ⟨w.heap.size, 2, none⟩)) rfl (by kernel_rfl) (by kernel_rfl) (by kernel_rfl) (by kernel_rfl) (fun _ _ _ h => h) (by rfl) (fun u hu => ?_) (HS.out _ hB0) ?_
  · (try dsimp only at hu); go_simp
  (try simp only [Act.put, List.setIfInBounds_toArray, List.set_cons_zero, List.set_cons_succ])
  refine G_take (i := 5) (oi := { dst := some 17, op := Op.load 22 (Operand.tmp 16), type := 22, pos := _, after := #[{ on := 4, ground := Ground.data }, { on := 12, ground := Ground.gcOnly Departure.lateStores }], guard := none }) (v := .slice (some ⟨b, o, none⟩) 2 cap) rfl (by kernel_rfl) (by kernel_rfl) (by kernel_rfl) (by kernel_rfl) (fun _ _ _ h => h) (by rfl) (fun u hu => ?_) (HS.out _ hB0) ?_
  · (try dsimp only at hu); go_simp
  (try simp only [Act.put, List.setIfInBounds_toArray, List.set_cons_zero, List.set_cons_succ])
  refine G_take (i := 6) (oi := { dst := some 18, op := Op.fieldAddr 24 (Operand.tmp 1) 2, type := 0, pos := _, after := #[], guard := none }) (v := .pointer (some ⟨w.heap.size, 2, none⟩)) rfl (by kernel_rfl) (by kernel_rfl) (by kernel_rfl) (by kernel_rfl) (fun _ _ _ h => h) (by rfl) (fun u hu => ?_) (HS.out _ hB0) ?_
  · (try dsimp only at hu); go_simp
  (try simp only [Act.put, List.setIfInBounds_toArray, List.set_cons_zero, List.set_cons_succ])
  refine G_take (i := 7) (oi := { dst := some 19, op := Op.load 22 (Operand.tmp 18), type := 22, pos := _, after := #[{ on := 6, ground := Ground.data }], guard := none }) (v := .slice (some ⟨b, o, none⟩) 2 cap) rfl (by kernel_rfl) (by kernel_rfl) (by kernel_rfl) (by kernel_rfl) (fun _ _ _ h => h) (by rfl) (fun u hu => ?_) (HS.out _ hB0) ?_
  · (try dsimp only at hu); go_simp
  (try simp only [Act.put, List.setIfInBounds_toArray, List.set_cons_zero, List.set_cons_succ])
  refine G_take (i := 8) (oi := { dst := some 20, op := Op.call { callee := Callee.builtin Builtin.len, args := #[Operand.tmp 19], argTypes := #[22] }, type := 3, pos := _, after := #[{ on := 7, ground := Ground.data }], guard := none }) (v := .int .i64 2) rfl (by kernel_rfl) (by kernel_rfl) (by kernel_rfl) (by kernel_rfl) (fun _ _ _ h => h) (by rfl) (fun u hu => ?_) (HS.out _ hB0) ?_
  · (try dsimp only at hu); go_simp
  (try simp only [Act.put, List.setIfInBounds_toArray, List.set_cons_zero, List.set_cons_succ])
  refine G_take (i := 9) (oi := { dst := some 21, op := Op.binOp BinOp.sub 3 (Operand.tmp 20) (Operand.const (Value.int IntKind.i64 1)) 3, type := 3, pos := _, after := #[{ on := 8, ground := Ground.data }, { on := 12, ground := Ground.gcOnly Departure.lateStores }], guard := none }) (v := .int .i64 1) rfl (by kernel_rfl) (by kernel_rfl) (by kernel_rfl) (by kernel_rfl) (fun _ _ _ h => h) (by rfl) (fun u hu => ?_) (HS.out _ hB0) ?_
  · (try dsimp only at hu); go_simp; (try rfl)
  (try simp only [Act.put, List.setIfInBounds_toArray, List.set_cons_zero, List.set_cons_succ])
  refine G_take (i := 10) (oi := { dst := some 22, op := Op.indexAddr 22 (Operand.tmp 17) (Operand.tmp 21), type := 0, pos := _, after := #[{ on := 5, ground := Ground.data }, { on := 9, ground := Ground.data }, { on := 12, ground := Ground.gcOnly Departure.lateStores }], guard := none }) (v := .pointer (some ⟨b, o + 3, none⟩)) rfl (by kernel_rfl) (by kernel_rfl) (by kernel_rfl) (by kernel_rfl) (fun _ _ _ h => h) (by rfl) (fun u hu => ?_) (HS.out _ hB0) ?_
  · (try dsimp only at hu); go_simp
  (try simp only [Act.put, List.setIfInBounds_toArray, List.set_cons_zero, List.set_cons_succ])
  refine G_take (i := 11) (oi := { dst := some 23, op := Op.load 24 (Operand.tmp 22), type := 24, pos := _, after := #[{ on := 10, ground := Ground.data }, { on := 12, ground := Ground.gcOnly Departure.lateStores }], guard := none }) (v := .agg #[.int .i64 k1.kind, .int .i64 k1.num, .slice a1 k1.cnt c1]) rfl (by kernel_rfl) (by kernel_rfl) (by kernel_rfl) (by kernel_rfl) (fun _ _ _ h => h) (by rfl) (fun u hu => ?_) (HS.out _ hB0) ?_
  · (try dsimp only at hu); go_simp
  (try simp only [Act.put, List.setIfInBounds_toArray, List.set_cons_zero, List.set_cons_succ])
  obtain ⟨y0, hy0⟩ : ∃ q, q = u.drew := ⟨_, rfl⟩
  have hx3 : Tri y0 (w.heap.size + 1 + 1) (.int .i64 0) (.int .i64 0) (.slice none 0 0) := by rw [hy0]; exact HX.out.2.2.2.2.1
  have hx4 : Tri y0 (w.heap.size + 1 + 1 + 1) (.int .i64 0) (.int .i64 0) (.slice none 0 0) := by rw [hy0]; exact HX.out.2.2.2.2.2
  rw [← hy0] at hB0 ⊢
  clear hy0
  obtain ⟨⟨d0, d1, d2⟩, g0, g1, g2⟩ := tri_cells hx3
  have hl3 := hx3.lt
  refine G_step (i := 12) (o := { dst := none, op := Op.store 24 (Operand.tmp 3) (Operand.tmp 15), type := 0, pos := _, after := #[{ on := 3, ground := Ground.data }, { on := 0, ground := Ground.phase }, { on := 1, ground := Ground.phase }, { on := 2, ground := Ground.phase }, { on := 3, ground := Ground.phase }, { on := 4, ground := Ground.textOnly Departure.lateStores }, { on := 5, ground := Ground.textOnly Departure.lateStores }, { on := 6, ground := Ground.textOnly Departure.lateStores }, { on := 7, ground := Ground.textOnly Departure.lateStores }, { on := 8, ground := Ground.textOnly Departure.lateStoresUnsure }, { on := 9, ground := Ground.textOnly Departure.lateStores }, { on := 10, ground := Ground.textOnly Departure.lateStores }, { on := 11, ground := Ground.textOnly Departure.lateStores }], guard := none }) (by kernel_rfl) rfl (fun K' hK => ?_)
  go_simp
  obtain ⟨y3, hy3⟩ : ∃ q, q = ((y0.setCell ⟨w.heap.size + 1 + 1, 0, none⟩ (.int .i64 k0.kind)).setCell ⟨w.heap.size + 1 + 1, 1, none⟩ (.int .i64 k0.num)).setCell ⟨w.heap.size + 1 + 1, 2, none⟩ (.slice a0 k0.cnt c0) := ⟨_, rfl⟩
  rw [← hy3]
  have hB3 : Below (w.heap.size + 1 + 1) u y3 := by rw [hy3]; exact below_tri hB0 (Nat.le_refl _) _ _ _
  have hA3 : Tri y3 (w.heap.size + 1 + 1) (.int .i64 k0.kind) (.int .i64 k0.num) (.slice a0 k0.cnt c0) := by rw [hy3]; exact tri_set hx3 _ _ _
  have hZ3 : Tri y3 (w.heap.size + 1 + 1 + 1) (.int .i64 0) (.int .i64 0) (.slice none 0 0) := by rw [hy3]; exact (blk_tri (by omega) _ _ _).trans hx4
  refine hK.out _ _ (fun _ => HS.out _ hB3) (fun _ => ?_)
  clear hK K' hy3 hx3 hx4 hB0 d0 d1 d2 g0 g1 g2 hl3
  (try simp only [Act.put, List.setIfInBounds_toArray, List.set_cons_zero, List.set_cons_succ])
  obtain ⟨⟨d0, d1, d2⟩, g0, g1, g2⟩ := tri_cells hZ3
  have hl3 := hZ3.lt
  refine G_step (i := 13) (o := { dst := none, op := Op.store 24 (Operand.tmp 4) (Operand.tmp 23), type := 0, pos := _, after := #[{ on := 11, ground := Ground.data }, { on := 12, ground := Ground.chain }, { on := 0, ground := Ground.phase }, { on := 1, ground := Ground.phase }, { on := 2, ground := Ground.phase }, { on := 3, ground := Ground.phase }, { on := 4, ground := Ground.phase }, { on := 5, ground := Ground.phase }, { on := 6, ground := Ground.phase }, { on := 7, ground := Ground.phase }, { on := 8, ground := Ground.phase }, { on := 9, ground := Ground.phase }, { on := 10, ground := Ground.phase }, { on := 11, ground := Ground.phase }, { on := 12, ground := Ground.phase }], guard := none }) (by kernel_rfl) rfl (fun K' hK => ?_)
  go_simp
  obtain ⟨y4, hy4⟩ : ∃ q, q = ((y3.setCell ⟨w.heap.size + 1 + 1 + 1, 0, none⟩ (.int .i64 k1.kind)).setCell ⟨w.heap.size + 1 + 1 + 1, 1, none⟩ (.int .i64 k1.num)).setCell ⟨w.heap.size + 1 + 1 + 1, 2, none⟩ (.slice a1 k1.cnt c1) := ⟨_, rfl⟩
  rw [← hy4]
  have hB4 : Below (w.heap.size + 1 + 1) u y4 := by rw [hy4]; exact below_tri hB3 (by omega) _ _ _
  have hZ4 : Tri y4 (w.heap.size + 1 + 1 + 1) (.int .i64 k1.kind) (.int .i64 k1.num) (.slice a1 k1.cnt c1) := by rw [hy4]; exact tri_set hZ3 _ _ _
  have hA4 : Tri y4 (w.heap.size + 1 + 1) (.int .i64 k0.kind) (.int .i64 k0.num) (.slice a0 k0.cnt c0) := by rw [hy4]; exact (blk_tri (by omega) _ _ _).trans hA3
  refine hK.out _ _ (fun _ => HS.out _ hB4) (fun _ => ?_)
  clear hK K' hy4 hA3 hZ3 hB3 d0 d1 d2 g0 g1 g2 hl3
  (try simp only [Act.put, List.setIfInBounds_toArray, List.set_cons_zero, List.set_cons_succ])
  refine G_done (by kernel_rfl) ?_ _
  have HY : Hid (Below w.heap.size w y4 ∧ Tri y4 w.heap.size (.int .i64 f.kind) (.int .i64 f.num) (.slice (some ⟨b, o, none⟩) 2 cap) ∧ Tri y4 (w.heap.size + 1) (.int .i64 0) (.int .i64 0) (.slice none 0 0) ∧ Tri y4 (w.heap.size + 1 + 1) (.int .i64 k0.kind) (.int .i64 k0.num) (.slice a0 k0.cnt c0) ∧ Tri y4 (w.heap.size + 1 + 1 + 1) (.int .i64 k1.kind) (.int .i64 k1.num) (.slice a1 k1.cnt c1)) := ⟨HX.out.2.1.trans (hB4.mono (by omega)), HX.out.2.2.1.belowB hB4 (by omega), HX.out.2.2.2.1.belowB hB4 (by omega), hA4, hZ4⟩
  clear hB4 hA4 hZ4 HS HU
  have L1 := hid (leaf_g 1 0 y4)
  go_wp2_with fail
  refine L1.out.mono ?_
  rintro e w5 ⟨rfl, hb5⟩
  have L2 := hid (leaf_g 2 0 w5)
  have HB5 : Hid (Below y4.heap.size y4 w5) := hb5
  clear hb5 L1
  go_wp2_with fail
  refine L2.out.mono ?_
  rintro e w6 ⟨rfl, hb6⟩
  have hb56 := HB5.out.trans (hb6.mono HB5.out.size)
  obtain ⟨wd, hwd⟩ : ∃ y, y = (w6.alloc (.cells #[.int .i64 1, .int .i64 0, .slice none 0 0] 24)).alloc (.cells #[.int .i64 2, .int .i64 0, .slice none 0 0] 24) := ⟨_, rfl⟩
  have HSR : Hid (Sr w f k0 k1 (some ⟨b, o, none⟩) a0 a1 cap c0 c1 wd w6.heap.size) := by
    refine sr_made (HY.out.1.trans (hb56.mono HY.out.1.size)) ?_ (HY.out.2.2.1.below hb56) (HY.out.2.2.2.1.below hb56) (HY.out.2.2.2.2.below hb56) wd hwd
    rw [HCC.out]
    exact HY.out.2.1.below hb56
  have HWD := hid hwd
  have HW6 : Hid (Tri w6 (w.heap.size + 1) (.int .i64 0) (.int .i64 0) (.slice none 0 0) ∧ Below w.heap.size w w6) := ⟨HY.out.2.2.1.below hb56, HY.out.1.trans (hb56.mono HY.out.1.size)⟩
  clear hwd hb6 hb56 HB5 L2 HY
  obtain ⟨⟨f0, f1, f2⟩, -⟩ := tri_cells HSR.out.bx
  obtain ⟨⟨r0, r1, r2⟩, z0, z1, z2⟩ := tri_cells HSR.out.rs
  obtain ⟨⟨v0, v1, v2⟩, -⟩ := tri_cells HSR.out.ka
  obtain ⟨⟨s0, s1, s2⟩, -⟩ := tri_cells HSR.out.kb
  obtain ⟨⟨yy0, yy1, yy2⟩, -⟩ := tri_cells HSR.out.ys
  obtain ⟨⟨nn0, nn1, nn2⟩, -⟩ := tri_cells HSR.out.ns
  have hltr := HSR.out.rs.lt
  have hx5 := HSR.out.lt
  rw [HCC.out] at f2
  rw [HWD.out] at f0 f1 f2 r0 r1 r2 z0 z1 z2 v0 v1 v2 s0 s1 s2 yy0 yy1 yy2 nn0 nn1 nn2 hltr
  have hE := HE.out
  have C := hid (fixed44 k1.kind k1.num a1 k1.cnt c1 wd)
  go_wp2_with fail
  rw [← HWD.out]
  refine C.out.mono ?_
  rintro e w8 ⟨rfl, hb8⟩
  clear f0 f1 f2 r0 r1 r2 z0 z1 z2 v0 v1 v2 s0 s1 s2 yy0 yy1 yy2 nn0 nn1 nn2 hltr
  have HS8 := hid (HSR.out.below hb8)
  have hcf := HCC.out
  obtain ⟨⟨f0, f1, f2⟩, -⟩ := tri_cells HS8.out.bx
  obtain ⟨⟨r0, r1, r2⟩, z0, z1, z2⟩ := tri_cells HS8.out.rs
  obtain ⟨⟨v0, v1, v2⟩, -⟩ := tri_cells HS8.out.ka
  obtain ⟨⟨s0, s1, s2⟩, -⟩ := tri_cells HS8.out.kb
  have hltr := HS8.out.rs.lt
  rw [hcf] at f2
  clear hb8 hcf
  clear C HWD HW6 HSR
  by_cases q1 : fxd k1.kind = true
  · have HEq := hid (hE.trans (if_pos (Or.inl (of_decide_eq_true q1))))
    rw [q1]
    clear q1 HE hE HW1
    go_wp2
    (try simp only [Exit.inBlock, Exit.then])
    refine bodyPost_ret (results_cell_row rfl _ _ (w.heap.size + 1) 24 #[.int .i64 k1.kind, .int .i64 k1.num, .slice a1 k1.cnt c1] (0, 0) _ rfl (tri_set HS8.out.rs _ _ _) Tryd.underlying24 rfl (by kernel_rfl)) rfl ?_
    rw [HEq.out]
    have hbf := below_tri (x := w.heap.size + 1) HS8.out.bel (by omega) (.int .i64 k1.kind) (.int .i64 k1.num) (.slice a1 k1.cnt c1)
    exact ⟨a1, c1, rfl, HK1.out.1.below hbf, hbf⟩
  have q1' : fxd k1.kind = false := by simpa using q1
  have q1n : ¬ (k1.kind = 1 ∨ k1.kind = 2) := fun hh => q1 (decide_eq_true hh)
  rw [q1']
  clear q1 q1'
  by_cases q2 : k0.kind = 2
  · have HEq := hid (hE.trans (if_pos (Or.inr q2)))
    have b2 : (k0.kind == 2) = true := beq_iff_eq.2 q2
    clear q1n q2 HE hE HW1
    go_wp2
    (try simp only [Exit.inBlock, Exit.then])
    refine bodyPost_ret (results_cell_row rfl _ _ (w.heap.size + 1) 24 #[.int .i64 k1.kind, .int .i64 k1.num, .slice a1 k1.cnt c1] (0, 0) _ rfl (tri_set HS8.out.rs _ _ _) Tryd.underlying24 rfl (by kernel_rfl)) rfl ?_
    rw [HEq.out]
    have hbf := below_tri (x := w.heap.size + 1) HS8.out.bel (by omega) (.int .i64 k1.kind) (.int .i64 k1.num) (.slice a1 k1.cnt c1)
    exact ⟨a1, c1, rfl, HK1.out.1.below hbf, hbf⟩
  have b2 : (k0.kind == 2) = false := beq_eq_false_iff_ne.2 q2
  rw [if_neg (by rintro (h1 | h1); exact q1n h1; exact q2 h1)] at hE
  by_cases q3 : k0.kind = 1
  · rw [if_pos q3] at hE
    have b3 : (k0.kind == 1) = true := beq_iff_eq.2 q3
    have HEq : Hid (g = slm (on 10 k1)) := by
      have e1 := slm_single (f := on 10 k1) (by have : (on 10 k1).kind = 10 := rfl; rw [this]; omega)
      rw [on_kid] at e1
      have e2 : (on 10 k1).kind = 10 := rfl
      rw [e2] at e1
      refine hid (hE.trans (Eq.trans ?_ e1.symm))
      have hf : fxd k1.kind = false := decide_eq_false q1n
      rw [hf]
      simp
    have C1 := hid (one31_g 10 k1 a1 c1 w8)
    have C2 : Hid (∀ z, Below w8.heap.size w8 z → z.heap[w8.heap.size + 1 + 1]? = some (.cells #[.int .i64 k1.kind, .int .i64 k1.num, .slice a1 k1.cnt c1] 24) → Calls Tryd.prog 34 #[.agg #[.int .i64 10, .int .i64 0, .slice (some ⟨w8.heap.size + 1 + 1, 0, none⟩) 1 1]] z fun e w' => Nq (nw (fun k => p k && decide (k < w.heap.size)) w8) z (slm (on 10 k1)) e w') := fun z hz hx => by
      have hbz := HS8.out.bel.trans (hz.mono HS8.out.bel.size)
      have hk1e : Kds (lim (nw (fun k => p k && decide (k < w.heap.size)) w8) z) k1 a1 := kl_keep HK1.out.1 (fun k h1 h2 => ⟨by simp [nw, h1, h2], hbz.block k h2⟩)
      exact hS (on 10 k1) _ rfl (wf_on (by omega) HW1.out) _ 1 z (kds_on (cap := c1) ((lim_at (by simp [nw]; omega)).trans hx) HK1.out.2 hk1e)
    obtain ⟨sg, hsg⟩ : ∃ y, y = slm (on 10 k1) := ⟨_, rfl⟩
    rw [← hsg] at HEq C2
    clear hE HE q1n q2 q3 hsg HW1
    go_wp2_with fail
    refine C1.out.mono ?_
    rintro e w9 ⟨rfl, hx9, hb9⟩
    have C3 := hid (C2.out w9 hb9 hx9)
    have HB9 : Hid (Below w8.heap.size w8 w9) := hb9
    clear hx9 hb9 C1 C2
    go_wp2_with fail
    refine C3.out.mono ?_
    rintro e w10 ⟨a10, c10, rfl, hk10, hb10⟩
    have hb8' := HB9.out.trans (hb10.mono HB9.out.size)
    have HS9 := hid (HS8.out.below hb8')
    clear f0 f1 f2 r0 r1 r2 z0 z1 z2 v0 v1 v2 s0 s1 s2 hltr
    obtain ⟨⟨r0, r1, r2⟩, z0, z1, z2⟩ := tri_cells HS9.out.rs
    have hltr := HS9.out.rs.lt
    have HK10 := hid hk10
    have HSZ : Hid (w.heap.size + 1 + 1 + 1 < w8.heap.size ∧ w8.heap.size ≤ w9.heap.size) := ⟨HS8.out.kb.lt, HB9.out.size⟩
    clear hk10 hb10 hb8' C3
    go_wp2
    (try simp only [Exit.inBlock, Exit.then])
    refine bodyPost_ret (results_cell_row rfl _ _ (w.heap.size + 1) 24 #[.int .i64 sg.kind, .int .i64 sg.num, .slice a10 sg.cnt c10] (0, 0) _ rfl (tri_set HS9.out.rs _ _ _) Tryd.underlying24 rfl (by kernel_rfl)) rfl ?_
    rw [HEq.out]
    refine ⟨a10, c10, rfl, kl_keep HK10.out (fun k h1 _ => ?_), below_tri HS9.out.bel (by omega) _ _ _⟩
    have hsz := HSZ.out
    simp only [nw, Bool.or_eq_true, Bool.and_eq_true, decide_eq_true_eq] at h1 ⊢
    rcases h1 with (⟨h1, h2⟩ | h1) | h1
    · exact ⟨Or.inl h1, blk_tri (by omega) _ _ _⟩
    · exact ⟨Or.inr (by omega), blk_tri (by omega) _ _ _⟩
    · exact ⟨Or.inr (by omega), blk_tri (by omega) _ _ _⟩
  have b3 : (k0.kind == 1) = false := beq_eq_false_iff_ne.2 q3
  rw [if_neg q3] at hE
  have C := hid (same17 k0 k1 a0 a1 c0 c1 w8 (HK0.out.1.out.below HS8.out.bel) (HK1.out.1.out.below HS8.out.bel) HK0.out.2 HK1.out.2)
  by_cases q5 : same k0 k1 = true
  · have HEq := hid (hE.trans (if_pos q5))
    rw [q5] at C
    clear q1n q2 q3 q5 HE hE HW1
    go_wp2_with fail
    refine C.out.mono ?_
    rintro e wz ⟨rfl, hbz⟩
    have HSz := hid (HS8.out.below hbz)
    clear f0 f1 f2 r0 r1 r2 z0 z1 z2 v0 v1 v2 s0 s1 s2 hltr hbz C
    obtain ⟨⟨r0, r1, r2⟩, z0, z1, z2⟩ := tri_cells HSz.out.rs
    obtain ⟨⟨s0, s1, s2⟩, -⟩ := tri_cells HSz.out.kb
    have hltr := HSz.out.rs.lt
    go_wp2
    (try simp only [Exit.inBlock, Exit.then])
    refine bodyPost_ret (results_cell_row rfl _ _ (w.heap.size + 1) 24 #[.int .i64 k1.kind, .int .i64 k1.num, .slice a1 k1.cnt c1] (0, 0) _ rfl (tri_set HSz.out.rs _ _ _) Tryd.underlying24 rfl (by kernel_rfl)) rfl ?_
    rw [HEq.out]
    have hbf := below_tri (x := w.heap.size + 1) HSz.out.bel (by omega) (.int .i64 k1.kind) (.int .i64 k1.num) (.slice a1 k1.cnt c1)
    exact ⟨a1, c1, rfl, HK1.out.1.below hbf, hbf⟩
  · have HEq := hid (hE.trans (if_neg q5))
    have q5' : same k0 k1 = false := by simpa using q5
    rw [q5'] at C
    clear q1n q2 q3 q5 q5' HE hE HW1
    go_wp2_with fail
    refine C.out.mono ?_
    rintro e wz ⟨rfl, hbz⟩
    have HSz := hid (HS8.out.below hbz)
    have hcf := HCC.out
    clear f0 f1 f2 r0 r1 r2 z0 z1 z2 v0 v1 v2 s0 s1 s2 hltr hbz C
    obtain ⟨⟨r0, r1, r2⟩, z0, z1, z2⟩ := tri_cells HSz.out.rs
    obtain ⟨⟨f0, f1, f2⟩, -⟩ := tri_cells HSz.out.bx
    have hltr := HSz.out.rs.lt
    rw [hcf] at f2
    clear hcf
    go_wp2
    (try simp only [Exit.inBlock, Exit.then])
    refine bodyPost_ret (results_cell_row rfl _ _ (w.heap.size + 1) 24 #[.int .i64 f.kind, .int .i64 f.num, .slice (some ⟨b, o, none⟩) 2 cap] (0, 0) _ rfl (tri_set HSz.out.rs _ _ _) Tryd.underlying24 rfl (by kernel_rfl)) rfl ?_
    rw [HEq.out]
    have hbf := below_tri (x := w.heap.size + 1) HSz.out.bel (by omega) (.int .i64 f.kind) (.int .i64 f.num) (.slice (some ⟨b, o, none⟩) 2 cap)
    rw [← HCC.out] at hbf ⊢
    exact ⟨(some ⟨b, o, none⟩), cap, rfl, HKF.out.below hbf, hbf⟩

set_option maxHeartbeats 8000000 in
set_option maxRecDepth 20000 in
theorem sr9 {f : Fml} (p : Nat → Bool) (hw : Wf f) (hS : ∀ (f : Fml) (p : Nat → Bool), f.kind = 11 → Wf f → ∀ (a : Option Addr) (cap : Nat) (w : World), Kq p w f a → Calls Tryd.prog 34 #[.agg #[.int .i64 f.kind, .int .i64 f.num, .slice a f.cnt cap]] w fun e w' => Nq p w (slm f) e w') (hk : f.kind = 9) (hcc : f.cnt = 2) (a : Option Addr) (cap : Nat) (w : World) (h : Kq p w f a) :
    Calls Tryd.prog 34 #[.agg #[.int .i64 f.kind, .int .i64 f.num, .slice a f.cnt cap]] w fun e w' => Nq p w (slm f) e w' := by
  have t4 : (f.kind == 4) = false := by rw [hk]; rfl
  have t5 : (f.kind == 5) = false := by rw [hk]; rfl
  have t6 : (f.kind == 6) = false := by rw [hk]; rfl
  have t7 : (f.kind == 7) = false := by rw [hk]; rfl
  have t10 : (f.kind == 10) = false := by rw [hk]; rfl
  have t11 : (f.kind == 11) = false := by rw [hk]; rfl
  have t8 : (f.kind == 8) = false := by rw [hk]; rfl
  have t9 : (f.kind == 9) = true := by rw [hk]; rfl
  obtain ⟨b, o, a0, c0, rfl, e1, e2, e3, e4, e5⟩ := kid_cells h (i := 0) (by omega)
  obtain ⟨b', o', a1, c1, hab, g1, g2, g3, g4, g5⟩ := kid_cells h (i := 1) (by omega)
  simp only [Option.some.injEq, Addr.mk.injEq, and_true] at hab
  obtain ⟨rfl, rfl⟩ := hab
  simp only [Nat.zero_mul, Nat.add_zero, Nat.one_mul] at e1 e2 e3 g1 g2 g3
  obtain ⟨k0, hk0⟩ : ∃ y, y = f.kid 0 := ⟨_, rfl⟩
  obtain ⟨k1, hk1⟩ : ∃ y, y = f.kid 1 := ⟨_, rfl⟩
  rw [← hk0] at e1 e2 e3 e4 e5
  rw [← hk1] at g1 g2 g3 g4 g5
  have HK1 := hid (And.intro g5 g4)
  have HK0 := hid (And.intro e5 e4)
  have HKF := hid h
  obtain ⟨u, hu⟩ : ∃ y, y = (((w.alloc (.cells #[.int .i64 f.kind, .int .i64 f.num, .slice (some ⟨b, o, none⟩) f.cnt cap] 24)).alloc (.cells #[.int .i64 0, .int .i64 0, .slice none 0 0] 24)).alloc (.cells #[.int .i64 0, .int .i64 0, .slice none 0 0] 24)).alloc (.cells #[.int .i64 0, .int .i64 0, .slice none 0 0] 24) := ⟨_, rfl⟩
  obtain ⟨hs, hBu, hT1, hT2, hT3, hT4⟩ := four_new w _ u hu
  rw [hcc] at hT1
  have HS : Hid (∀ y, Below (w.heap.size + 1 + 1) u y → y.cell? ⟨w.heap.size, 2, none⟩ = some (.slice (some ⟨b, o, none⟩) 2 cap) ∧ y.cell? ⟨b, o, none⟩ = some (.int .i64 k0.kind) ∧ y.cell? ⟨b, o + 1, none⟩ = some (.int .i64 k0.num) ∧ y.cell? ⟨b, o + 2, none⟩ = some (.slice a0 k0.cnt c0) ∧ y.cell? ⟨b, o + 3, none⟩ = some (.int .i64 k1.kind) ∧ y.cell? ⟨b, o + 3 + 1, none⟩ = some (.int .i64 k1.num) ∧ y.cell? ⟨b, o + 3 + 2, none⟩ = some (.slice a1 k1.cnt c1)) := fun y hy => by
    have hb0 : b < w.heap.size := World.block_lt_of_cell? _ _ e1
    exact ⟨(tri_cells (Tri.belowB (show Tri u w.heap.size (.int .i64 f.kind) (.int .i64 f.num) (.slice (some ⟨b, o, none⟩) 2 cap) from hT1) hy (by omega))).1.2.2, below_cell' hy (by show b < w.heap.size + 1 + 1; omega) (below_cell hBu (Nat.le_refl _) e1), below_cell' hy (by show b < w.heap.size + 1 + 1; omega) (below_cell hBu (Nat.le_refl _) e2), below_cell' hy (by show b < w.heap.size + 1 + 1; omega) (below_cell hBu (Nat.le_refl _) e3), below_cell' hy (by show b < w.heap.size + 1 + 1; omega) (below_cell hBu (Nat.le_refl _) g1), below_cell' hy (by show b < w.heap.size + 1 + 1; omega) (below_cell hBu (Nat.le_refl _) g2), below_cell' hy (by show b < w.heap.size + 1 + 1; omega) (below_cell hBu (Nat.le_refl _) g3)⟩
  have HX : Hid (u.heap.size = w.heap.size + 1 + 1 + 1 + 1 ∧ Below w.heap.size w u ∧ Tri u w.heap.size (.int .i64 f.kind) (.int .i64 f.num) (.slice (some ⟨b, o, none⟩) 2 cap) ∧ Tri u (w.heap.size + 1) (.int .i64 0) (.int .i64 0) (.slice none 0 0) ∧ Tri u (w.heap.size + 1 + 1) (.int .i64 0) (.int .i64 0) (.slice none 0 0) ∧ Tri u (w.heap.size + 1 + 1 + 1) (.int .i64 0) (.int .i64 0) (.slice none 0 0)) := ⟨hs, hBu, hT1, hT2, hT3, hT4⟩
  have HCC := hid hcc
  rw [hcc] at hu ⊢
  have HU := hid hu
  have hE : slm f = if (k1.kind = 1 ∨ k1.kind = 2) ∨ k0.kind = 1 then k1 else if k0.kind = 2 then (if k1.kind = 11 then k1 else on 11 k1) else if same k0 k1 = true then k1 else f := by rw [slm_release hk, hk0, hk1]; rfl
  have HE := hid hE
  have HW1 : Hid (Wf k1) := by
    have := hw.out.2 1 (by omega)
    rw [← hk1] at this
    exact hid this
  clear hE
  clear hu hs hBu hT1 hT2 hT3 hT4 h hcc e1 e2 e3 e4 e5 g1 g2 g3 g4 g5 hk hk0 hk1 hw
  generalize slm f = g at *
  go_enter Tryd.func34, Tryd.ntmps34
  go_wp2
  rw [← HU.out]
  have hB0 : Below (w.heap.size + 1 + 1) u u.drew := below_drewN (Below.refl _ _) 1
  refine G_region (fun y => y.cell? ⟨w.heap.size, 2, none⟩ = some (.slice (some ⟨b, o, none⟩) 2 cap) ∧ y.cell? ⟨b, o, none⟩ = some (.int .i64 k0.kind) ∧ y.cell? ⟨b, o + 1, none⟩ = some (.int .i64 k0.num) ∧ y.cell? ⟨b, o + 2, none⟩ = some (.slice a0 k0.cnt c0) ∧ y.cell? ⟨b, o + 3, none⟩ = some (.int .i64 k1.kind) ∧ y.cell? ⟨b, o + 3 + 1, none⟩ = some (.int .i64 k1.num) ∧ y.cell? ⟨b, o + 3 + 2, none⟩ = some (.slice a1 k1.cnt c1)) (fun _ => false) (by kernel_rfl) (HS.out _ hB0) (fun _ => ?_)
  refine G_take (i := 0) (oi := { dst := some 12, op := Op.fieldAddr 24 (Operand.tmp 1) 2, type := 0, pos := _, after := #[], guard := none }) (v := .pointer (some ⟨w.heap.size, 2, none⟩)) rfl (by kernel_rfl) (by kernel_rfl) (by kernel_rfl) (by kernel_rfl) (fun _ _ _ h => h) (by rfl) (fun u hu => ?_) (HS.out _ hB0) ?_
  · (try dsimp only at hu); go_simp
  (try simp only [Act.put, List.setIfInBounds_toArray, List.set_cons_zero, List.set_cons_succ])
  refine G_take (i := 1) (oi := { dst := some 13, op := Op.load 22 (Operand.tmp 12), type := 22, pos := _, after := #[{ on := 0, ground := Ground.data }], guard := none }) (v := .slice (some ⟨b, o, none⟩) 2 cap) rfl (by kernel_rfl) (by kernel_rfl) (by kernel_rfl) (by kernel_rfl) (fun _ _ _ h => h) (by rfl) (fun u hu => ?_) (HS.out _ hB0) ?_
  · (try dsimp only at hu); go_simp
  (try simp only [Act.put, List.setIfInBounds_toArray, List.set_cons_zero, List.set_cons_succ])
  refine G_take (i := 2) (oi := { dst := some 14, op := Op.indexAddr 22 (Operand.tmp 13) (Operand.const (Value.int IntKind.i64 0)), type := 0, pos := _, after := #[{ on := 1, ground := Ground.data }], guard := none }) (v := .pointer (some ⟨b, o, none⟩)) rfl (by kernel_rfl) (by kernel_rfl) (by kernel_rfl) (by kernel_rfl) (fun _ _ _ h => h) (by rfl) (fun u hu => ?_) (HS.out _ hB0) ?_
  · (try dsimp only at hu); go_simp
  (try simp only [Act.put, List.setIfInBounds_toArray, List.set_cons_zero, List.set_cons_succ])
  refine G_take (i := 3) (oi := { dst := some 15, op := Op.load 24 (Operand.tmp 14), type := 24, pos := _, after := #[{ on := 2, ground := Ground.data }], guard := none }) (v := .agg #[.int .i64 k0.kind, .int .i64 k0.num, .slice a0 k0.cnt c0]) rfl (by kernel_rfl) (by kernel_rfl) (by kernel_rfl) (by kernel_rfl) (fun _ _ _ h => h) (by rfl) (fun u hu => ?_) (HS.out _ hB0) ?_
  · (try dsimp only at hu); go_simp
  (try simp only [Act.put, List.setIfInBounds_toArray, List.set_cons_zero, List.set_cons_succ])
  refine G_take (i := 4) (oi := { dst := some 16, op := Op.fieldAddr 24 (Operand.tmp 1) 2, type := 0, pos := _, after := #[{ on := 12, ground := Ground.gcOnly Departure.lateStores }], guard := none }) (v := .pointer (some ⟨w.heap.size, 2, none⟩)) rfl (by kernel_rfl) (by kernel_rfl) (by kernel_rfl) (by kernel_rfl) (fun _ _ _ h => h) (by rfl) (fun u hu => ?_) (HS.out _ hB0) ?_
  · (try dsimp only at hu); go_simp
  (try simp only [Act.put, List.setIfInBounds_toArray, List.set_cons_zero, List.set_cons_succ])
  refine G_take (i := 5) (oi := { dst := some 17, op := Op.load 22 (Operand.tmp 16), type := 22, pos := _, after := #[{ on := 4, ground := Ground.data }, { on := 12, ground := Ground.gcOnly Departure.lateStores }], guard := none }) (v := .slice (some ⟨b, o, none⟩) 2 cap) rfl (by kernel_rfl) (by kernel_rfl) (by kernel_rfl) (by kernel_rfl) (fun _ _ _ h => h) (by rfl) (fun u hu => ?_) (HS.out _ hB0) ?_
  · (try dsimp only at hu); go_simp
  (try simp only [Act.put, List.setIfInBounds_toArray, List.set_cons_zero, List.set_cons_succ])
  refine G_take (i := 6) (oi := { dst := some 18, op := Op.fieldAddr 24 (Operand.tmp 1) 2, type := 0, pos := _, after := #[], guard := none }) (v := .pointer (some ⟨w.heap.size, 2, none⟩)) rfl (by kernel_rfl) (by kernel_rfl) (by kernel_rfl) (by kernel_rfl) (fun _ _ _ h => h) (by rfl) (fun u hu => ?_) (HS.out _ hB0) ?_
  · (try dsimp only at hu); go_simp
  (try simp only [Act.put, List.setIfInBounds_toArray, List.set_cons_zero, List.set_cons_succ])
  refine G_take (i := 7) (oi := { dst := some 19, op := Op.load 22 (Operand.tmp 18), type := 22, pos := _, after := #[{ on := 6, ground := Ground.data }], guard := none }) (v := .slice (some ⟨b, o, none⟩) 2 cap) rfl (by kernel_rfl) (by kernel_rfl) (by kernel_rfl) (by kernel_rfl) (fun _ _ _ h => h) (by rfl) (fun u hu => ?_) (HS.out _ hB0) ?_
  · (try dsimp only at hu); go_simp
  (try simp only [Act.put, List.setIfInBounds_toArray, List.set_cons_zero, List.set_cons_succ])
  refine G_take (i := 8) (oi := { dst := some 20, op := Op.call { callee := Callee.builtin Builtin.len, args := #[Operand.tmp 19], argTypes := #[22] }, type := 3, pos := _, after := #[{ on := 7, ground := Ground.data }], guard := none }) (v := .int .i64 2) rfl (by kernel_rfl) (by kernel_rfl) (by kernel_rfl) (by kernel_rfl) (fun _ _ _ h => h) (by rfl) (fun u hu => ?_) (HS.out _ hB0) ?_
  · (try dsimp only at hu); go_simp
  (try simp only [Act.put, List.setIfInBounds_toArray, List.set_cons_zero, List.set_cons_succ])
  refine G_take (i := 9) (oi := { dst := some 21, op := Op.binOp BinOp.sub 3 (Operand.tmp 20) (Operand.const (Value.int IntKind.i64 1)) 3, type := 3, pos := _, after := #[{ on := 8, ground := Ground.data }, { on := 12, ground := Ground.gcOnly Departure.lateStores }], guard := none }) (v := .int .i64 1) rfl (by kernel_rfl) (by kernel_rfl) (by kernel_rfl) (by kernel_rfl) (fun _ _ _ h => h) (by rfl) (fun u hu => ?_) (HS.out _ hB0) ?_
  · (try dsimp only at hu); go_simp; (try rfl)
  (try simp only [Act.put, List.setIfInBounds_toArray, List.set_cons_zero, List.set_cons_succ])
  refine G_take (i := 10) (oi := { dst := some 22, op := Op.indexAddr 22 (Operand.tmp 17) (Operand.tmp 21), type := 0, pos := _, after := #[{ on := 5, ground := Ground.data }, { on := 9, ground := Ground.data }, { on := 12, ground := Ground.gcOnly Departure.lateStores }], guard := none }) (v := .pointer (some ⟨b, o + 3, none⟩)) rfl (by kernel_rfl) (by kernel_rfl) (by kernel_rfl) (by kernel_rfl) (fun _ _ _ h => h) (by rfl) (fun u hu => ?_) (HS.out _ hB0) ?_
  · (try dsimp only at hu); go_simp
  (try simp only [Act.put, List.setIfInBounds_toArray, List.set_cons_zero, List.set_cons_succ])
  refine G_take (i := 11) (oi := { dst := some 23, op := Op.load 24 (Operand.tmp 22), type := 24, pos := _, after := #[{ on := 10, ground := Ground.data }, { on := 12, ground := Ground.gcOnly Departure.lateStores }], guard := none }) (v := .agg #[.int .i64 k1.kind, .int .i64 k1.num, .slice a1 k1.cnt c1]) rfl (by kernel_rfl) (by kernel_rfl) (by kernel_rfl) (by kernel_rfl) (fun _ _ _ h => h) (by rfl) (fun u hu => ?_) (HS.out _ hB0) ?_
  · (try dsimp only at hu); go_simp
  (try simp only [Act.put, List.setIfInBounds_toArray, List.set_cons_zero, List.set_cons_succ])
  obtain ⟨y0, hy0⟩ : ∃ q, q = u.drew := ⟨_, rfl⟩
  have hx3 : Tri y0 (w.heap.size + 1 + 1) (.int .i64 0) (.int .i64 0) (.slice none 0 0) := by rw [hy0]; exact HX.out.2.2.2.2.1
  have hx4 : Tri y0 (w.heap.size + 1 + 1 + 1) (.int .i64 0) (.int .i64 0) (.slice none 0 0) := by rw [hy0]; exact HX.out.2.2.2.2.2
  rw [← hy0] at hB0 ⊢
  clear hy0
  obtain ⟨⟨d0, d1, d2⟩, g0, g1, g2⟩ := tri_cells hx3
  have hl3 := hx3.lt
  refine G_step (i := 12) (o := { dst := none, op := Op.store 24 (Operand.tmp 3) (Operand.tmp 15), type := 0, pos := _, after := #[{ on := 3, ground := Ground.data }, { on := 0, ground := Ground.phase }, { on := 1, ground := Ground.phase }, { on := 2, ground := Ground.phase }, { on := 3, ground := Ground.phase }, { on := 4, ground := Ground.textOnly Departure.lateStores }, { on := 5, ground := Ground.textOnly Departure.lateStores }, { on := 6, ground := Ground.textOnly Departure.lateStores }, { on := 7, ground := Ground.textOnly Departure.lateStores }, { on := 8, ground := Ground.textOnly Departure.lateStoresUnsure }, { on := 9, ground := Ground.textOnly Departure.lateStores }, { on := 10, ground := Ground.textOnly Departure.lateStores }, { on := 11, ground := Ground.textOnly Departure.lateStores }], guard := none }) (by kernel_rfl) rfl (fun K' hK => ?_)
  go_simp
  obtain ⟨y3, hy3⟩ : ∃ q, q = ((y0.setCell ⟨w.heap.size + 1 + 1, 0, none⟩ (.int .i64 k0.kind)).setCell ⟨w.heap.size + 1 + 1, 1, none⟩ (.int .i64 k0.num)).setCell ⟨w.heap.size + 1 + 1, 2, none⟩ (.slice a0 k0.cnt c0) := ⟨_, rfl⟩
  rw [← hy3]
  have hB3 : Below (w.heap.size + 1 + 1) u y3 := by rw [hy3]; exact below_tri hB0 (Nat.le_refl _) _ _ _
  have hA3 : Tri y3 (w.heap.size + 1 + 1) (.int .i64 k0.kind) (.int .i64 k0.num) (.slice a0 k0.cnt c0) := by rw [hy3]; exact tri_set hx3 _ _ _
  have hZ3 : Tri y3 (w.heap.size + 1 + 1 + 1) (.int .i64 0) (.int .i64 0) (.slice none 0 0) := by rw [hy3]; exact (blk_tri (by omega) _ _ _).trans hx4
  refine hK.out _ _ (fun _ => HS.out _ hB3) (fun _ => ?_)
  clear hK K' hy3 hx3 hx4 hB0 d0 d1 d2 g0 g1 g2 hl3
  (try simp only [Act.put, List.setIfInBounds_toArray, List.set_cons_zero, List.set_cons_succ])
  obtain ⟨⟨d0, d1, d2⟩, g0, g1, g2⟩ := tri_cells hZ3
  have hl3 := hZ3.lt
  refine G_step (i := 13) (o := { dst := none, op := Op.store 24 (Operand.tmp 4) (Operand.tmp 23), type := 0, pos := _, after := #[{ on := 11, ground := Ground.data }, { on := 12, ground := Ground.chain }, { on := 0, ground := Ground.phase }, { on := 1, ground := Ground.phase }, { on := 2, ground := Ground.phase }, { on := 3, ground := Ground.phase }, { on := 4, ground := Ground.phase }, { on := 5, ground := Ground.phase }, { on := 6, ground := Ground.phase }, { on := 7, ground := Ground.phase }, { on := 8, ground := Ground.phase }, { on := 9, ground := Ground.phase }, { on := 10, ground := Ground.phase }, { on := 11, ground := Ground.phase }, { on := 12, ground := Ground.phase }], guard := none }) (by kernel_rfl) rfl (fun K' hK => ?_)
  go_simp
  obtain ⟨y4, hy4⟩ : ∃ q, q = ((y3.setCell ⟨w.heap.size + 1 + 1 + 1, 0, none⟩ (.int .i64 k1.kind)).setCell ⟨w.heap.size + 1 + 1 + 1, 1, none⟩ (.int .i64 k1.num)).setCell ⟨w.heap.size + 1 + 1 + 1, 2, none⟩ (.slice a1 k1.cnt c1) := ⟨_, rfl⟩
  rw [← hy4]
  have hB4 : Below (w.heap.size + 1 + 1) u y4 := by rw [hy4]; exact below_tri hB3 (by omega) _ _ _
  have hZ4 : Tri y4 (w.heap.size + 1 + 1 + 1) (.int .i64 k1.kind) (.int .i64 k1.num) (.slice a1 k1.cnt c1) := by rw [hy4]; exact tri_set hZ3 _ _ _
  have hA4 : Tri y4 (w.heap.size + 1 + 1) (.int .i64 k0.kind) (.int .i64 k0.num) (.slice a0 k0.cnt c0) := by rw [hy4]; exact (blk_tri (by omega) _ _ _).trans hA3
  refine hK.out _ _ (fun _ => HS.out _ hB4) (fun _ => ?_)
  clear hK K' hy4 hA3 hZ3 hB3 d0 d1 d2 g0 g1 g2 hl3
  (try simp only [Act.put, List.setIfInBounds_toArray, List.set_cons_zero, List.set_cons_succ])
  refine G_done (by kernel_rfl) ?_ _
  have HY : Hid (Below w.heap.size w y4 ∧ Tri y4 w.heap.size (.int .i64 f.kind) (.int .i64 f.num) (.slice (some ⟨b, o, none⟩) 2 cap) ∧ Tri y4 (w.heap.size + 1) (.int .i64 0) (.int .i64 0) (.slice none 0 0) ∧ Tri y4 (w.heap.size + 1 + 1) (.int .i64 k0.kind) (.int .i64 k0.num) (.slice a0 k0.cnt c0) ∧ Tri y4 (w.heap.size + 1 + 1 + 1) (.int .i64 k1.kind) (.int .i64 k1.num) (.slice a1 k1.cnt c1)) := ⟨HX.out.2.1.trans (hB4.mono (by omega)), HX.out.2.2.1.belowB hB4 (by omega), HX.out.2.2.2.1.belowB hB4 (by omega), hA4, hZ4⟩
  clear hB4 hA4 hZ4 HS HU
  have L1 := hid (leaf_g 1 0 y4)
  go_wp2_with fail
  refine L1.out.mono ?_
  rintro e w5 ⟨rfl, hb5⟩
  have L2 := hid (leaf_g 2 0 w5)
  have HB5 : Hid (Below y4.heap.size y4 w5) := hb5
  clear hb5 L1
  go_wp2_with fail
  refine L2.out.mono ?_
  rintro e w6 ⟨rfl, hb6⟩
  have hb56 := HB5.out.trans (hb6.mono HB5.out.size)
  obtain ⟨wd, hwd⟩ : ∃ y, y = (w6.alloc (.cells #[.int .i64 1, .int .i64 0, .slice none 0 0] 24)).alloc (.cells #[.int .i64 2, .int .i64 0, .slice none 0 0] 24) := ⟨_, rfl⟩
  have HSR : Hid (Sr w f k0 k1 (some ⟨b, o, none⟩) a0 a1 cap c0 c1 wd w6.heap.size) := by
    refine sr_made (HY.out.1.trans (hb56.mono HY.out.1.size)) ?_ (HY.out.2.2.1.below hb56) (HY.out.2.2.2.1.below hb56) (HY.out.2.2.2.2.below hb56) wd hwd
    rw [HCC.out]
    exact HY.out.2.1.below hb56
  have HWD := hid hwd
  have HW6 : Hid (Tri w6 (w.heap.size + 1) (.int .i64 0) (.int .i64 0) (.slice none 0 0) ∧ Below w.heap.size w w6) := ⟨HY.out.2.2.1.below hb56, HY.out.1.trans (hb56.mono HY.out.1.size)⟩
  clear hwd hb6 hb56 HB5 L2 HY
  obtain ⟨⟨f0, f1, f2⟩, -⟩ := tri_cells HSR.out.bx
  obtain ⟨⟨r0, r1, r2⟩, z0, z1, z2⟩ := tri_cells HSR.out.rs
  obtain ⟨⟨v0, v1, v2⟩, -⟩ := tri_cells HSR.out.ka
  obtain ⟨⟨s0, s1, s2⟩, -⟩ := tri_cells HSR.out.kb
  obtain ⟨⟨yy0, yy1, yy2⟩, -⟩ := tri_cells HSR.out.ys
  obtain ⟨⟨nn0, nn1, nn2⟩, -⟩ := tri_cells HSR.out.ns
  have hltr := HSR.out.rs.lt
  have hx5 := HSR.out.lt
  rw [HCC.out] at f2
  rw [HWD.out] at f0 f1 f2 r0 r1 r2 z0 z1 z2 v0 v1 v2 s0 s1 s2 yy0 yy1 yy2 nn0 nn1 nn2 hltr
  have hE := HE.out
  have C := hid (fixed44 k1.kind k1.num a1 k1.cnt c1 wd)
  go_wp2_with fail
  rw [← HWD.out]
  refine C.out.mono ?_
  rintro e w8 ⟨rfl, hb8⟩
  clear f0 f1 f2 r0 r1 r2 z0 z1 z2 v0 v1 v2 s0 s1 s2 yy0 yy1 yy2 nn0 nn1 nn2 hltr
  have HS8 := hid (HSR.out.below hb8)
  have hcf := HCC.out
  obtain ⟨⟨f0, f1, f2⟩, -⟩ := tri_cells HS8.out.bx
  obtain ⟨⟨r0, r1, r2⟩, z0, z1, z2⟩ := tri_cells HS8.out.rs
  obtain ⟨⟨v0, v1, v2⟩, -⟩ := tri_cells HS8.out.ka
  obtain ⟨⟨s0, s1, s2⟩, -⟩ := tri_cells HS8.out.kb
  have hltr := HS8.out.rs.lt
  rw [hcf] at f2
  clear hb8 hcf
  clear C HWD HW6 HSR
  by_cases q1 : fxd k1.kind = true
  · have HEq := hid (hE.trans (if_pos (Or.inl (of_decide_eq_true q1))))
    rw [q1]
    clear q1 HE hE HW1
    go_wp2
    (try simp only [Exit.inBlock, Exit.then])
    refine bodyPost_ret (results_cell_row rfl _ _ (w.heap.size + 1) 24 #[.int .i64 k1.kind, .int .i64 k1.num, .slice a1 k1.cnt c1] (0, 0) _ rfl (tri_set HS8.out.rs _ _ _) Tryd.underlying24 rfl (by kernel_rfl)) rfl ?_
    rw [HEq.out]
    have hbf := below_tri (x := w.heap.size + 1) HS8.out.bel (by omega) (.int .i64 k1.kind) (.int .i64 k1.num) (.slice a1 k1.cnt c1)
    exact ⟨a1, c1, rfl, HK1.out.1.below hbf, hbf⟩
  have q1' : fxd k1.kind = false := by simpa using q1
  have q1n : ¬ (k1.kind = 1 ∨ k1.kind = 2) := fun hh => q1 (decide_eq_true hh)
  rw [q1']
  clear q1 q1'
  by_cases q2 : k0.kind = 1
  · have HEq := hid (hE.trans (if_pos (Or.inr q2)))
    have b2 : (k0.kind == 1) = true := beq_iff_eq.2 q2
    clear q1n q2 HE hE HW1
    go_wp2
    (try simp only [Exit.inBlock, Exit.then])
    refine bodyPost_ret (results_cell_row rfl _ _ (w.heap.size + 1) 24 #[.int .i64 k1.kind, .int .i64 k1.num, .slice a1 k1.cnt c1] (0, 0) _ rfl (tri_set HS8.out.rs _ _ _) Tryd.underlying24 rfl (by kernel_rfl)) rfl ?_
    rw [HEq.out]
    have hbf := below_tri (x := w.heap.size + 1) HS8.out.bel (by omega) (.int .i64 k1.kind) (.int .i64 k1.num) (.slice a1 k1.cnt c1)
    exact ⟨a1, c1, rfl, HK1.out.1.below hbf, hbf⟩
  have b2 : (k0.kind == 1) = false := beq_eq_false_iff_ne.2 q2
  rw [if_neg (by rintro (h1 | h1); exact q1n h1; exact q2 h1)] at hE
  by_cases q3 : k0.kind = 2
  · rw [if_pos q3] at hE
    have b3 : (k0.kind == 2) = true := beq_iff_eq.2 q3
    have HEq : Hid (g = slm (on 11 k1)) := by
      have e1 := slm_single (f := on 11 k1) (by have : (on 11 k1).kind = 11 := rfl; rw [this]; omega)
      rw [on_kid] at e1
      have e2 : (on 11 k1).kind = 11 := rfl
      rw [e2] at e1
      refine hid (hE.trans (Eq.trans ?_ e1.symm))
      have hf : fxd k1.kind = false := decide_eq_false q1n
      rw [hf]
      simp
    have C1 := hid (one31_g 11 k1 a1 c1 w8)
    have C2 : Hid (∀ z, Below w8.heap.size w8 z → z.heap[w8.heap.size + 1 + 1]? = some (.cells #[.int .i64 k1.kind, .int .i64 k1.num, .slice a1 k1.cnt c1] 24) → Calls Tryd.prog 34 #[.agg #[.int .i64 11, .int .i64 0, .slice (some ⟨w8.heap.size + 1 + 1, 0, none⟩) 1 1]] z fun e w' => Nq (nw (fun k => p k && decide (k < w.heap.size)) w8) z (slm (on 11 k1)) e w') := fun z hz hx => by
      have hbz := HS8.out.bel.trans (hz.mono HS8.out.bel.size)
      have hk1e : Kds (lim (nw (fun k => p k && decide (k < w.heap.size)) w8) z) k1 a1 := kl_keep HK1.out.1 (fun k h1 h2 => ⟨by simp [nw, h1, h2], hbz.block k h2⟩)
      exact hS (on 11 k1) _ rfl (wf_on (by omega) HW1.out) _ 1 z (kds_on (cap := c1) ((lim_at (by simp [nw]; omega)).trans hx) HK1.out.2 hk1e)
    obtain ⟨sg, hsg⟩ : ∃ y, y = slm (on 11 k1) := ⟨_, rfl⟩
    rw [← hsg] at HEq C2
    clear hE HE q1n q2 q3 hsg HW1
    go_wp2_with fail
    refine C1.out.mono ?_
    rintro e w9 ⟨rfl, hx9, hb9⟩
    have C3 := hid (C2.out w9 hb9 hx9)
    have HB9 : Hid (Below w8.heap.size w8 w9) := hb9
    clear hx9 hb9 C1 C2
    go_wp2_with fail
    refine C3.out.mono ?_
    rintro e w10 ⟨a10, c10, rfl, hk10, hb10⟩
    have hb8' := HB9.out.trans (hb10.mono HB9.out.size)
    have HS9 := hid (HS8.out.below hb8')
    clear f0 f1 f2 r0 r1 r2 z0 z1 z2 v0 v1 v2 s0 s1 s2 hltr
    obtain ⟨⟨r0, r1, r2⟩, z0, z1, z2⟩ := tri_cells HS9.out.rs
    have hltr := HS9.out.rs.lt
    have HK10 := hid hk10
    have HSZ : Hid (w.heap.size + 1 + 1 + 1 < w8.heap.size ∧ w8.heap.size ≤ w9.heap.size) := ⟨HS8.out.kb.lt, HB9.out.size⟩
    clear hk10 hb10 hb8' C3
    go_wp2
    (try simp only [Exit.inBlock, Exit.then])
    refine bodyPost_ret (results_cell_row rfl _ _ (w.heap.size + 1) 24 #[.int .i64 sg.kind, .int .i64 sg.num, .slice a10 sg.cnt c10] (0, 0) _ rfl (tri_set HS9.out.rs _ _ _) Tryd.underlying24 rfl (by kernel_rfl)) rfl ?_
    rw [HEq.out]
    refine ⟨a10, c10, rfl, kl_keep HK10.out (fun k h1 _ => ?_), below_tri HS9.out.bel (by omega) _ _ _⟩
    have hsz := HSZ.out
    simp only [nw, Bool.or_eq_true, Bool.and_eq_true, decide_eq_true_eq] at h1 ⊢
    rcases h1 with (⟨h1, h2⟩ | h1) | h1
    · exact ⟨Or.inl h1, blk_tri (by omega) _ _ _⟩
    · exact ⟨Or.inr (by omega), blk_tri (by omega) _ _ _⟩
    · exact ⟨Or.inr (by omega), blk_tri (by omega) _ _ _⟩
  have b3 : (k0.kind == 2) = false := beq_eq_false_iff_ne.2 q3
  rw [if_neg q3] at hE
  have C := hid (same17 k0 k1 a0 a1 c0 c1 w8 (HK0.out.1.out.below HS8.out.bel) (HK1.out.1.out.below HS8.out.bel) HK0.out.2 HK1.out.2)
  by_cases q5 : same k0 k1 = true
  · have HEq := hid (hE.trans (if_pos q5))
    rw [q5] at C
    clear q1n q2 q3 q5 HE hE HW1
    go_wp2_with fail
    refine C.out.mono ?_
    rintro e wz ⟨rfl, hbz⟩
    have HSz := hid (HS8.out.below hbz)
    clear f0 f1 f2 r0 r1 r2 z0 z1 z2 v0 v1 v2 s0 s1 s2 hltr hbz C
    obtain ⟨⟨r0, r1, r2⟩, z0, z1, z2⟩ := tri_cells HSz.out.rs
    obtain ⟨⟨s0, s1, s2⟩, -⟩ := tri_cells HSz.out.kb
    have hltr := HSz.out.rs.lt
    go_wp2
    (try simp only [Exit.inBlock, Exit.then])
    refine bodyPost_ret (results_cell_row rfl _ _ (w.heap.size + 1) 24 #[.int .i64 k1.kind, .int .i64 k1.num, .slice a1 k1.cnt c1] (0, 0) _ rfl (tri_set HSz.out.rs _ _ _) Tryd.underlying24 rfl (by kernel_rfl)) rfl ?_
    rw [HEq.out]
    have hbf := below_tri (x := w.heap.size + 1) HSz.out.bel (by omega) (.int .i64 k1.kind) (.int .i64 k1.num) (.slice a1 k1.cnt c1)
    exact ⟨a1, c1, rfl, HK1.out.1.below hbf, hbf⟩
  · have HEq := hid (hE.trans (if_neg q5))
    have q5' : same k0 k1 = false := by simpa using q5
    rw [q5'] at C
    clear q1n q2 q3 q5 q5' HE hE HW1
    go_wp2_with fail
    refine C.out.mono ?_
    rintro e wz ⟨rfl, hbz⟩
    have HSz := hid (HS8.out.below hbz)
    have hcf := HCC.out
    clear f0 f1 f2 r0 r1 r2 z0 z1 z2 v0 v1 v2 s0 s1 s2 hltr hbz C
    obtain ⟨⟨r0, r1, r2⟩, z0, z1, z2⟩ := tri_cells HSz.out.rs
    obtain ⟨⟨f0, f1, f2⟩, -⟩ := tri_cells HSz.out.bx
    have hltr := HSz.out.rs.lt
    rw [hcf] at f2
    clear hcf
    go_wp2
    (try simp only [Exit.inBlock, Exit.then])
    refine bodyPost_ret (results_cell_row rfl _ _ (w.heap.size + 1) 24 #[.int .i64 f.kind, .int .i64 f.num, .slice (some ⟨b, o, none⟩) 2 cap] (0, 0) _ rfl (tri_set HSz.out.rs _ _ _) Tryd.underlying24 rfl (by kernel_rfl)) rfl ?_
    rw [HEq.out]
    have hbf := below_tri (x := w.heap.size + 1) HSz.out.bel (by omega) (.int .i64 f.kind) (.int .i64 f.num) (.slice (some ⟨b, o, none⟩) 2 cap)
    rw [← HCC.out] at hbf ⊢
    exact ⟨(some ⟨b, o, none⟩), cap, rfl, HKF.out.below hbf, hbf⟩

/-- slimmer of right parts. -/
theorem slr : Slr := by
  intro f p a cap w hw h
  have hq := fit_cases hw.out.1
  by_cases k4 : f.kind = 4
  · exact sr4 p hw k4 (by omega) a cap w h
  by_cases k5 : f.kind = 5
  · exact sr5 p k5 (by omega) a cap w h
  by_cases k6 : f.kind = 6
  · exact sr6 p k6 (by omega) a cap w h
  by_cases k7 : f.kind = 7
  · exact sr7 p k7 (by omega) a cap w h
  by_cases k10 : f.kind = 10
  · exact sr10 p k10 (by omega) a cap w h
  by_cases k11 : f.kind = 11
  · exact sr11 p k11 (by omega) a cap w h
  by_cases k8 : f.kind = 8
  · refine sr8 p hw (fun f p hk hwf a cap w h => ?_) k8 (by omega) a cap w h
    have := fit_cases hwf.out.1
    exact sr10 p hk (by omega) a cap w h
  by_cases k9 : f.kind = 9
  · refine sr9 p hw (fun f p hk hwf a cap w h => ?_) k9 (by omega) a cap w h
    have := fit_cases hwf.out.1
    exact sr11 p hk (by omega) a cap w h
  · exact sro p (by omega) (by omega) a cap w h

end Go.Proofs.YtinacgkiigbmjaaDoor
