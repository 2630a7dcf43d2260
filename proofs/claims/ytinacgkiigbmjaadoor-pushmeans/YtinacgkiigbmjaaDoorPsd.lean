/- pushed. -/
import Derived.Test.YtinacgkiigbmjaaDoorWk
import Derived.Test.YtinacgkiigbmjaaDoorPsh2
namespace Go.Proofs.YtinacgkiigbmjaaDoor
open Go.RowKit

/-- The table of opposite Kinds lies in block g. -/
def opA (g : Nat) (w : World) : Prop := ∀ k : Nat, 1 ≤ k → k ≤ 11 → w.cell? ⟨g, k, none⟩ = some (.int .i64 (opp k))
theorem opA.lt {g : Nat} {w : World} (h : opA g w) : g < w.heap.size := World.block_lt_of_cell? _ _ (h 1 (by omega) (by omega))
theorem opA.below {g : Nat} {w w' : World} (h : opA g w) (hb : Below w.heap.size w w') : opA g w' := fun k h1 h2 => below_cell hb (Nat.le_refl _) (h k h1 h2)

/-- What pushed answers of a formula. -/
def Pu (t : Fml) : Prop := ∀ (b : Bool) (a : Option Addr) (cap : Nat) (w : World), opA 1 w → Kds w t a → Calls Tryd.prog 28 #[.agg #[.int .i64 t.kind, .int .i64 t.num, .slice a t.cnt cap], .bool b] w fun e w' => Nk w.heap.size w (nt t b) e w'

set_option maxHeartbeats 2000000 in
theorem cl42 {t : Fml} (h : Pu t) (b : Bool) (x : Nat) (a : Option Addr) (cap : Nat) (w : World) (ho : opA 1 w) (hx : w.cell? ⟨x, 0, none⟩ = some (.bool b)) (hk : Kds w t a) :
    Calls Tryd.prog 42 #[.agg #[.int .i64 t.kind, .int .i64 t.num, .slice a t.cnt cap], .pointer (some ⟨x, 0, none⟩)] w fun e w' => Nk w.heap.size w (nt t b) e w' := by
  obtain ⟨u, hu⟩ : ∃ y, y = (w.alloc (.cells #[.int .i64 t.kind, .int .i64 t.num, .slice a t.cnt cap] 24)).alloc (.cells #[.int .i64 0, .int .i64 0, .slice none 0 0] 24) := ⟨_, rfl⟩
  have hs : u.heap.size = w.heap.size + 1 + 1 := by rw [hu]; simp
  have hB : Below w.heap.size w u := by rw [hu]; exact ((Below.refl _ _).alloc (Nat.le_refl _) _).alloc (by simp) _
  have hT : Tri u (w.heap.size + 1) (.int .i64 0) (.int .i64 0) (.slice none 0 0) := by
    rw [hu, show w.heap.size + 1 = (w.alloc (.cells #[.int .i64 t.kind, .int .i64 t.num, .slice a t.cnt cap] 24)).heap.size by simp]
    exact tri_new _ _ _ _
  have C := hid (h b a cap u (ho.below hB) (hk.below hB))
  have hxu := below_cell hB (Nat.le_refl _) hx
  have hxl : x < w.heap.size := World.block_lt_of_cell? _ _ hx
  have HU := hid hu
  have HX : Hid (u.heap.size = w.heap.size + 1 + 1 ∧ Below w.heap.size w u ∧ Tri u (w.heap.size + 1) (.int .i64 0) (.int .i64 0) (.slice none 0 0)) := ⟨hs, hB, hT⟩
  generalize nt t b = g at *
  clear hu hs hB hT h ho hk
  go_enter Tryd.func42, Tryd.ntmps42
  go_wp2_with fail
  rw [← HU.out]
  refine C.out.mono ?_
  rintro e w3 ⟨a3, c3, rfl, hk3, hb3⟩
  have hT3 := HX.out.2.2.below hb3
  have H3 : Hid (Kn u.heap.size w3 g a3 ∧ Below w.heap.size w w3 ∧ Tri w3 (w.heap.size + 1) (.int .i64 0) (.int .i64 0) (.slice none 0 0)) := ⟨hk3, HX.out.2.1.trans (hb3.mono HX.out.2.1.size), hT3⟩
  obtain ⟨⟨r0, r1, r2⟩, z0, z1, z2⟩ := tri_cells hT3
  have hlt := hT3.lt
  clear hk3 hb3 hT3 C HU hxu hx
  go_wp2
  (try simp only [Exit.inBlock, Exit.then])
  refine bodyPost_ret (results_cell_row rfl _ _ (w.heap.size + 1) 24 #[.int .i64 g.kind, .int .i64 g.num, .slice a3 g.cnt c3] (0, 0) _ rfl (tri_set H3.out.2.2 _ _ _) Tryd.underlying24 rfl (by kernel_rfl)) rfl ?_
  exact ⟨a3, c3, rfl, H3.out.1.keep (by have := HX.out.1; omega) (fun y h1 _ => blk_tri (by have := HX.out.1; omega) _ _ _), below_tri H3.out.2.1 (by omega) _ _ _⟩

theorem three_new (w : World) (x : Array Value) (tx : TypeId) (y : Array Value) (ty : TypeId) : ∀ z u, u = ((w.alloc (.cells x tx)).alloc (.cells y ty)).alloc (.cells z 24) → u.heap.size = w.heap.size + 1 + 1 + 1 ∧ Below w.heap.size w u ∧ u.heap[w.heap.size]? = some (.cells x tx) ∧ u.heap[w.heap.size + 1]? = some (.cells y ty) ∧ u.heap[w.heap.size + 1 + 1]? = some (.cells z 24) := by
  rintro z u rfl
  have e1 : (w.alloc (.cells x tx)).heap.size = w.heap.size + 1 := by simp
  have e2 : ((w.alloc (.cells x tx)).alloc (.cells y ty)).heap.size = w.heap.size + 1 + 1 := by simp
  refine ⟨by simp, (((Below.refl _ _).alloc (Nat.le_refl _) _).alloc (by rw [e1]; omega) _).alloc (by rw [e2]; omega) _, ?_, ?_, ?_⟩
  · exact alloc_old _ (alloc_old _ (alloc_last _ rfl))
  · exact alloc_old _ (alloc_last _ e1)
  · exact alloc_last _ e2

set_option maxHeartbeats 4000000 in
theorem pu_same {t : Fml} (ih : ∀ i, i < t.cnt → Pu (t.kid i)) (hw : Wf t) (h4 : t.kind ≠ 4) (a : Option Addr) (cap : Nat) (w : World) (ho : opA 1 w) (hk : Kds w t a) :
    Calls Tryd.prog 28 #[.agg #[.int .i64 t.kind, .int .i64 t.num, .slice a t.cnt cap], .bool false] w fun e w' => Nk w.heap.size w (mkn t.kind t.num t.cnt (fun i => nt (t.kid i) false)) e w' := by
  obtain ⟨u, hu⟩ : ∃ y, y = ((w.alloc (.cells #[.int .i64 t.kind, .int .i64 t.num, .slice a t.cnt cap] 24)).alloc (.cells #[.bool false] 4)).alloc (.cells #[.int .i64 0, .int .i64 0, .slice none 0 0] 24) := ⟨_, rfl⟩
  obtain ⟨hs, hB, hT1, hT2, hT3⟩ := three_new w _ _ _ _ _ _ hu
  have HX : Hid (u.heap.size = w.heap.size + 1 + 1 + 1 ∧ Below w.heap.size w u ∧ Tri u (w.heap.size + 1 + 1) (.int .i64 0) (.int .i64 0) (.slice none 0 0)) := ⟨hs, hB, hT3⟩
  have hbx : u.cell? ⟨w.heap.size + 1, 0, none⟩ = some (.bool false) := cell_of_cells hT2 rfl
  obtain ⟨bb, o, ha, hkid⟩ := hk.out
  have C : Hid (Calls Tryd.prog 41 #[.agg #[.int .i64 t.kind, .int .i64 t.num, .slice a t.cnt cap], .func (.func 42) #[] #[.pointer (some ⟨w.heap.size + 1, 0, none⟩)]] u fun e w' => Nk u.heap.size u (mkn t.kind t.num t.cnt (fun i => nt (t.kid i) false)) e w') := by
    refine withKids42 (.pointer (some ⟨w.heap.size + 1, 0, none⟩)) (b := bb) (o := o) (kid := t.kid) ha (wf_cnt hw) (fun i hi => ?_) (fun i hi => wf_big (nt_shape _ (hw.out.2 i hi) false).1) (fun i hi ai ci z hz hkz => ?_)
    · obtain ⟨ai, ci, e1, e2, e3, e4, e5⟩ := hkid i hi
      exact ⟨ai, ci, below_cell hB (Nat.le_refl _) e1, below_cell hB (Nat.le_refl _) e2, below_cell hB (Nat.le_refl _) e3, e4, e5.below hB⟩
    · exact cl42 (ih i hi) false _ ai ci z ((ho.below hB).below hz) (below_cell hz (Nat.le_refl _) hbx) hkz
  have HU := hid hu
  have h4b : (t.kind == 4) = false := beq_eq_false_iff_ne.2 h4
  generalize mkn t.kind t.num t.cnt (fun i => nt (t.kid i) false) = g at *
  clear hu hs hB hT1 hT2 hT3 ih hw hk ho ha hkid h4
  go_enter Tryd.func28, Tryd.ntmps28
  go_wp2_with fail
  rw [← HU.out]
  refine C.out.mono ?_
  rintro e w3 ⟨a3, c3, rfl, hk3, hb3⟩
  have hT3 := HX.out.2.2.below hb3
  have H3 : Hid (Kn u.heap.size w3 g a3 ∧ Below w.heap.size w w3 ∧ Tri w3 (w.heap.size + 1 + 1) (.int .i64 0) (.int .i64 0) (.slice none 0 0)) := ⟨hk3, HX.out.2.1.trans (hb3.mono HX.out.2.1.size), hT3⟩
  obtain ⟨⟨r0, r1, r2⟩, z0, z1, z2⟩ := tri_cells hT3
  have hlt := hT3.lt
  clear hk3 hb3 hT3
  clear C HU hbx
  go_wp2
  (try simp only [Exit.inBlock, Exit.then])
  refine bodyPost_ret (results_cell_row rfl _ _ (w.heap.size + 1 + 1) 24 #[.int .i64 g.kind, .int .i64 g.num, .slice a3 g.cnt c3] (0, 0) _ rfl (tri_set H3.out.2.2 _ _ _) Tryd.underlying24 rfl (by kernel_rfl)) rfl ?_
  exact ⟨a3, c3, rfl, H3.out.1.keep (by have := HX.out.1; omega) (fun y h1 _ => blk_tri (by have := HX.out.1; omega) _ _ _), below_tri H3.out.2.1 (by omega) _ _ _⟩

set_option maxHeartbeats 4000000 in
theorem pu_opp {t : Fml} (ih : ∀ i, i < t.cnt → Pu (t.kid i)) (hw : Wf t) (h4 : t.kind ≠ 4) (h3 : t.kind ≠ 3) (a : Option Addr) (cap : Nat) (w : World) (ho : opA 1 w) (hk : Kds w t a) :
    Calls Tryd.prog 28 #[.agg #[.int .i64 t.kind, .int .i64 t.num, .slice a t.cnt cap], .bool true] w fun e w' => Nk w.heap.size w (mkn (opp t.kind) t.num t.cnt (fun i => nt (t.kid i) true)) e w' := by
  have hq := fit_cases hw.out.1
  obtain ⟨q, hq1⟩ : ∃ q : Nat, t.kind = q := ⟨t.kind.toNat, by omega⟩
  have hqc := ho q (by omega) (by omega)
  obtain ⟨oq, hoq⟩ : ∃ y, y = opp t.kind := ⟨_, rfl⟩
  rw [← hq1, ← hoq] at hqc
  rw [← hoq]
  obtain ⟨u, hu⟩ : ∃ y, y = ((w.alloc (.cells #[.int .i64 oq, .int .i64 t.num, .slice a t.cnt cap] 24)).alloc (.cells #[.bool true] 4)).alloc (.cells #[.int .i64 0, .int .i64 0, .slice none 0 0] 24) := ⟨_, rfl⟩
  obtain ⟨hs, hB, hT1, hT2, hT3⟩ := three_new w _ _ _ _ _ _ hu
  have HX : Hid (u.heap.size = w.heap.size + 1 + 1 + 1 ∧ Below w.heap.size w u ∧ Tri u (w.heap.size + 1 + 1) (.int .i64 0) (.int .i64 0) (.slice none 0 0)) := ⟨hs, hB, hT3⟩
  have hbx : u.cell? ⟨w.heap.size + 1, 0, none⟩ = some (.bool true) := cell_of_cells hT2 rfl
  obtain ⟨bb, o, ha, hkid⟩ := hk.out
  have C : Hid (Calls Tryd.prog 41 #[.agg #[.int .i64 oq, .int .i64 t.num, .slice a t.cnt cap], .func (.func 42) #[] #[.pointer (some ⟨w.heap.size + 1, 0, none⟩)]] u fun e w' => Nk u.heap.size u (mkn oq t.num t.cnt (fun i => nt (t.kid i) true)) e w') := by
    refine withKids42 (.pointer (some ⟨w.heap.size + 1, 0, none⟩)) (b := bb) (o := o) (kid := t.kid) ha (wf_cnt hw) (fun i hi => ?_) (fun i hi => wf_big (nt_shape _ (hw.out.2 i hi) true).1) (fun i hi ai ci z hz hkz => ?_)
    · obtain ⟨ai, ci, e1, e2, e3, e4, e5⟩ := hkid i hi
      exact ⟨ai, ci, below_cell hB (Nat.le_refl _) e1, below_cell hB (Nat.le_refl _) e2, below_cell hB (Nat.le_refl _) e3, e4, e5.below hB⟩
    · exact cl42 (ih i hi) true _ ai ci z ((ho.below hB).below hz) (below_cell hz (Nat.le_refl _) hbx) hkz
  have HU := hid hu
  have hq12 : (q : Int) < 12 := by omega
  have hq0 : (0 : Int) ≤ q := by omega
  have hg1 : 1 < w.heap.size := ho.lt
  have hg0 : 0 < w.heap.size := by omega
  have h4b : ((q : Int) == 4) = false := beq_eq_false_iff_ne.2 (by omega)
  have h3b : ((q : Int) == 3) = false := beq_eq_false_iff_ne.2 (by omega)
  rw [hq1]
  generalize mkn oq t.num t.cnt (fun i => nt (t.kid i) true) = g at *
  clear hu hs hB hT1 hT2 hT3 ih hw hk ho ha hkid hq hq1 hoq h4 h3
  go_enter Tryd.func28, Tryd.ntmps28
  go_wp2_with fail
  rw [← HU.out]
  refine C.out.mono ?_
  rintro e w3 ⟨a3, c3, rfl, hk3, hb3⟩
  have hT3 := HX.out.2.2.below hb3
  have H3 : Hid (Kn u.heap.size w3 g a3 ∧ Below w.heap.size w w3 ∧ Tri w3 (w.heap.size + 1 + 1) (.int .i64 0) (.int .i64 0) (.slice none 0 0)) := ⟨hk3, HX.out.2.1.trans (hb3.mono HX.out.2.1.size), hT3⟩
  obtain ⟨⟨r0, r1, r2⟩, z0, z1, z2⟩ := tri_cells hT3
  have hlt := hT3.lt
  clear hk3 hb3 hT3
  clear C HU hbx
  go_wp2
  (try simp only [Exit.inBlock, Exit.then])
  refine bodyPost_ret (results_cell_row rfl _ _ (w.heap.size + 1 + 1) 24 #[.int .i64 g.kind, .int .i64 g.num, .slice a3 g.cnt c3] (0, 0) _ rfl (tri_set H3.out.2.2 _ _ _) Tryd.underlying24 rfl (by kernel_rfl)) rfl ?_
  exact ⟨a3, c3, rfl, H3.out.1.keep (by have := HX.out.1; omega) (fun y h1 _ => blk_tri (by have := HX.out.1; omega) _ _ _), below_tri H3.out.2.1 (by omega) _ _ _⟩

set_option maxHeartbeats 4000000 in
theorem pu_not {t : Fml} (ih : ∀ i, i < t.cnt → Pu (t.kid i)) (hw : Wf t) (h4 : t.kind = 4) (b : Bool) (a : Option Addr) (cap : Nat) (w : World) (ho : opA 1 w) (hk : Kds w t a) :
    Calls Tryd.prog 28 #[.agg #[.int .i64 t.kind, .int .i64 t.num, .slice a t.cnt cap], .bool b] w fun e w' => Nk w.heap.size w (nt (t.kid 0) (!b)) e w' := by
  have hq := fit_cases hw.out.1
  have hc : t.cnt = 1 := by omega
  obtain ⟨u, hu⟩ : ∃ y, y = ((w.alloc (.cells #[.int .i64 t.kind, .int .i64 t.num, .slice a t.cnt cap] 24)).alloc (.cells #[.bool b] 4)).alloc (.cells #[.int .i64 0, .int .i64 0, .slice none 0 0] 24) := ⟨_, rfl⟩
  obtain ⟨hs, hB, hT1, hT2, hT3⟩ := three_new w _ _ _ _ _ _ hu
  have HX : Hid (u.heap.size = w.heap.size + 1 + 1 + 1 ∧ Below w.heap.size w u ∧ Tri u (w.heap.size + 1 + 1) (.int .i64 0) (.int .i64 0) (.slice none 0 0)) := ⟨hs, hB, hT3⟩
  obtain ⟨bb, o, ha, hkid⟩ := hk.out
  obtain rfl := ha (by omega)
  obtain ⟨ai, ci, e1, e2, e3, e4, e5⟩ := hkid 0 (by omega)
  have f1 := below_cell hB (Nat.le_refl _) e1
  have f2 := below_cell hB (Nat.le_refl _) e2
  have f3 := below_cell hB (Nat.le_refl _) e3
  obtain ⟨⟨v0, v1, v2⟩, -⟩ := tri_cells hT1
  have vb : u.cell? ⟨w.heap.size + 1, 0, none⟩ = some (.bool b) := cell_of_cells hT2 rfl
  have C : Hid (∀ z, Below u.heap.size u z → Calls Tryd.prog 28 #[.agg #[.int .i64 (t.kid 0).kind, .int .i64 (t.kid 0).num, .slice ai (t.kid 0).cnt ci], .bool (!b)] z fun e w' => Nk z.heap.size z (nt (t.kid 0) (!b)) e w') := fun z hz => ih 0 (by omega) (!b) ai ci z ((ho.below hB).below hz) ((e5.below hB).below hz)
  have HU := hid hu
  rw [hc] at v2 HU ⊢
  rw [h4] at v0 HU ⊢
  generalize nt (t.kid 0) (!b) = g at *
  generalize t.kid 0 = kk at *
  simp only [Nat.zero_mul, Nat.add_zero] at f1 f2 f3
  clear hu hs hB hT1 hT2 hT3 ih hw hk ho ha hkid e1 e2 e3 e4 e5 hq h4 hc
  go_enter Tryd.func28, Tryd.ntmps28
  go_wp2
  rw [← HU.out]
  refine G_region (fun z => z.cell? ⟨w.heap.size, 2, none⟩ = some (.slice (some ⟨bb, o, none⟩) 1 cap) ∧ z.cell? ⟨bb, o, none⟩ = some (.int .i64 kk.kind) ∧ z.cell? ⟨bb, o + 1, none⟩ = some (.int .i64 kk.num) ∧ z.cell? ⟨bb, o + 2, none⟩ = some (.slice ai kk.cnt ci) ∧ z.cell? ⟨w.heap.size + 1, 0, none⟩ = some (.bool b)) (fun j => j == 7) (by kernel_rfl) ⟨v2, f1, f2, f3, vb⟩ (fun hHeld => ?_)
  refine G_take (i := 0) (oi := { dst := some 9, op := Op.fieldAddr 24 (Operand.tmp 2) 2, type := 0, pos := _, after := #[], guard := none }) (v := .pointer (some ⟨w.heap.size, 2, none⟩)) rfl (by kernel_rfl) (by kernel_rfl) (by kernel_rfl) (by kernel_rfl) (fun _ _ _ h => h) (by rfl) (fun u hu => ?_) hHeld ?_
  · (try dsimp only at hu); go_simp
  (try simp only [Act.put, List.setIfInBounds_toArray, List.set_cons_zero, List.set_cons_succ])
  refine G_take (i := 1) (oi := { dst := some 10, op := Op.load 22 (Operand.tmp 9), type := 22, pos := _, after := #[{ on := 0, ground := Ground.data }], guard := none }) (v := .slice (some ⟨bb, o, none⟩) 1 cap) rfl (by kernel_rfl) (by kernel_rfl) (by kernel_rfl) (by kernel_rfl) (fun _ _ _ h => h) (by rfl) (fun u hu => ?_) hHeld ?_
  · (try dsimp only at hu); go_simp
  (try simp only [Act.put, List.setIfInBounds_toArray, List.set_cons_zero, List.set_cons_succ])
  refine G_take (i := 2) (oi := { dst := some 11, op := Op.indexAddr 22 (Operand.tmp 10) (Operand.const (Value.int IntKind.i64 0)), type := 0, pos := _, after := #[{ on := 1, ground := Ground.data }], guard := none }) (v := .pointer (some ⟨bb, o, none⟩)) rfl (by kernel_rfl) (by kernel_rfl) (by kernel_rfl) (by kernel_rfl) (fun _ _ _ h => h) (by rfl) (fun u hu => ?_) hHeld ?_
  · (try dsimp only at hu); go_simp
  (try simp only [Act.put, List.setIfInBounds_toArray, List.set_cons_zero, List.set_cons_succ])
  refine G_take (i := 3) (oi := { dst := some 12, op := Op.load 24 (Operand.tmp 11), type := 24, pos := _, after := #[{ on := 2, ground := Ground.data }], guard := none }) (v := .agg #[.int .i64 kk.kind, .int .i64 kk.num, .slice ai kk.cnt ci]) rfl (by kernel_rfl) (by kernel_rfl) (by kernel_rfl) (by kernel_rfl) (fun _ _ _ h => h) (by rfl) (fun u hu => ?_) hHeld ?_
  · (try dsimp only at hu); go_simp
  (try simp only [Act.put, List.setIfInBounds_toArray, List.set_cons_zero, List.set_cons_succ])
  refine G_take (i := 4) (oi := { dst := some 13, op := Op.load 4 (Operand.tmp 3), type := 4, pos := _, after := #[], guard := none }) (v := .bool b) rfl (by kernel_rfl) (by kernel_rfl) (by kernel_rfl) (by kernel_rfl) (fun _ _ _ h => h) (by rfl) (fun u hu => ?_) hHeld ?_
  · (try dsimp only at hu); go_simp
  (try simp only [Act.put, List.setIfInBounds_toArray, List.set_cons_zero, List.set_cons_succ])
  refine G_take (i := 5) (oi := { dst := some 14, op := Op.unOp UnOp.not 4 (Operand.tmp 13), type := 4, pos := _, after := #[{ on := 4, ground := Ground.data }], guard := none }) (v := .bool (!b)) rfl (by kernel_rfl) (by kernel_rfl) (by kernel_rfl) (by kernel_rfl) (fun _ _ _ h => h) (by rfl) (fun u hu => ?_) hHeld ?_
  · (try dsimp only at hu); go_simp
  (try simp only [Act.put, List.setIfInBounds_toArray, List.set_cons_zero, List.set_cons_succ])
  refine G_step (i := 6) (o := { dst := some 15, op := Op.call { callee := Callee.value (Operand.func 28), args := #[Operand.tmp 12, Operand.tmp 14], argTypes := #[24, 4] }, type := 24, pos := _, after := #[{ on := 3, ground := Ground.data }, { on := 5, ground := Ground.data }], guard := none }) (by kernel_rfl) rfl (fun K' hK => ?_)
  go_simp
  go_at_call 28
  refine (C.out _ (below_drewN (Below.refl _ _) 1)).mono ?_
  rintro e w3 ⟨a3, c3, rfl, hk3, hb3⟩
  dsimp only
  have hb3 := below_of_drew hb3
  refine hK.out _ _ (fun _ => ?_) (fun hS2 => ?_)
  · exact ⟨below_cell hb3 (Nat.le_refl _) v2, below_cell hb3 (Nat.le_refl _) f1, below_cell hb3 (Nat.le_refl _) f2, below_cell hb3 (Nat.le_refl _) f3, below_cell hb3 (Nat.le_refl _) vb⟩
  clear hK K' hS2 hHeld
  (try simp only [Act.put, List.setIfInBounds_toArray, List.set_cons_zero, List.set_cons_succ])
  have hk3 : Kn u.heap.size w3 g a3 := hk3
  have hT3 := HX.out.2.2.below hb3
  have H3 : Hid (Kn u.heap.size w3 g a3 ∧ Below w.heap.size w w3 ∧ Tri w3 (w.heap.size + 1 + 1) (.int .i64 0) (.int .i64 0) (.slice none 0 0)) := ⟨hk3, HX.out.2.1.trans (hb3.mono HX.out.2.1.size), hT3⟩
  obtain ⟨⟨r0, r1, r2⟩, z0, z1, z2⟩ := tri_cells hT3
  have hlt := hT3.lt
  clear hk3 hb3 hT3
  refine G_step (i := 7) (o := { dst := none, op := Op.store 24 (Operand.tmp 4) (Operand.tmp 15), type := 0, pos := _, after := #[{ on := 6, ground := Ground.data }, { on := 6, ground := Ground.chain }, { on := 0, ground := Ground.phase }, { on := 1, ground := Ground.phase }, { on := 2, ground := Ground.phase }, { on := 3, ground := Ground.phase }, { on := 4, ground := Ground.phase }, { on := 5, ground := Ground.phase }, { on := 6, ground := Ground.phase }], guard := none }) (by kernel_rfl) rfl (fun K' hK => ?_)
  go_simp
  refine hK.out _ _ (fun h => absurd h (by decide)) (fun _ => ?_)
  clear hK K'
  (try simp only [Act.put, List.setIfInBounds_toArray, List.set_cons_zero, List.set_cons_succ])
  refine G_done (by kernel_rfl) ?_ _
  clear C HU f1 f2 f3 v0 v1 v2 vb
  go_wp2
  (try simp only [Exit.inBlock, Exit.then])
  refine bodyPost_ret (results_cell_row rfl _ _ (w.heap.size + 1 + 1) 24 #[.int .i64 g.kind, .int .i64 g.num, .slice a3 g.cnt c3] (0, 0) _ rfl (tri_set H3.out.2.2 _ _ _) Tryd.underlying24 rfl (by kernel_rfl)) rfl ?_
  exact ⟨a3, c3, rfl, H3.out.1.keep (by have := HX.out.1; omega) (fun y h1 _ => blk_tri (by have := HX.out.1; omega) _ _ _), below_tri H3.out.2.1 (by omega) _ _ _⟩

set_option maxHeartbeats 4000000 in
theorem pu_atom {t : Fml} (hw : Wf t) (h3 : t.kind = 3) (a : Option Addr) (cap : Nat) (w : World) (ho : opA 1 w) (hk : Kds w t a) :
    Calls Tryd.prog 28 #[.agg #[.int .i64 t.kind, .int .i64 t.num, .slice a t.cnt cap], .bool true] w fun e w' => Nk w.heap.size w (on 4 (nd 3 t.num)) e w' := by
  have hq := fit_cases hw.out.1
  have hc : t.cnt = 0 := by omega
  obtain ⟨u, hu⟩ : ∃ y, y = ((w.alloc (.cells #[.int .i64 t.kind, .int .i64 t.num, .slice a t.cnt cap] 24)).alloc (.cells #[.bool true] 4)).alloc (.cells #[.int .i64 0, .int .i64 0, .slice none 0 0] 24) := ⟨_, rfl⟩
  obtain ⟨hs, hB, hT1, hT2, hT3⟩ := three_new w _ _ _ _ _ _ hu
  have HX : Hid (u.heap.size = w.heap.size + 1 + 1 + 1 ∧ Below w.heap.size w u ∧ Tri u (w.heap.size + 1 + 1) (.int .i64 0) (.int .i64 0) (.slice none 0 0)) := ⟨hs, hB, hT3⟩
  have C : Hid (Calls Tryd.prog 28 #[.agg #[.int .i64 t.kind, .int .i64 t.num, .slice a t.cnt cap], .bool false] u fun e w' => Nk u.heap.size u (nd 3 t.num) e w') := by
    have := pu_same (t := t) (fun i hi => absurd hi (by omega)) hw (by omega) a cap u (ho.below hB) (hk.below hB)
    have e : mkn t.kind t.num t.cnt (fun i => nt (t.kid i) false) = nd 3 t.num := fml_ext h3 rfl hc (fun i hi => absurd (show i < t.cnt from hi) (by omega))
    rw [e] at this
    exact this
  have HU := hid hu
  rw [hc] at C HU ⊢
  rw [h3] at C HU ⊢
  generalize t.num = n at *
  clear hu hs hB hT1 hT2 hT3 hw hk ho hq h3 hc
  go_enter Tryd.func28, Tryd.ntmps28
  go_wp2_with fail
  rw [← HU.out]
  refine C.out.mono ?_
  rintro e w2 ⟨a2, c2, rfl, hk2, hb2⟩
  obtain ⟨w2', hw2'⟩ : ∃ y, y = w2.alloc (.cells #[.int .i64 3, .int .i64 n, .slice a2 0 c2] 24) := ⟨_, rfl⟩
  have hb2' : Below w2.heap.size w2 w2' := by rw [hw2']; exact box_below _ _
  have hx2 : w2'.heap[w2.heap.size]? = some (.cells #[.int .i64 3, .int .i64 n, .slice a2 0 c2] 24) := by rw [hw2']; exact Go.Deep.blk_alloc_new _ _
  have hk2' : Kn u.heap.size w2' (on 4 (nd 3 n)) (some ⟨w2.heap.size, 0, none⟩) := kn_on (t := nd 3 n) (cap := c2) hb2.size hx2 (Nat.zero_le _) (hk2.below hb2')
  have HW := hid hw2'
  have H2 : Hid (Kn u.heap.size w2' (on 4 (nd 3 n)) (some ⟨w2.heap.size, 0, none⟩) ∧ Below u.heap.size u w2') := ⟨hk2', hb2.trans (hb2'.mono hb2.size)⟩
  have C2 := hid (part_g 4 (some ⟨w2.heap.size, 0, none⟩) 1 1 w2')
  have ek : (nd 3 n).kind = 3 := rfl
  have en : (nd 3 n).num = n := rfl
  have ec : (nd 3 n).cnt = 0 := rfl
  simp only [ek, en, ec]
  clear hk2 hb2 hw2' hb2' hx2 hk2' C ek en ec HU
  go_wp2_with fail
  rw [← HW.out]
  refine C2.out.mono ?_
  rintro e w3 ⟨rfl, hb3⟩
  have hk3 := H2.out.1.below hb3
  have hb3 := H2.out.2.trans (hb3.mono H2.out.2.size)
  obtain ⟨a3, ha3⟩ : ∃ y : Option Addr, y = some ⟨w2.heap.size, 0, none⟩ := ⟨_, rfl⟩
  rw [← ha3] at hk3 ⊢
  have hT3 := HX.out.2.2.below hb3
  have H3 : Hid (Kn u.heap.size w3 (on 4 (nd 3 n)) a3 ∧ Below w.heap.size w w3 ∧ Tri w3 (w.heap.size + 1 + 1) (.int .i64 0) (.int .i64 0) (.slice none 0 0)) := ⟨hk3, HX.out.2.1.trans (hb3.mono HX.out.2.1.size), hT3⟩
  obtain ⟨⟨r0, r1, r2⟩, z0, z1, z2⟩ := tri_cells hT3
  have hlt := hT3.lt
  clear hk3 hb3 hT3
  clear C2 HW H2 ha3
  go_wp2
  (try simp only [Exit.inBlock, Exit.then])
  refine bodyPost_ret (results_cell_row rfl _ _ (w.heap.size + 1 + 1) 24 #[.int .i64 (on 4 (nd 3 n)).kind, .int .i64 (on 4 (nd 3 n)).num, .slice a3 (on 4 (nd 3 n)).cnt 1] (0, 0) _ rfl (tri_set H3.out.2.2 _ _ _) Tryd.underlying24 rfl (by kernel_rfl)) rfl ?_
  exact ⟨a3, 1, rfl, H3.out.1.keep (by have := HX.out.1; omega) (fun y h1 _ => blk_tri (by have := HX.out.1; omega) _ _ _), below_tri H3.out.2.1 (by omega) _ _ _⟩

theorem pushed_any : ∀ t, Wf t → Pu t := by
  intro t
  induction t using Fml.ind with
  | h t ih =>
    intro hw b a cap w ho hk
    have ih' : ∀ i, i < t.cnt → Pu (t.kid i) := fun i hi => ih i hi (hw.out.2 i hi)
    rw [nt_wfeq hw]
    unfold ntF
    by_cases h4 : t.kind = 4
    · rw [if_pos h4]
      exact pu_not ih' hw h4 b a cap w ho hk
    rw [if_neg h4]
    by_cases hb : b = false
    · subst hb
      rw [if_pos rfl]
      exact pu_same ih' hw h4 a cap w ho hk
    · have hb1 : b = true := by simpa using hb
      subst hb1
      rw [if_neg (by decide)]
      by_cases h3 : t.kind = 3
      · rw [if_pos h3]
        exact pu_atom hw h3 a cap w ho hk
      · rw [if_neg h3]
        have := pu_opp ih' hw h4 h3 a cap w ho hk
        rw [wf_num hw h3] at this ⊢
        exact this

end Go.Proofs.YtinacgkiigbmjaaDoor
