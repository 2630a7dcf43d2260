/- plain. -/
import Derived.Test.YtmdpbaobihdgkaaGreatDoorSmeJ
set_option linter.unusedSimpArgs false
namespace Go.Proofs.YtmdpbaobihdgkaaGreatDoor
open Go.RowKit
def Pl (t : Fml) : Prop := ∀ (a : Option Addr) (cap : Nat) (w : World), Kds w t a → Calls Tryz.prog 42 #[.agg #[.int .i64 t.kind, .int .i64 t.num, .slice a t.cnt cap]] w fun e w' => Nk w.heap.size w (pn t) e w'
theorem kn_tri {B B' : Nat} {w : World} {t : Fml} {a : Option Addr} {x : Nat} (h : Kn B w t a) (hx : x < B) (hB : B' ≤ B) (u v z : Value) : Kn B' (((w.setCell ⟨x, 0, none⟩ u).setCell ⟨x, 1, none⟩ v).setCell ⟨x, 2, none⟩ z) t a := h.keep hB (fun y h1 _ => blk_tri (by omega) _ _ _)
theorem kn_alloc {B : Nat} {w : World} {t : Fml} {a : Option Addr} (h : Kn B w t a) (o : Obj) : Kn B (w.alloc o) t a := h.below (box_below _ _)
theorem two_new (w : World) (x : Array Value) (tx : TypeId) : ∀ z u, u = (w.alloc (.cells x tx)).alloc (.cells z 24) → u.heap.size = w.heap.size + 1 + 1 ∧ Below w.heap.size w u ∧ u.heap[w.heap.size]? = some (.cells x tx) ∧ u.heap[w.heap.size + 1]? = some (.cells z 24) := by
 rintro z u rfl
 have e1 : (w.alloc (.cells x tx)).heap.size = w.heap.size + 1 := by simp
 exact ⟨by simp, ((Below.refl _ _).alloc jq0 _).alloc (by rw [e1]; omega) _, alloc_old _ (alloc_last _ rfl), alloc_last _ e1⟩
set_option maxHeartbeats 4000000 in
theorem pl_fin {t : Fml} (ih : ∀ i, i < t.cnt → Pl (t.kid i)) (hw : Wf t) (hK : t.kind = 10) (a : Option Addr) (cap : Nat) (w : World) (hk : Kds w t a) :
  Calls Tryz.prog 42 #[.agg #[.int .i64 t.kind, .int .i64 t.num, .slice a t.cnt cap]] w fun e w' => Nk w.heap.size w (tw 8 (nd 1 0) (pn (t.kid 0))) e w' := by
 have hq := fit_cases hw.out.1
 obtain ⟨u, hu⟩ : ∃ y, y = (w.alloc (.cells #[.int .i64 t.kind, .int .i64 t.num, .slice a t.cnt cap] 24)).alloc (.cells #[.int .i64 0, .int .i64 0, .slice none 0 0] 24) := ⟨_, rfl⟩
 obtain ⟨hs, hB, hT1, hT2⟩ := two_new w _ _ _ _ hu
 have HX : Hid (u.heap.size = w.heap.size + 1 + 1 ∧ Below w.heap.size w u ∧ Tri u (w.heap.size + 1) (.int .i64 0) (.int .i64 0) (.slice none 0 0)) := ⟨hs, hB, hT2⟩
 obtain ⟨bb, o, ha, hkid⟩ := hk.out
 have C : Hid (Calls Tryz.prog 84 #[.agg #[.int .i64 t.kind, .int .i64 t.num, .slice a t.cnt cap], .func (.func 42) #[] #[]] u fun e w' => Nk u.heap.size u (mkn t.kind t.num t.cnt (fun i => pn (t.kid i))) e w') := by
  refine withKids29 (b := bb) (o := o) (kid := t.kid) ha (wf_cnt hw) (fun i hi => ?_) (fun i hi => wf_big (pn_wf _ (hw.out.2 i hi))) (fun i hi ai ci z _ hkz => ih i hi ai ci z hkz)
  obtain ⟨ai, ci, e1, e2, e3, e4, e5⟩ := hkid i hi
  exact ⟨ai, ci, below_cell hB jq0 e1, below_cell hB jq0 e2, below_cell hB jq0 e3, e4, e5.below hB⟩
 have HU := hid hu
 have hc : t.cnt = 1 := by omega
 have HG : Hid (mkn t.kind t.num t.cnt (fun i => pn (t.kid i)) = on 10 (pn (t.kid 0)) ∧ (pn (t.kid 0)).cnt ≤ 9223372036854775807) := by
  refine ⟨fml_ext hK (by have : t.num = 0 := wf_num hw (by omega); exact this) hc (fun i hi => ?_), wf_big (pn_wf _ (hw.out.2 0 (by omega)))⟩
  have hi' : i < t.cnt := hi
  obtain rfl : i = 0 := by omega
  rw [mkn_kid hi', on_kid]
 rw [HG.out.1] at C
 rw [hc] at HU C ⊢
 rw [hK] at HU C ⊢
 generalize pn (t.kid 0) = p at *
 generalize t.num = n at *
 clear hu hs hB hT1 hT2 ih hw hk ha hkid hq hK hc
 go_enter Tryz.func42, Tryz.ntmps42
 go_wp2_with fail
 rw [← HU.out]
 refine C.out.mono ?_
 rintro e w3 ⟨a3, c3, rfl, hk3, hb3⟩
 obtain ⟨b3, o3, ha3, hkid3⟩ := hk3.kid
 obtain rfl := ha3 (by show 0 < 1; decide)
 obtain ⟨ai, ci, e1, e2, e3, e4, e5⟩ := hkid3 0 (by show 0 < 1; decide)
 rw [on_kid] at e1 e2 e3 e4 e5
 simp only [Nat.zero_mul, Nat.add_zero] at e1 e2 e3
 obtain ⟨w4, hw4⟩ : ∃ y, y = w3.alloc (.cells #[.int .i64 10, .int .i64 0, .slice (some ⟨b3, o3, none⟩) 1 c3] 24) := ⟨_, rfl⟩
 have hb4 : Below w3.heap.size w3 w4 := by rw [hw4]; exact box_below _ _
 have hx4 : Tri w4 w3.heap.size (.int .i64 10) (.int .i64 0) (.slice (some ⟨b3, o3, none⟩) 1 c3) := by rw [hw4]; exact tri_new _ _ _ _
 have hb4u := hb3.trans (hb4.mono hb3.size)
 have H4 : Hid (Kn u.heap.size w4 p ai ∧ Below w.heap.size w w4 ∧ Tri w4 (w.heap.size + 1) (.int .i64 0) (.int .i64 0) (.slice none 0 0) ∧ u.heap.size ≤ w4.heap.size) := ⟨e5.below hb4, HX.out.2.1.trans (hb4u.mono HX.out.2.1.size), HX.out.2.2.below hb4u, hb4u.size⟩
 have f1 := below_cell hb4 jq0 e1
 have f2 := below_cell hb4 jq0 e2
 have f3 := below_cell hb4 jq0 e3
 obtain ⟨⟨v0, v1, v2⟩, -⟩ := tri_cells hx4
 have ek : (on 10 p).kind = 10 := rfl
 have en : (on 10 p).num = 0 := rfl
 have ec : (on 10 p).cnt = 1 := rfl
 simp only [ek, en, ec]
 have HW4 := hid hw4
 clear hk3 hb3 ha3 hkid3 e1 e2 e3 e4 e5 hb4 hx4 hb4u hw4 C HU ek en ec
 go_wp2
 rw [← HW4.out]
 refine G_region (fun z => z.cell? ⟨w3.heap.size, 2, none⟩ = some (.slice (some ⟨b3, o3, none⟩) 1 c3) ∧ z.cell? ⟨b3, o3, none⟩ = some (.int .i64 p.kind) ∧ z.cell? ⟨b3, o3 + 1, none⟩ = some (.int .i64 p.num) ∧ z.cell? ⟨b3, o3 + 2, none⟩ = some (.slice ai p.cnt ci)) (fun j => j == 7) (by kernel_rfl) ⟨v2, f1, f2, f3⟩ (fun hHeld => ?_)
 refine G_tk (i := 1) (oi := { dst := some 11, op := Op.fieldAddr 24 (Operand.tmp 3) 2, type := 0, pos := _, after := #[], guard := none }) (v := .pointer (some ⟨w3.heap.size, 2, none⟩)) hHeld ?_
 (try simp only [Act.put, jq1, jq2, jq3])
 refine G_tk (i := 2) (oi := { dst := some 12, op := Op.load 22 (Operand.tmp 11), type := 22, pos := _, after := #[{ on := 1, ground := Ground.data }], guard := none }) (v := .slice (some ⟨b3, o3, none⟩) 1 c3) hHeld ?_
 (try simp only [Act.put, jq1, jq2, jq3])
 refine G_tk (i := 3) (oi := { dst := some 13, op := Op.indexAddr 22 (Operand.tmp 12) (Operand.const (Value.int IntKind.i64 0)), type := 0, pos := _, after := #[{ on := 2, ground := Ground.data }], guard := none }) (v := .pointer (some ⟨b3, o3, none⟩)) hHeld ?_
 (try simp only [Act.put, jq1, jq2, jq3])
 refine G_tk (i := 4) (oi := { dst := some 14, op := Op.load 24 (Operand.tmp 13), type := 24, pos := _, after := #[{ on := 3, ground := Ground.data }], guard := none }) (v := .agg #[.int .i64 p.kind, .int .i64 p.num, .slice ai p.cnt ci]) hHeld ?_
 (try simp only [Act.put, jq1, jq2, jq3])
 refine G_step (i := 0) (o := _) (by kernel_rfl) rfl (fun K' hK => ?_)
 go_simp
 go_at_call 85
 refine (part_g 1 none 0 0 _).mono ?_
 rintro e w5 ⟨rfl, hb5⟩
 dsimp only
 have hb5 := below_of_drew hb5
 refine hK.out _ _ (fun _ => ?_) (fun hS2 => ?_)
 ·exact ⟨below_cell hb5 jq0 v2, below_cell hb5 jq0 f1, below_cell hb5 jq0 f2, below_cell hb5 jq0 f3⟩
 have hHeld2 := hS2 rfl
 clear hK K' hS2 hHeld
 (try simp only [Act.put, jq1, jq2, jq3])
 refine G_step (i := 5) (o := _) (by kernel_rfl) rfl (fun K' hK => ?_)
 go_simp
 obtain ⟨w6, hw6⟩ : ∃ y, y = w5.alloc (.cells #[.int .i64 1, .int .i64 0, .slice none 0 0, .int .i64 p.kind, .int .i64 p.num, .slice ai p.cnt ci] 24) := ⟨_, rfl⟩
 have hb6 : Below w5.heap.size w5 w6 := by rw [hw6]; exact box_below _ _
 have hx6 : w6.heap[w5.heap.size]? = some (.cells #[.int .i64 1, .int .i64 0, .slice none 0 0, .int .i64 p.kind, .int .i64 p.num, .slice ai p.cnt ci] 24) := by rw [hw6]; exact Go.Deep.blk_alloc_new _ _
 rw [← hw6]
 have hb6u := hb5.trans (hb6.mono hb5.size)
 refine hK.out _ _ (fun _ => ?_) (fun hS2 => ?_)
 ·exact ⟨below_cell hb6u jq0 v2, below_cell hb6u jq0 f1, below_cell hb6u jq0 f2, below_cell hb6u jq0 f3⟩
 have hHeld3 := hS2 rfl
 clear hK K' hS2 hHeld2 hw6
 (try simp only [Act.put, jq1, jq2, jq3])
 have H6 : Hid (Kn u.heap.size w6 (tw 8 (nd 1 0) p) (some ⟨w5.heap.size, 0, none⟩) ∧ Below w4.heap.size w4 w6) := ⟨kn_tw (t := nd 1 0) (cap := 0) (cap2 := ci) (Nat.le_trans H4.out.2.2.2 hb5.size) hx6 (Nat.zero_le _) (Kn.nd _ _ _) HG.out.2 (H4.out.1.below hb6u), hb6u⟩
 refine G_step (i := 6) (o := _) (by kernel_rfl) rfl (fun K' hK => ?_)
 go_simp
 go_at_call 85
 refine (part_g 8 (some ⟨w5.heap.size, 0, none⟩) 2 2 w6).mono ?_
 rintro e w7 ⟨rfl, hb7⟩
 dsimp only
 have hb7u := H6.out.2.trans (hb7.mono H6.out.2.size)
 refine hK.out _ _ (fun _ => ?_) (fun hS2 => ?_)
 ·exact ⟨below_cell hb7u jq0 v2, below_cell hb7u jq0 f1, below_cell hb7u jq0 f2, below_cell hb7u jq0 f3⟩
 clear hK K' hS2 hHeld3
 (try simp only [Act.put, jq1, jq2, jq3])
 have hT7 := H4.out.2.2.1.below hb7u
 have H5 : Hid (Kn u.heap.size w7 (tw 8 (nd 1 0) p) (some ⟨w5.heap.size, 0, none⟩) ∧ Below w.heap.size w w7 ∧ Tri w7 (w.heap.size + 1) (.int .i64 0) (.int .i64 0) (.slice none 0 0)) := ⟨H6.out.1.below hb7, H4.out.2.1.trans (hb7u.mono H4.out.2.1.size), hT7⟩
 obtain ⟨⟨r0, r1, r2⟩, z0, z1, z2⟩ := tri_cells hT7
 have hlt := hT7.lt
 clear hb5 hb6 hx6 hb6u hb7 hb7u hT7 H6
 refine G_step (i := 7) (o := _) (by kernel_rfl) rfl (fun K' hK => ?_)
 go_simp
 refine hK.out _ _ (fun h => absurd h (by decide)) (fun _ => ?_)
 clear hK K'
 (try simp only [Act.put, jq1, jq2, jq3])
 refine G_done (by kernel_rfl) ?_ _
 clear HW4 f1 f2 f3 v0 v1 v2 H4
 go_wp2
 (try simp only [Exit.inBlock, Exit.then])
 refine bodyPost_ret (results_cell_row rfl _ _ (w.heap.size + 1) 24 #[.int .i64 (tw 8 (nd 1 0) p).kind, .int .i64 (tw 8 (nd 1 0) p).num, .slice (some ⟨w5.heap.size, 0, none⟩) (tw 8 (nd 1 0) p).cnt 2] (0, 0) _ rfl (tri_set H5.out.2.2 _ _ _) Tryz.underlying24 rfl (by kernel_rfl)) rfl ?_
 exact ⟨(some ⟨w5.heap.size, 0, none⟩), 2, rfl, H5.out.1.keep (by have := HX.out.1; omega) (fun y h1 _ => blk_tri (by have := HX.out.1; omega) _ _ _), below_tri H5.out.2.1 (by omega) _ _ _⟩
set_option maxHeartbeats 4000000 in
theorem pl_glo {t : Fml} (ih : ∀ i, i < t.cnt → Pl (t.kid i)) (hw : Wf t) (hK : t.kind = 11) (a : Option Addr) (cap : Nat) (w : World) (hk : Kds w t a) :
  Calls Tryz.prog 42 #[.agg #[.int .i64 t.kind, .int .i64 t.num, .slice a t.cnt cap]] w fun e w' => Nk w.heap.size w (tw 9 (nd 2 0) (pn (t.kid 0))) e w' := by
 have hq := fit_cases hw.out.1
 obtain ⟨u, hu⟩ : ∃ y, y = (w.alloc (.cells #[.int .i64 t.kind, .int .i64 t.num, .slice a t.cnt cap] 24)).alloc (.cells #[.int .i64 0, .int .i64 0, .slice none 0 0] 24) := ⟨_, rfl⟩
 obtain ⟨hs, hB, hT1, hT2⟩ := two_new w _ _ _ _ hu
 have HX : Hid (u.heap.size = w.heap.size + 1 + 1 ∧ Below w.heap.size w u ∧ Tri u (w.heap.size + 1) (.int .i64 0) (.int .i64 0) (.slice none 0 0)) := ⟨hs, hB, hT2⟩
 obtain ⟨bb, o, ha, hkid⟩ := hk.out
 have C : Hid (Calls Tryz.prog 84 #[.agg #[.int .i64 t.kind, .int .i64 t.num, .slice a t.cnt cap], .func (.func 42) #[] #[]] u fun e w' => Nk u.heap.size u (mkn t.kind t.num t.cnt (fun i => pn (t.kid i))) e w') := by
  refine withKids29 (b := bb) (o := o) (kid := t.kid) ha (wf_cnt hw) (fun i hi => ?_) (fun i hi => wf_big (pn_wf _ (hw.out.2 i hi))) (fun i hi ai ci z _ hkz => ih i hi ai ci z hkz)
  obtain ⟨ai, ci, e1, e2, e3, e4, e5⟩ := hkid i hi
  exact ⟨ai, ci, below_cell hB jq0 e1, below_cell hB jq0 e2, below_cell hB jq0 e3, e4, e5.below hB⟩
 have HU := hid hu
 have hc : t.cnt = 1 := by omega
 have HG : Hid (mkn t.kind t.num t.cnt (fun i => pn (t.kid i)) = on 11 (pn (t.kid 0)) ∧ (pn (t.kid 0)).cnt ≤ 9223372036854775807) := by
  refine ⟨fml_ext hK (by have : t.num = 0 := wf_num hw (by omega); exact this) hc (fun i hi => ?_), wf_big (pn_wf _ (hw.out.2 0 (by omega)))⟩
  have hi' : i < t.cnt := hi
  obtain rfl : i = 0 := by omega
  rw [mkn_kid hi', on_kid]
 rw [HG.out.1] at C
 rw [hc] at HU C ⊢
 rw [hK] at HU C ⊢
 generalize pn (t.kid 0) = p at *
 generalize t.num = n at *
 clear hu hs hB hT1 hT2 ih hw hk ha hkid hq hK hc
 go_enter Tryz.func42, Tryz.ntmps42
 go_wp2_with fail
 rw [← HU.out]
 refine C.out.mono ?_
 rintro e w3 ⟨a3, c3, rfl, hk3, hb3⟩
 obtain ⟨b3, o3, ha3, hkid3⟩ := hk3.kid
 obtain rfl := ha3 (by show 0 < 1; decide)
 obtain ⟨ai, ci, e1, e2, e3, e4, e5⟩ := hkid3 0 (by show 0 < 1; decide)
 rw [on_kid] at e1 e2 e3 e4 e5
 simp only [Nat.zero_mul, Nat.add_zero] at e1 e2 e3
 obtain ⟨w4, hw4⟩ : ∃ y, y = w3.alloc (.cells #[.int .i64 11, .int .i64 0, .slice (some ⟨b3, o3, none⟩) 1 c3] 24) := ⟨_, rfl⟩
 have hb4 : Below w3.heap.size w3 w4 := by rw [hw4]; exact box_below _ _
 have hx4 : Tri w4 w3.heap.size (.int .i64 11) (.int .i64 0) (.slice (some ⟨b3, o3, none⟩) 1 c3) := by rw [hw4]; exact tri_new _ _ _ _
 have hb4u := hb3.trans (hb4.mono hb3.size)
 have H4 : Hid (Kn u.heap.size w4 p ai ∧ Below w.heap.size w w4 ∧ Tri w4 (w.heap.size + 1) (.int .i64 0) (.int .i64 0) (.slice none 0 0) ∧ u.heap.size ≤ w4.heap.size) := ⟨e5.below hb4, HX.out.2.1.trans (hb4u.mono HX.out.2.1.size), HX.out.2.2.below hb4u, hb4u.size⟩
 have f1 := below_cell hb4 jq0 e1
 have f2 := below_cell hb4 jq0 e2
 have f3 := below_cell hb4 jq0 e3
 obtain ⟨⟨v0, v1, v2⟩, -⟩ := tri_cells hx4
 have ek : (on 11 p).kind = 11 := rfl
 have en : (on 11 p).num = 0 := rfl
 have ec : (on 11 p).cnt = 1 := rfl
 simp only [ek, en, ec]
 have HW4 := hid hw4
 clear hk3 hb3 ha3 hkid3 e1 e2 e3 e4 e5 hb4 hx4 hb4u hw4 C HU ek en ec
 go_wp2
 rw [← HW4.out]
 refine G_region (fun z => z.cell? ⟨w3.heap.size, 2, none⟩ = some (.slice (some ⟨b3, o3, none⟩) 1 c3) ∧ z.cell? ⟨b3, o3, none⟩ = some (.int .i64 p.kind) ∧ z.cell? ⟨b3, o3 + 1, none⟩ = some (.int .i64 p.num) ∧ z.cell? ⟨b3, o3 + 2, none⟩ = some (.slice ai p.cnt ci)) (fun j => j == 7) (by kernel_rfl) ⟨v2, f1, f2, f3⟩ (fun hHeld => ?_)
 refine G_tk (i := 1) (oi := { dst := some 20, op := Op.fieldAddr 24 (Operand.tmp 3) 2, type := 0, pos := _, after := #[], guard := none }) (v := .pointer (some ⟨w3.heap.size, 2, none⟩)) hHeld ?_
 (try simp only [Act.put, jq1, jq2, jq3])
 refine G_tk (i := 2) (oi := { dst := some 21, op := Op.load 22 (Operand.tmp 20), type := 22, pos := _, after := #[{ on := 1, ground := Ground.data }], guard := none }) (v := .slice (some ⟨b3, o3, none⟩) 1 c3) hHeld ?_
 (try simp only [Act.put, jq1, jq2, jq3])
 refine G_tk (i := 3) (oi := { dst := some 22, op := Op.indexAddr 22 (Operand.tmp 21) (Operand.const (Value.int IntKind.i64 0)), type := 0, pos := _, after := #[{ on := 2, ground := Ground.data }], guard := none }) (v := .pointer (some ⟨b3, o3, none⟩)) hHeld ?_
 (try simp only [Act.put, jq1, jq2, jq3])
 refine G_tk (i := 4) (oi := { dst := some 23, op := Op.load 24 (Operand.tmp 22), type := 24, pos := _, after := #[{ on := 3, ground := Ground.data }], guard := none }) (v := .agg #[.int .i64 p.kind, .int .i64 p.num, .slice ai p.cnt ci]) hHeld ?_
 (try simp only [Act.put, jq1, jq2, jq3])
 refine G_step (i := 0) (o := _) (by kernel_rfl) rfl (fun K' hK => ?_)
 go_simp
 go_at_call 85
 refine (part_g 2 none 0 0 _).mono ?_
 rintro e w5 ⟨rfl, hb5⟩
 dsimp only
 have hb5 := below_of_drew hb5
 refine hK.out _ _ (fun _ => ?_) (fun hS2 => ?_)
 ·exact ⟨below_cell hb5 jq0 v2, below_cell hb5 jq0 f1, below_cell hb5 jq0 f2, below_cell hb5 jq0 f3⟩
 have hHeld2 := hS2 rfl
 clear hK K' hS2 hHeld
 (try simp only [Act.put, jq1, jq2, jq3])
 refine G_step (i := 5) (o := _) (by kernel_rfl) rfl (fun K' hK => ?_)
 go_simp
 obtain ⟨w6, hw6⟩ : ∃ y, y = w5.alloc (.cells #[.int .i64 2, .int .i64 0, .slice none 0 0, .int .i64 p.kind, .int .i64 p.num, .slice ai p.cnt ci] 24) := ⟨_, rfl⟩
 have hb6 : Below w5.heap.size w5 w6 := by rw [hw6]; exact box_below _ _
 have hx6 : w6.heap[w5.heap.size]? = some (.cells #[.int .i64 2, .int .i64 0, .slice none 0 0, .int .i64 p.kind, .int .i64 p.num, .slice ai p.cnt ci] 24) := by rw [hw6]; exact Go.Deep.blk_alloc_new _ _
 rw [← hw6]
 have hb6u := hb5.trans (hb6.mono hb5.size)
 refine hK.out _ _ (fun _ => ?_) (fun hS2 => ?_)
 ·exact ⟨below_cell hb6u jq0 v2, below_cell hb6u jq0 f1, below_cell hb6u jq0 f2, below_cell hb6u jq0 f3⟩
 have hHeld3 := hS2 rfl
 clear hK K' hS2 hHeld2 hw6
 (try simp only [Act.put, jq1, jq2, jq3])
 have H6 : Hid (Kn u.heap.size w6 (tw 9 (nd 2 0) p) (some ⟨w5.heap.size, 0, none⟩) ∧ Below w4.heap.size w4 w6) := ⟨kn_tw (t := nd 2 0) (cap := 0) (cap2 := ci) (Nat.le_trans H4.out.2.2.2 hb5.size) hx6 (Nat.zero_le _) (Kn.nd _ _ _) HG.out.2 (H4.out.1.below hb6u), hb6u⟩
 refine G_step (i := 6) (o := _) (by kernel_rfl) rfl (fun K' hK => ?_)
 go_simp
 go_at_call 85
 refine (part_g 9 (some ⟨w5.heap.size, 0, none⟩) 2 2 w6).mono ?_
 rintro e w7 ⟨rfl, hb7⟩
 dsimp only
 have hb7u := H6.out.2.trans (hb7.mono H6.out.2.size)
 refine hK.out _ _ (fun _ => ?_) (fun hS2 => ?_)
 ·exact ⟨below_cell hb7u jq0 v2, below_cell hb7u jq0 f1, below_cell hb7u jq0 f2, below_cell hb7u jq0 f3⟩
 clear hK K' hS2 hHeld3
 (try simp only [Act.put, jq1, jq2, jq3])
 have hT7 := H4.out.2.2.1.below hb7u
 have H5 : Hid (Kn u.heap.size w7 (tw 9 (nd 2 0) p) (some ⟨w5.heap.size, 0, none⟩) ∧ Below w.heap.size w w7 ∧ Tri w7 (w.heap.size + 1) (.int .i64 0) (.int .i64 0) (.slice none 0 0)) := ⟨H6.out.1.below hb7, H4.out.2.1.trans (hb7u.mono H4.out.2.1.size), hT7⟩
 obtain ⟨⟨r0, r1, r2⟩, z0, z1, z2⟩ := tri_cells hT7
 have hlt := hT7.lt
 clear hb5 hb6 hx6 hb6u hb7 hb7u hT7 H6
 refine G_step (i := 7) (o := _) (by kernel_rfl) rfl (fun K' hK => ?_)
 go_simp
 refine hK.out _ _ (fun h => absurd h (by decide)) (fun _ => ?_)
 clear hK K'
 (try simp only [Act.put, jq1, jq2, jq3])
 refine G_done (by kernel_rfl) ?_ _
 clear HW4 f1 f2 f3 v0 v1 v2 H4
 go_wp2
 (try simp only [Exit.inBlock, Exit.then])
 refine bodyPost_ret (results_cell_row rfl _ _ (w.heap.size + 1) 24 #[.int .i64 (tw 9 (nd 2 0) p).kind, .int .i64 (tw 9 (nd 2 0) p).num, .slice (some ⟨w5.heap.size, 0, none⟩) (tw 9 (nd 2 0) p).cnt 2] (0, 0) _ rfl (tri_set H5.out.2.2 _ _ _) Tryz.underlying24 rfl (by kernel_rfl)) rfl ?_
 exact ⟨(some ⟨w5.heap.size, 0, none⟩), 2, rfl, H5.out.1.keep (by have := HX.out.1; omega) (fun y h1 _ => blk_tri (by have := HX.out.1; omega) _ _ _), below_tri H5.out.2.1 (by omega) _ _ _⟩
set_option maxHeartbeats 4000000 in
theorem pl_oth {t : Fml} (ih : ∀ i, i < t.cnt → Pl (t.kid i)) (hw : Wf t) (h10 : t.kind ≠ 10) (h11 : t.kind ≠ 11) (a : Option Addr) (cap : Nat) (w : World) (hk : Kds w t a) :
  Calls Tryz.prog 42 #[.agg #[.int .i64 t.kind, .int .i64 t.num, .slice a t.cnt cap]] w fun e w' => Nk w.heap.size w (mkn t.kind t.num t.cnt (fun i => pn (t.kid i))) e w' := by
 have hq := fit_cases hw.out.1
 obtain ⟨u, hu⟩ : ∃ y, y = (w.alloc (.cells #[.int .i64 t.kind, .int .i64 t.num, .slice a t.cnt cap] 24)).alloc (.cells #[.int .i64 0, .int .i64 0, .slice none 0 0] 24) := ⟨_, rfl⟩
 obtain ⟨hs, hB, hT1, hT2⟩ := two_new w _ _ _ _ hu
 have HX : Hid (u.heap.size = w.heap.size + 1 + 1 ∧ Below w.heap.size w u ∧ Tri u (w.heap.size + 1) (.int .i64 0) (.int .i64 0) (.slice none 0 0)) := ⟨hs, hB, hT2⟩
 obtain ⟨bb, o, ha, hkid⟩ := hk.out
 have C : Hid (Calls Tryz.prog 84 #[.agg #[.int .i64 t.kind, .int .i64 t.num, .slice a t.cnt cap], .func (.func 42) #[] #[]] u fun e w' => Nk u.heap.size u (mkn t.kind t.num t.cnt (fun i => pn (t.kid i))) e w') := by
  refine withKids29 (b := bb) (o := o) (kid := t.kid) ha (wf_cnt hw) (fun i hi => ?_) (fun i hi => wf_big (pn_wf _ (hw.out.2 i hi))) (fun i hi ai ci z _ hkz => ih i hi ai ci z hkz)
  obtain ⟨ai, ci, e1, e2, e3, e4, e5⟩ := hkid i hi
  exact ⟨ai, ci, below_cell hB jq0 e1, below_cell hB jq0 e2, below_cell hB jq0 e3, e4, e5.below hB⟩
 have HU := hid hu
 have h10b : (t.kind == 10) = false := beq_eq_false_iff_ne.2 h10
 have h11b : (t.kind == 11) = false := beq_eq_false_iff_ne.2 h11
 have HGk : Hid ((mkn t.kind t.num t.cnt (fun i => pn (t.kid i))).kind = t.kind) := hid rfl
 generalize mkn t.kind t.num t.cnt (fun i => pn (t.kid i)) = g at *
 clear hu hs hB hT1 hT2 ih hw hk ha hkid hq h10 h11
 go_enter Tryz.func42, Tryz.ntmps42
 go_wp2_with fail
 rw [← HU.out]
 refine C.out.mono ?_
 rintro e w3 ⟨a5, c5, rfl, hk3, hb3⟩
 have hT3 := HX.out.2.2.below hb3
 have H5 : Hid (Kn u.heap.size w3 g a5 ∧ Below w.heap.size w w3 ∧ Tri w3 (w.heap.size + 1) (.int .i64 0) (.int .i64 0) (.slice none 0 0)) := ⟨hk3, HX.out.2.1.trans (hb3.mono HX.out.2.1.size), hT3⟩
 obtain ⟨⟨r0, r1, r2⟩, z0, z1, z2⟩ := tri_cells hT3
 have hlt := hT3.lt
 have g10b : (g.kind == 10) = false := by rw [HGk.out]; exact h10b
 have g11b : (g.kind == 11) = false := by rw [HGk.out]; exact h11b
 clear hk3 hb3 hT3 C HU HGk h10b h11b
 go_wp2
 (try simp only [Exit.inBlock, Exit.then])
 refine bodyPost_ret (results_cell_row rfl _ _ (w.heap.size + 1) 24 #[.int .i64 g.kind, .int .i64 g.num, .slice a5 g.cnt c5] (0, 0) _ rfl ((tri_set H5.out.2.2 _ _ _).alloc _) Tryz.underlying24 rfl (by kernel_rfl)) rfl ?_
 exact ⟨a5, c5, rfl, kn_alloc (kn_tri H5.out.1 (by have := HX.out.1; omega) (by have := HX.out.1; omega) _ _ _) _, (below_tri H5.out.2.1 (by omega) _ _ _).alloc (by have := H5.out.2.1.size; simp only [World.setCell, Array.size_modify]; exact this) _⟩
theorem plain_any : ∀ t, Wf t → Pl t := by
 intro t
 induction t using Fml.ind with
 | h t ih =>
  intro hw a cap w hk
  have ih' : ∀ i, i < t.cnt → Pl (t.kid i) := fun i hi => ih i hi (hw.out.2 i hi)
  rw [pn_eq hw]
  unfold pnF
  by_cases h10 : t.kind = 10
  ·rw [if_pos h10]
   exact pl_fin ih' hw h10 a cap w hk
  rw [if_neg h10]
  by_cases h11 : t.kind = 11
  ·rw [if_pos h11]
   exact pl_glo ih' hw h11 a cap w hk
  rw [if_neg h11]
  exact pl_oth ih' hw h10 h11 a cap w hk
end Go.Proofs.YtmdpbaobihdgkaaGreatDoor
