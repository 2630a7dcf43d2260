/- The law PushShapes, walked. -/
import Derived.Test.YtinacgkiigbmjaaDoorMde
import Derived.Test.YtinacgkiigbmjaaDoorShf
namespace Go.Proofs.YtinacgkiigbmjaaDoor
open Go.RowKit

theorem sln_nd {k n : Int} (h : k = 1 ∨ k = 2 ∨ k = 3) : SlN (nd k n) := SlN.mk ⟨slm_nd h, fun i hi => absurd hi (Nat.not_lt_zero i)⟩
/-- The formula that the law asks first. -/
def xF : Fml := tw 5 (nd 3 1) (nd 1 0)
theorem xF_wf : Wf xF := wf_tw (by omega) (wf_nd (by decide)) wf_true
theorem xF_chk : (chk xF 1 0).1 = 0 := by
  refine (chk_iff xF).2 ⟨xF_wf, ?_, ?_⟩
  · rw [sz_eq]
    show 1 + sumTo (fun i => sz (xF.kid i)) 2 ≤ 60
    simp only [sumTo, xF, tw_kid0, tw_kid1, sz_nd]
    omega
  · rw [dp_eq]
    show 1 + maxTo (fun i => dp (xF.kid i)) 2 ≤ 20
    simp only [maxTo, xF, tw_kid0, tw_kid1, dp_nd]
    omega
theorem xF_sl : sl xF = nd 3 1 := by
  have e0 : sl (nd 3 1) = nd 3 1 := sl_self _ (sln_nd (by omega))
  have e1 : sl (nd 1 0) = nd 1 0 := sl_self _ (sln_nd (by omega))
  have e : mkn xF.kind xF.num xF.cnt (fun i => sl (xF.kid i)) = xF := by
    refine fml_ext rfl rfl rfl (fun i hi => ?_)
    have hi' : i < 2 := hi
    rw [mkn_kid (show i < xF.cnt from hi')]
    rcases (by omega : i = 0 ∨ i = 1) with rfl | rfl
    · simp only [xF, tw_kid0, e0]
    · simp only [xF, tw_kid1, e1]
  rw [sl_eq, e, slm_and rfl]
  unfold slP xF
  rw [tw_kid0, tw_kid1]
  simp [nd]
theorem xF_cgv : cgv xF (sl xF) = (nd 3 1, 0) := by
  rw [xF_sl]
  refine cgv_ok xF_chk ?_
  exact (chk_iff _).2 ⟨wf_nd (by decide), by rw [sz_nd]; omega, by rw [dp_nd]; omega⟩

set_option maxHeartbeats 8000000 in
set_option maxRecDepth 20000 in
theorem shapes_bad {w : World} {t : Fml} {a : Option Addr} {cap : Nat} (hkc : kcAt w) (h1 : opA 1 w) (hk : Kds w t a) (hc : t.cnt ≤ 9223372036854775807) (q : (chk t 1 0).1 ≠ 0) :
    Calls Tryd.prog 6 #[.agg #[.int .i64 t.kind, .int .i64 t.num, .slice a t.cnt cap]] w fun e w' => e = .returned (.bool true) ∧ Below w.heap.size w w' := by
  obtain ⟨u, hu⟩ : ∃ y, y = w.alloc (.cells #[.int .i64 t.kind, .int .i64 t.num, .slice a t.cnt cap] 24) := ⟨_, rfl⟩
  have hB : Below w.heap.size w u := by rw [hu]; exact box_below _ _
  have hT : Tri u w.heap.size (.int .i64 t.kind) (.int .i64 t.num) (.slice a t.cnt cap) := by rw [hu]; exact tri_new _ _ _ _
  have HX : Hid (∀ z, Below u.heap.size u z → Tri z w.heap.size (.int .i64 t.kind) (.int .i64 t.num) (.slice a t.cnt cap) ∧ Below w.heap.size w z) := fun z hz => ⟨hT.below hz, hB.trans (hz.mono hB.size)⟩
  have A1 : Hid (Calls Tryd.prog 16 #[.int .i64 1] u fun e w' => Mk u (nd 3 1) e w') := atom_f 1 u
  have A2 : Hid (∀ z (a1 : Option Addr) (c1 : Nat), Calls Tryd.prog 19 #[.int .i64 5, .agg #[.int .i64 3, .int .i64 1, .slice a1 0 c1], .agg #[.int .i64 1, .int .i64 0, .slice none 0 0]] z fun e w' => Mk z xF e w') := fun z a1 c1 => two_f 5 (nd 3 1) a1 c1 (nd 1 0) none 0 z (kds_nd _ _ _ _) (Nat.zero_le _) (kds_nd _ _ _ _) (Nat.zero_le _)
  have A3 : Hid (∀ z (a1 : Option Addr) (c1 : Nat), Below w.heap.size w z → Kds z xF a1 → Calls Tryd.prog 13 #[.agg #[.int .i64 xF.kind, .int .i64 xF.num, .slice a1 xF.cnt c1]] z fun e w' => ∃ (a' : Option Addr) (c' : Nat), e = .returned (.tuple #[.agg #[.int .i64 3, .int .i64 1, .slice a' 0 c'], .int .i64 0]) ∧ Below z.heap.size z w') := fun z a1 c1 hz hk => by
    refine (slim13 a1 c1 z (hkc.below hz hkc.pos) (h1.below hz) hk (by show 2 ≤ 9223372036854775807; decide)).mono ?_
    rintro e w' ⟨a', c', he, _, hb⟩
    rw [xF_cgv] at he
    exact ⟨a', c', he, hb⟩
  have A5 : Hid (∀ z (a1 a2 : Option Addr) (c1 c2 : Nat), Calls Tryd.prog 17 #[.agg #[.int .i64 3, .int .i64 1, .slice a1 0 c1], .agg #[.int .i64 3, .int .i64 1, .slice a2 0 c2]] z fun e w' => e = .returned (.bool true) ∧ Below z.heap.size z w') := fun z a1 a2 c1 c2 => by
    have := same17 (nd 3 1) (nd 3 1) a1 a2 c1 c2 z (kds_nd _ _ _ _) (kds_nd _ _ _ _) (Nat.zero_le _) (Nat.zero_le _)
    rw [same_self] at this
    exact this
  have HU := hid hu
  obtain ⟨r, hr⟩ : ∃ y, y = (chk t 1 0).1 := ⟨_, rfl⟩
  have hrb : (r != 0) = true := by rw [hr, bne_iff_ne]; exact q
  have C20 : Hid (∀ z, Below w.heap.size w z → Calls Tryd.prog 20 #[.agg #[.int .i64 t.kind, .int .i64 t.num, .slice a t.cnt cap]] z fun e w' => e = .returned (.int .i64 r) ∧ Below z.heap.size z w') := fun z hz => by
    have := check_any t a cap z (hkc.below hz hkc.pos) (hk.below hz) hc
    rw [← hr] at this
    exact this
  obtain ⟨S, hS⟩ : ∃ y, y = nd 0 0 := ⟨_, rfl⟩
  have hS0 : S.kind = 0 := by rw [hS]; rfl
  have HS0 := hid hS0
  have CS : Hid (∀ z, Below w.heap.size w z → Calls Tryd.prog 13 #[.agg #[.int .i64 t.kind, .int .i64 t.num, .slice a t.cnt cap]] z fun e w' => ∃ (a' : Option Addr) (c' : Nat), e = .returned (.tuple #[.agg #[.int .i64 S.kind, .int .i64 S.num, .slice a' S.cnt c'], .int .i64 r]) ∧ Kds w' S a' ∧ Below z.heap.size z w') := fun z hz => by
    refine (slim13 a cap z (hkc.below hz hkc.pos) (h1.below hz) (hk.below hz) hc).mono ?_
    rintro e w' ⟨a', c', he, hk', hb⟩
    rw [cgv_bad q, ← hr, ← hS] at he hk'
    exact ⟨a', c', he, hk'.out, hb⟩
  clear hu hB hT hk hc hkc h1 q hr hS hS0
  go_enter Tryd.func6, Tryd.ntmps6
  go_wp2_with fail
  rw [← HU.out]
  refine A1.out.mono ?_
  rintro e p1 ⟨a1, c1, rfl, hk1, hb1⟩
  have HB1 : Hid (Below u.heap.size u p1) := hb1
  have B2 := hid (A2.out p1 a1 c1)
  clear hk1 hb1 A1 A2 HU
  have e1 : (nd 3 1).kind = 3 := rfl
  have e2 : (nd 3 1).num = 1 := rfl
  have e3 : (nd 3 1).cnt = 0 := rfl
  simp only [e1, e2, e3]
  clear e1 e2 e3
  go_wp2_with fail
  refine B2.out.mono ?_
  rintro e p2 ⟨a2, c2, rfl, hk2, hb2⟩
  have HB2 : Hid (Below u.heap.size u p2) := HB1.out.trans (hb2.mono HB1.out.size)
  have B3 := hid (A3.out p2 a2 c2 (HX.out p2 HB2.out).2 hk2)
  clear hk2 hb2 B2 A3
  go_wp2_with fail
  refine B3.out.mono ?_
  rintro e p3 ⟨a3, c3, rfl, hb3⟩
  have HB3 : Hid (Below u.heap.size u p3) := HB2.out.trans (hb3.mono HB2.out.size)
  obtain ⟨v3, hv3⟩ : ∃ y, y = p3.alloc (.cells #[.int .i64 3, .int .i64 1, .slice a3 0 c3] 24) := ⟨_, rfl⟩
  have hbv : Below p3.heap.size p3 v3 := by rw [hv3]; exact box_below _ _
  have HXV : Hid (∀ y, Below v3.heap.size v3 y → y.cell? ⟨p3.heap.size, 0, none⟩ = some (.int .i64 3) ∧ y.cell? ⟨p3.heap.size, 1, none⟩ = some (.int .i64 1) ∧ y.cell? ⟨p3.heap.size, 2, none⟩ = some (.slice a3 0 c3)) := fun y hy => (tri_cells (Tri.below (show Tri v3 p3.heap.size (.int .i64 3) (.int .i64 1) (.slice a3 0 c3) by rw [hv3]; exact tri_new _ _ _ _) hy)).1
  have HBV : Hid (Below u.heap.size u v3) := HB3.out.trans (hbv.mono HB3.out.size)
  have HV3 := hid hv3
  clear hb3 hbv hv3 B3
  go_wp2
  rw [← HV3.out]
  have hB0 : Below v3.heap.size v3 v3.drew := below_drewN (Below.refl _ _) 1
  refine G_region (fun y => y.cell? ⟨p3.heap.size, 0, none⟩ = some (.int .i64 3) ∧ y.cell? ⟨p3.heap.size, 1, none⟩ = some (.int .i64 1) ∧ y.cell? ⟨p3.heap.size, 2, none⟩ = some (.slice a3 0 c3)) (fun _ => false) (by kernel_rfl) (HXV.out _ hB0) (fun _ => ?_)
  refine G_take (i := 0) (oi := { dst := some 23, op := Op.move (Operand.tmp 4), type := 25, pos := _, after := #[], guard := none }) (v := .int .i64 0) rfl (by kernel_rfl) (by kernel_rfl) (by kernel_rfl) (by kernel_rfl) (fun _ _ _ h => h) (by rfl) (fun u hu => ?_) (HXV.out _ hB0) ?_
  · (try dsimp only at hu); go_simp
  (try simp only [Act.put, List.setIfInBounds_toArray, List.set_cons_zero, List.set_cons_succ])
  refine G_take (i := 1) (oi := { dst := some 24, op := Op.binOp BinOp.neq 25 (Operand.tmp 23) (Operand.const (Value.int IntKind.i64 0)) 25, type := 4, pos := _, after := #[{ on := 0, ground := Ground.data }], guard := none }) (v := .bool false) rfl (by kernel_rfl) (by kernel_rfl) (by kernel_rfl) (by kernel_rfl) (fun _ _ _ h => h) (by rfl) (fun u hu => ?_) (HXV.out _ hB0) ?_
  · (try dsimp only at hu); go_simp
  (try simp only [Act.put, List.setIfInBounds_toArray, List.set_cons_zero, List.set_cons_succ])
  refine G_take (i := 2) (oi := { dst := some 25, op := Op.move (Operand.tmp 24), type := 4, pos := _, after := #[{ on := 1, ground := Ground.data }], guard := none }) (v := .bool false) rfl (by kernel_rfl) (by kernel_rfl) (by kernel_rfl) (by kernel_rfl) (fun _ _ _ h => h) (by rfl) (fun u hu => ?_) (HXV.out _ hB0) ?_
  · (try dsimp only at hu); go_simp
  (try simp only [Act.put, List.setIfInBounds_toArray, List.set_cons_zero, List.set_cons_succ])
  refine G_take (i := 3) (oi := { dst := some 26, op := Op.load 24 (Operand.tmp 3), type := 24, pos := _, after := #[{ on := 2, ground := Ground.guard }], guard := some (2, false) }) (v := .agg #[.int .i64 3, .int .i64 1, .slice a3 0 c3]) rfl (by kernel_rfl) (by kernel_rfl) (by kernel_rfl) (by kernel_rfl) (fun _ _ _ h => h) (by rfl) (fun u hu => ?_) (HXV.out _ hB0) ?_
  · (try dsimp only at hu); go_simp
  (try simp only [Act.put, List.setIfInBounds_toArray, List.set_cons_zero, List.set_cons_succ])
  obtain ⟨q0, hq0⟩ : ∃ y, y = v3.drew := ⟨_, rfl⟩
  rw [← hq0] at hB0 ⊢
  clear hq0
  refine G_step (i := 4) (o := { dst := some 27, op := Op.call { callee := Callee.value (Operand.func 16), args := #[Operand.const (Value.int IntKind.i64 1)], argTypes := #[3] }, type := 24, pos := _, after := #[{ on := 2, ground := Ground.chain }, { on := 2, ground := Ground.guard }], guard := some (2, false) }) (by kernel_rfl) rfl (fun K' hK => ?_)
  go_simp
  go_at_call 16
  refine (atom_f 1 q0).mono ?_
  rintro e q1 ⟨a4, c4, rfl, hk4, hb4⟩
  dsimp only
  have hB1 := hB0.trans (hb4.mono hB0.size)
  refine hK.out _ _ (fun _ => HXV.out _ hB1) (fun _ => ?_)
  clear hK K' hb4 hk4 hB0
  (try simp only [Act.put, List.setIfInBounds_toArray, List.set_cons_zero, List.set_cons_succ])
  have e1 : (nd 3 1).kind = 3 := rfl
  have e2 : (nd 3 1).num = 1 := rfl
  have e3 : (nd 3 1).cnt = 0 := rfl
  simp only [e1, e2, e3]
  clear e1 e2 e3
  refine G_step (i := 5) (o := { dst := some 28, op := Op.call { callee := Callee.value (Operand.func 17), args := #[Operand.tmp 26, Operand.tmp 27], argTypes := #[24, 24] }, type := 4, pos := _, after := #[{ on := 3, ground := Ground.data }, { on := 4, ground := Ground.data }, { on := 4, ground := Ground.chain }, { on := 2, ground := Ground.guard }], guard := some (2, false) }) (by kernel_rfl) rfl (fun K' hK => ?_)
  go_simp
  go_at_call 17
  refine (A5.out q1 a3 a4 c3 c4).mono ?_
  rintro e q2 ⟨rfl, hb5⟩
  dsimp only
  have hB2 := hB1.trans (hb5.mono hB1.size)
  refine hK.out _ _ (fun _ => HXV.out _ hB2) (fun _ => ?_)
  clear hK K' hb5 hB1
  (try simp only [Act.put, List.setIfInBounds_toArray, List.set_cons_zero, List.set_cons_succ])
  refine G_take (i := 6) (oi := { dst := some 29, op := Op.unOp UnOp.not 4 (Operand.tmp 28), type := 4, pos := _, after := #[{ on := 5, ground := Ground.data }, { on := 2, ground := Ground.guard }], guard := some (2, false) }) (v := .bool false) rfl (by kernel_rfl) (by kernel_rfl) (by kernel_rfl) (by kernel_rfl) (fun _ _ _ h => h) (by rfl) (fun u hu => ?_) (HXV.out _ hB2) ?_
  · (try dsimp only at hu); go_simp
  (try simp only [Act.put, List.setIfInBounds_toArray, List.set_cons_zero, List.set_cons_succ])
  refine G_take (i := 7) (oi := { dst := some 30, op := Op.pick (Operand.tmp 25) (Operand.const (Value.bool true)) (Operand.tmp 29), type := 4, pos := _, after := #[{ on := 2, ground := Ground.data }, { on := 6, ground := Ground.data }], guard := none }) (v := .bool false) rfl (by kernel_rfl) (by kernel_rfl) (by kernel_rfl) (by kernel_rfl) (fun _ _ _ h => h) (by rfl) (fun u hu => ?_) (HXV.out _ hB2) ?_
  · (try dsimp only at hu); go_simp
  (try simp only [Act.put, List.setIfInBounds_toArray, List.set_cons_zero, List.set_cons_succ])
  refine G_done (by kernel_rfl) ?_ _
  have HB4 : Hid (Below u.heap.size u q2) := HBV.out.trans (hB2.mono HBV.out.size)
  clear hB2 HXV HBV HV3 HB1 HB2 HB3 A5
  obtain ⟨x0, x1, x2⟩ := (tri_cells (HX.out q2 HB4.out).1).1
  have D20 := hid (C20.out q2 (HX.out q2 HB4.out).2)
  go_wp2_with fail
  refine D20.out.mono ?_
  rintro e y1 ⟨rfl, hb⟩
  have HB5 : Hid (Below u.heap.size u y1) := HB4.out.trans (hb.mono HB4.out.size)
  clear hb D20 x0 x1 x2
  obtain ⟨x0, x1, x2⟩ := (tri_cells (HX.out y1 HB5.out).1).1
  have D := hid (CS.out y1 (HX.out y1 HB5.out).2)
  go_wp2_with fail
  refine D.out.mono ?_
  rintro e y6 ⟨ay6, cy6, rfl, hkg, hb⟩
  obtain ⟨v6, hv⟩ : ∃ q, q = y6.alloc (.cells #[.int .i64 S.kind, .int .i64 S.num, .slice ay6 S.cnt cy6] 24) := ⟨_, rfl⟩
  have hbv : Below y6.heap.size y6 v6 := by rw [hv]; exact box_below _ _
  have HB6 : Hid (Below u.heap.size u v6) := HB5.out.trans ((hb.trans (hbv.mono hb.size)).mono HB5.out.size)
  have HTv6 : Hid (∀ z, Below v6.heap.size v6 z → Tri z y6.heap.size (.int .i64 S.kind) (.int .i64 S.num) (.slice ay6 S.cnt cy6) ∧ Kds z S ay6) := fun z hz => ⟨Tri.below (show Tri v6 y6.heap.size (.int .i64 S.kind) (.int .i64 S.num) (.slice ay6 S.cnt cy6) by rw [hv]; exact tri_new _ _ _ _) hz, (hkg.below hbv).below hz⟩
  have HByv6 : Hid (Below y1.heap.size y1 v6) := hb.trans (hbv.mono hb.size)
  have HVv6 := hid hv
  clear hb hbv hkg hv D x0 x1 x2
  obtain ⟨x0, x1, x2⟩ := (tri_cells (HX.out v6 HB6.out).1).1
  rw [HVv6.out] at x0 x1 x2
  have D := hid (C20.out v6 (HX.out v6 HB6.out).2)
  go_wp2_with fail
  rw [← HVv6.out]
  refine D.out.mono ?_
  rintro e y7 ⟨rfl, hb⟩
  obtain ⟨m0, m1, m2⟩ := (tri_cells (HTv6.out y7 hb).1).1
  rw [HS0.out] at m0
  have HF := hid ((HX.out y7 (HB6.out.trans (hb.mono HB6.out.size))).2)
  clear hb D x0 x1 x2
  go_wp2
  go_ret
  exact ⟨rfl, HF.out⟩

set_option maxHeartbeats 16000000 in
set_option maxRecDepth 20000 in
theorem shapes_aa {w : World} {t : Fml} {a : Option Addr} {cap : Nat} (hkc : kcAt w) (h1 : opA 1 w) (hk : Kds w t a) (hc : t.cnt ≤ 9223372036854775807) (q : (chk t 1 0).1 = 0) (q8 : (chk (nt t false) 1 0).1 = 0) (q9 : (chk (pn t) 1 0).1 = 0) :
    Calls Tryd.prog 6 #[.agg #[.int .i64 t.kind, .int .i64 t.num, .slice a t.cnt cap]] w fun e w' => e = .returned (.bool true) ∧ Below w.heap.size w w' := by
  have hw := (chk_wf t 1 0 q).1
  have hwS := sl_right t hw
  have qS := sl_chk q
  obtain ⟨u, hu⟩ : ∃ y, y = w.alloc (.cells #[.int .i64 t.kind, .int .i64 t.num, .slice a t.cnt cap] 24) := ⟨_, rfl⟩
  have hB : Below w.heap.size w u := by rw [hu]; exact box_below _ _
  have hT : Tri u w.heap.size (.int .i64 t.kind) (.int .i64 t.num) (.slice a t.cnt cap) := by rw [hu]; exact tri_new _ _ _ _
  have HX : Hid (∀ z, Below u.heap.size u z → Tri z w.heap.size (.int .i64 t.kind) (.int .i64 t.num) (.slice a t.cnt cap) ∧ Below w.heap.size w z) := fun z hz => ⟨hT.below hz, hB.trans (hz.mono hB.size)⟩
  have A1 : Hid (Calls Tryd.prog 16 #[.int .i64 1] u fun e w' => Mk u (nd 3 1) e w') := atom_f 1 u
  have A2 : Hid (∀ z (a1 : Option Addr) (c1 : Nat), Calls Tryd.prog 19 #[.int .i64 5, .agg #[.int .i64 3, .int .i64 1, .slice a1 0 c1], .agg #[.int .i64 1, .int .i64 0, .slice none 0 0]] z fun e w' => Mk z xF e w') := fun z a1 c1 => two_f 5 (nd 3 1) a1 c1 (nd 1 0) none 0 z (kds_nd _ _ _ _) (Nat.zero_le _) (kds_nd _ _ _ _) (Nat.zero_le _)
  have A3 : Hid (∀ z (a1 : Option Addr) (c1 : Nat), Below w.heap.size w z → Kds z xF a1 → Calls Tryd.prog 13 #[.agg #[.int .i64 xF.kind, .int .i64 xF.num, .slice a1 xF.cnt c1]] z fun e w' => ∃ (a' : Option Addr) (c' : Nat), e = .returned (.tuple #[.agg #[.int .i64 3, .int .i64 1, .slice a' 0 c'], .int .i64 0]) ∧ Below z.heap.size z w') := fun z a1 c1 hz hk => by
    refine (slim13 a1 c1 z (hkc.below hz hkc.pos) (h1.below hz) hk (by show 2 ≤ 9223372036854775807; decide)).mono ?_
    rintro e w' ⟨a', c', he, _, hb⟩
    rw [xF_cgv] at he
    exact ⟨a', c', he, hb⟩
  have A5 : Hid (∀ z (a1 a2 : Option Addr) (c1 c2 : Nat), Calls Tryd.prog 17 #[.agg #[.int .i64 3, .int .i64 1, .slice a1 0 c1], .agg #[.int .i64 3, .int .i64 1, .slice a2 0 c2]] z fun e w' => e = .returned (.bool true) ∧ Below z.heap.size z w') := fun z a1 a2 c1 c2 => by
    have := same17 (nd 3 1) (nd 3 1) a1 a2 c1 c2 z (kds_nd _ _ _ _) (kds_nd _ _ _ _) (Nat.zero_le _) (Nat.zero_le _)
    rw [same_self] at this
    exact this
  have HU := hid hu
  have C20 : Hid (∀ z, Below w.heap.size w z → Calls Tryd.prog 20 #[.agg #[.int .i64 t.kind, .int .i64 t.num, .slice a t.cnt cap]] z fun e w' => e = .returned (.int .i64 0) ∧ Below z.heap.size z w') := fun z hz => by
    have := check_any t a cap z (hkc.below hz hkc.pos) (hk.below hz) hc
    rw [q] at this
    exact this
  obtain ⟨S, hS⟩ : ∃ y, y = sl t := ⟨_, rfl⟩
  rw [← hS] at hwS qS
  have CS : Hid (∀ z, Below w.heap.size w z → Calls Tryd.prog 13 #[.agg #[.int .i64 t.kind, .int .i64 t.num, .slice a t.cnt cap]] z fun e w' => ∃ (a' : Option Addr) (c' : Nat), e = .returned (.tuple #[.agg #[.int .i64 S.kind, .int .i64 S.num, .slice a' S.cnt c'], .int .i64 0]) ∧ Kds w' S a' ∧ Below z.heap.size z w') := fun z hz => by
    refine (slim13 a cap z (hkc.below hz hkc.pos) (h1.below hz) (hk.below hz) hc).mono ?_
    rintro e w' ⟨a', c', he, hk', hb⟩
    rw [← hS, cgv_ok q qS] at he hk'
    exact ⟨a', c', he, hk'.out, hb⟩
  have CS2 : Hid (∀ z (aS : Option Addr) (cS : Nat), Kds z S aS → Below w.heap.size w z → Calls Tryd.prog 13 #[.agg #[.int .i64 S.kind, .int .i64 S.num, .slice aS S.cnt cS]] z fun e w' => ∃ (a' : Option Addr) (c' : Nat), e = .returned (.tuple #[.agg #[.int .i64 S.kind, .int .i64 S.num, .slice a' S.cnt c'], .int .i64 0]) ∧ Kds w' S a' ∧ Below z.heap.size z w') := fun z aS cS hkS hz => by
    refine (slim13 aS cS z (hkc.below hz hkc.pos) (h1.below hz) hkS (wf_big hwS.1)).mono ?_
    rintro e w' ⟨a', c', he, hk', hb⟩
    have e2 : sl S = S := by rw [hS]; exact sl_again hw
    rw [e2, cgv_ok qS qS] at he hk'
    exact ⟨a', c', he, hk'.out, hb⟩
  have CSm : Hid (∀ z (a1 a2 : Option Addr) (c1 c2 : Nat), Kds z S a1 → Kds z S a2 → Calls Tryd.prog 17 #[.agg #[.int .i64 S.kind, .int .i64 S.num, .slice a1 S.cnt c1], .agg #[.int .i64 S.kind, .int .i64 S.num, .slice a2 S.cnt c2]] z fun e w' => e = .returned (.bool true) ∧ Below z.heap.size z w') := fun z a1 a2 c1 c2 hk1 hk2 => by
    have := same17 S S a1 a2 c1 c2 z hk1 hk2 (wf_big hwS.1) (wf_big hwS.1)
    rw [same_self] at this
    exact this
  have hsT := (chk_iff t).1 q
  obtain ⟨s1, hs1⟩ : ∃ y, y = sz S := ⟨_, rfl⟩
  obtain ⟨s2, hs2⟩ : ∃ y, y = sz t := ⟨_, rfl⟩
  have CZ1 : Hid (∀ z (a1 : Option Addr) (c1 : Nat), Kds z S a1 → Calls Tryd.prog 22 #[.agg #[.int .i64 S.kind, .int .i64 S.num, .slice a1 S.cnt c1]] z fun e w' => e = .returned (.int .i64 s1) ∧ Below z.heap.size z w') := fun z a1 c1 hkz => by rw [hs1]; exact size_any S (by have := hwS.2.2.1; omega) (wf_big hwS.1) a1 c1 z hkz
  have CZ2 : Hid (∀ z, Below w.heap.size w z → Calls Tryd.prog 22 #[.agg #[.int .i64 t.kind, .int .i64 t.num, .slice a t.cnt cap]] z fun e w' => e = .returned (.int .i64 s2) ∧ Below z.heap.size z w') := fun z hz => by rw [hs2]; exact size_any t (by omega) hc a cap z (hk.below hz)
  have hdz : decide ((s2 : Int) < (s1 : Int)) = false := decide_eq_false (by have := hwS.2.2.1; omega)
  have hdz2 : ¬ (s2 < s1) := by have := hwS.2.2.1; omega
  have hdz3 : s1 ≤ s2 := by omega
  have hs8 := nt_shape t hw false
  have e8 := nt_again hw
  obtain ⟨G, hG⟩ : ∃ y, y = nt t false := ⟨_, rfl⟩
  rw [← hG] at hs8 e8 q8
  have C8 : Hid (∀ z, Below w.heap.size w z → Calls Tryd.prog 8 #[.agg #[.int .i64 t.kind, .int .i64 t.num, .slice a t.cnt cap]] z fun e w' => ∃ (a' : Option Addr) (c' : Nat), e = .returned (.tuple #[.agg #[.int .i64 G.kind, .int .i64 G.num, .slice a' G.cnt c'], .int .i64 0]) ∧ Kds w' G a' ∧ Below z.heap.size z w') := fun z hz => by
    refine (nots8 a cap z (hkc.below hz hkc.pos) (h1.below hz) (hk.below hz) hc).mono ?_
    rintro e w' ⟨a', c', he, hk', hb⟩
    rw [← hG, cgv_ok q q8] at he hk'
    exact ⟨a', c', he, hk'.out, hb⟩
  have C8b : Hid (∀ z (aS : Option Addr) (cS : Nat), Kds z G aS → Below w.heap.size w z → Calls Tryd.prog 8 #[.agg #[.int .i64 G.kind, .int .i64 G.num, .slice aS G.cnt cS]] z fun e w' => ∃ (a' : Option Addr) (c' : Nat), e = .returned (.tuple #[.agg #[.int .i64 G.kind, .int .i64 G.num, .slice a' G.cnt c'], .int .i64 0]) ∧ Kds w' G a' ∧ Below z.heap.size z w') := fun z aS cS hkS hz => by
    refine (nots8 aS cS z (hkc.below hz hkc.pos) (h1.below hz) hkS (wf_big hs8.1)).mono ?_
    rintro e w' ⟨a', c', he, hk', hb⟩
    rw [e8, cgv_ok q8 q8] at he hk'
    exact ⟨a', c', he, hk'.out, hb⟩
  have CGm : Hid (∀ z (a1 a2 : Option Addr) (c1 c2 : Nat), Kds z G a1 → Kds z G a2 → Calls Tryd.prog 17 #[.agg #[.int .i64 G.kind, .int .i64 G.num, .slice a1 G.cnt c1], .agg #[.int .i64 G.kind, .int .i64 G.num, .slice a2 G.cnt c2]] z fun e w' => e = .returned (.bool true) ∧ Below z.heap.size z w') := fun z a1 a2 c1 c2 hk1 hk2 => by
    have := same17 G G a1 a2 c1 c2 z hk1 hk2 (wf_big hs8.1) (wf_big hs8.1)
    rw [same_self] at this
    exact this
  have CGs : Hid (∀ z (a1 : Option Addr) (c1 : Nat), Kds z G a1 → Calls Tryd.prog 21 #[.agg #[.int .i64 G.kind, .int .i64 G.num, .slice a1 G.cnt c1]] z fun e w' => e = .returned (.bool true) ∧ Below z.heap.size z w') := fun z a1 c1 hkz => shaped_any G hs8.1 hs8.2 a1 c1 z hkz
  clear hG hs8 e8
  obtain ⟨PN, hPN⟩ : ∃ y, y = pn t := ⟨_, rfl⟩
  have hh := pn_has t hw
  have hwp := pn_wf t hw
  rw [← hPN] at hh hwp q9
  have C9 : Hid (∀ z, Below w.heap.size w z → Calls Tryd.prog 9 #[.agg #[.int .i64 t.kind, .int .i64 t.num, .slice a t.cnt cap]] z fun e w' => ∃ (a' : Option Addr) (c' : Nat), e = .returned (.tuple #[.agg #[.int .i64 PN.kind, .int .i64 PN.num, .slice a' PN.cnt c'], .int .i64 0]) ∧ Kds w' PN a' ∧ Below z.heap.size z w') := fun z hz => by
    refine (plain9 a cap z (hkc.below hz hkc.pos) (hk.below hz) hc).mono ?_
    rintro e w' ⟨a', c', he, hk', hb⟩
    rw [← hPN, cgv_ok q q9] at he hk'
    exact ⟨a', c', he, hk'.out, hb⟩
  have CH : Hid (∀ (k : Int), k = 10 ∨ k = 11 → ∀ z (a1 : Option Addr) (c1 : Nat), Kds z PN a1 → Calls Tryd.prog 23 #[.agg #[.int .i64 PN.kind, .int .i64 PN.num, .slice a1 PN.cnt c1], .int .i64 k] z fun e w' => e = .returned (.bool false) ∧ Below z.heap.size z w') := fun k hk z a1 c1 hkz => has_any k PN hwp (hh k hk) a1 c1 z hkz
  clear hh hwp
  clear hu hB hT hk hc hkc h1 q q8 q9 hw hwS qS hS hsT hs1 hs2 hPN
  go_enter Tryd.func6, Tryd.ntmps6
  go_wp2_with fail
  rw [← HU.out]
  refine A1.out.mono ?_
  rintro e p1 ⟨a1, c1, rfl, hk1, hb1⟩
  have HB1 : Hid (Below u.heap.size u p1) := hb1
  have B2 := hid (A2.out p1 a1 c1)
  clear hk1 hb1 A1 A2 HU
  have e1 : (nd 3 1).kind = 3 := rfl
  have e2 : (nd 3 1).num = 1 := rfl
  have e3 : (nd 3 1).cnt = 0 := rfl
  simp only [e1, e2, e3]
  clear e1 e2 e3
  go_wp2_with fail
  refine B2.out.mono ?_
  rintro e p2 ⟨a2, c2, rfl, hk2, hb2⟩
  have HB2 : Hid (Below u.heap.size u p2) := HB1.out.trans (hb2.mono HB1.out.size)
  have B3 := hid (A3.out p2 a2 c2 (HX.out p2 HB2.out).2 hk2)
  clear hk2 hb2 B2 A3
  go_wp2_with fail
  refine B3.out.mono ?_
  rintro e p3 ⟨a3, c3, rfl, hb3⟩
  have HB3 : Hid (Below u.heap.size u p3) := HB2.out.trans (hb3.mono HB2.out.size)
  obtain ⟨v3, hv3⟩ : ∃ y, y = p3.alloc (.cells #[.int .i64 3, .int .i64 1, .slice a3 0 c3] 24) := ⟨_, rfl⟩
  have hbv : Below p3.heap.size p3 v3 := by rw [hv3]; exact box_below _ _
  have HXV : Hid (∀ y, Below v3.heap.size v3 y → y.cell? ⟨p3.heap.size, 0, none⟩ = some (.int .i64 3) ∧ y.cell? ⟨p3.heap.size, 1, none⟩ = some (.int .i64 1) ∧ y.cell? ⟨p3.heap.size, 2, none⟩ = some (.slice a3 0 c3)) := fun y hy => (tri_cells (Tri.below (show Tri v3 p3.heap.size (.int .i64 3) (.int .i64 1) (.slice a3 0 c3) by rw [hv3]; exact tri_new _ _ _ _) hy)).1
  have HBV : Hid (Below u.heap.size u v3) := HB3.out.trans (hbv.mono HB3.out.size)
  have HV3 := hid hv3
  clear hb3 hbv hv3 B3
  go_wp2
  rw [← HV3.out]
  have hB0 : Below v3.heap.size v3 v3.drew := below_drewN (Below.refl _ _) 1
  refine G_region (fun y => y.cell? ⟨p3.heap.size, 0, none⟩ = some (.int .i64 3) ∧ y.cell? ⟨p3.heap.size, 1, none⟩ = some (.int .i64 1) ∧ y.cell? ⟨p3.heap.size, 2, none⟩ = some (.slice a3 0 c3)) (fun _ => false) (by kernel_rfl) (HXV.out _ hB0) (fun _ => ?_)
  refine G_take (i := 0) (oi := { dst := some 23, op := Op.move (Operand.tmp 4), type := 25, pos := _, after := #[], guard := none }) (v := .int .i64 0) rfl (by kernel_rfl) (by kernel_rfl) (by kernel_rfl) (by kernel_rfl) (fun _ _ _ h => h) (by rfl) (fun u hu => ?_) (HXV.out _ hB0) ?_
  · (try dsimp only at hu); go_simp
  (try simp only [Act.put, List.setIfInBounds_toArray, List.set_cons_zero, List.set_cons_succ])
  refine G_take (i := 1) (oi := { dst := some 24, op := Op.binOp BinOp.neq 25 (Operand.tmp 23) (Operand.const (Value.int IntKind.i64 0)) 25, type := 4, pos := _, after := #[{ on := 0, ground := Ground.data }], guard := none }) (v := .bool false) rfl (by kernel_rfl) (by kernel_rfl) (by kernel_rfl) (by kernel_rfl) (fun _ _ _ h => h) (by rfl) (fun u hu => ?_) (HXV.out _ hB0) ?_
  · (try dsimp only at hu); go_simp
  (try simp only [Act.put, List.setIfInBounds_toArray, List.set_cons_zero, List.set_cons_succ])
  refine G_take (i := 2) (oi := { dst := some 25, op := Op.move (Operand.tmp 24), type := 4, pos := _, after := #[{ on := 1, ground := Ground.data }], guard := none }) (v := .bool false) rfl (by kernel_rfl) (by kernel_rfl) (by kernel_rfl) (by kernel_rfl) (fun _ _ _ h => h) (by rfl) (fun u hu => ?_) (HXV.out _ hB0) ?_
  · (try dsimp only at hu); go_simp
  (try simp only [Act.put, List.setIfInBounds_toArray, List.set_cons_zero, List.set_cons_succ])
  refine G_take (i := 3) (oi := { dst := some 26, op := Op.load 24 (Operand.tmp 3), type := 24, pos := _, after := #[{ on := 2, ground := Ground.guard }], guard := some (2, false) }) (v := .agg #[.int .i64 3, .int .i64 1, .slice a3 0 c3]) rfl (by kernel_rfl) (by kernel_rfl) (by kernel_rfl) (by kernel_rfl) (fun _ _ _ h => h) (by rfl) (fun u hu => ?_) (HXV.out _ hB0) ?_
  · (try dsimp only at hu); go_simp
  (try simp only [Act.put, List.setIfInBounds_toArray, List.set_cons_zero, List.set_cons_succ])
  obtain ⟨q0, hq0⟩ : ∃ y, y = v3.drew := ⟨_, rfl⟩
  rw [← hq0] at hB0 ⊢
  clear hq0
  refine G_step (i := 4) (o := { dst := some 27, op := Op.call { callee := Callee.value (Operand.func 16), args := #[Operand.const (Value.int IntKind.i64 1)], argTypes := #[3] }, type := 24, pos := _, after := #[{ on := 2, ground := Ground.chain }, { on := 2, ground := Ground.guard }], guard := some (2, false) }) (by kernel_rfl) rfl (fun K' hK => ?_)
  go_simp
  go_at_call 16
  refine (atom_f 1 q0).mono ?_
  rintro e q1 ⟨a4, c4, rfl, hk4, hb4⟩
  dsimp only
  have hB1 := hB0.trans (hb4.mono hB0.size)
  refine hK.out _ _ (fun _ => HXV.out _ hB1) (fun _ => ?_)
  clear hK K' hb4 hk4 hB0
  (try simp only [Act.put, List.setIfInBounds_toArray, List.set_cons_zero, List.set_cons_succ])
  have e1 : (nd 3 1).kind = 3 := rfl
  have e2 : (nd 3 1).num = 1 := rfl
  have e3 : (nd 3 1).cnt = 0 := rfl
  simp only [e1, e2, e3]
  clear e1 e2 e3
  refine G_step (i := 5) (o := { dst := some 28, op := Op.call { callee := Callee.value (Operand.func 17), args := #[Operand.tmp 26, Operand.tmp 27], argTypes := #[24, 24] }, type := 4, pos := _, after := #[{ on := 3, ground := Ground.data }, { on := 4, ground := Ground.data }, { on := 4, ground := Ground.chain }, { on := 2, ground := Ground.guard }], guard := some (2, false) }) (by kernel_rfl) rfl (fun K' hK => ?_)
  go_simp
  go_at_call 17
  refine (A5.out q1 a3 a4 c3 c4).mono ?_
  rintro e q2 ⟨rfl, hb5⟩
  dsimp only
  have hB2 := hB1.trans (hb5.mono hB1.size)
  refine hK.out _ _ (fun _ => HXV.out _ hB2) (fun _ => ?_)
  clear hK K' hb5 hB1
  (try simp only [Act.put, List.setIfInBounds_toArray, List.set_cons_zero, List.set_cons_succ])
  refine G_take (i := 6) (oi := { dst := some 29, op := Op.unOp UnOp.not 4 (Operand.tmp 28), type := 4, pos := _, after := #[{ on := 5, ground := Ground.data }, { on := 2, ground := Ground.guard }], guard := some (2, false) }) (v := .bool false) rfl (by kernel_rfl) (by kernel_rfl) (by kernel_rfl) (by kernel_rfl) (fun _ _ _ h => h) (by rfl) (fun u hu => ?_) (HXV.out _ hB2) ?_
  · (try dsimp only at hu); go_simp
  (try simp only [Act.put, List.setIfInBounds_toArray, List.set_cons_zero, List.set_cons_succ])
  refine G_take (i := 7) (oi := { dst := some 30, op := Op.pick (Operand.tmp 25) (Operand.const (Value.bool true)) (Operand.tmp 29), type := 4, pos := _, after := #[{ on := 2, ground := Ground.data }, { on := 6, ground := Ground.data }], guard := none }) (v := .bool false) rfl (by kernel_rfl) (by kernel_rfl) (by kernel_rfl) (by kernel_rfl) (fun _ _ _ h => h) (by rfl) (fun u hu => ?_) (HXV.out _ hB2) ?_
  · (try dsimp only at hu); go_simp
  (try simp only [Act.put, List.setIfInBounds_toArray, List.set_cons_zero, List.set_cons_succ])
  refine G_done (by kernel_rfl) ?_ _
  have HB4 : Hid (Below u.heap.size u q2) := HBV.out.trans (hB2.mono HBV.out.size)
  clear hB2 HXV HBV HV3 HB1 HB2 HB3 A5
  obtain ⟨x0, x1, x2⟩ := (tri_cells (HX.out q2 HB4.out).1).1
  have D20 := hid (C20.out q2 (HX.out q2 HB4.out).2)
  go_wp2_with fail
  refine D20.out.mono ?_
  rintro e y1 ⟨rfl, hb⟩
  have HB5 : Hid (Below u.heap.size u y1) := HB4.out.trans (hb.mono HB4.out.size)
  clear hb D20 x0 x1 x2
  obtain ⟨x0, x1, x2⟩ := (tri_cells (HX.out y1 HB5.out).1).1
  have D := hid (C8.out y1 (HX.out y1 HB5.out).2)
  go_wp2_with fail
  refine D.out.mono ?_
  rintro e y2 ⟨ay2, cy2, rfl, hkg, hb⟩
  obtain ⟨v2, hv⟩ : ∃ q, q = y2.alloc (.cells #[.int .i64 G.kind, .int .i64 G.num, .slice ay2 G.cnt cy2] 24) := ⟨_, rfl⟩
  have hbv : Below y2.heap.size y2 v2 := by rw [hv]; exact box_below _ _
  have HB6 : Hid (Below u.heap.size u v2) := HB5.out.trans ((hb.trans (hbv.mono hb.size)).mono HB5.out.size)
  have HTv2 : Hid (∀ z, Below v2.heap.size v2 z → Tri z y2.heap.size (.int .i64 G.kind) (.int .i64 G.num) (.slice ay2 G.cnt cy2) ∧ Kds z G ay2) := fun z hz => ⟨Tri.below (show Tri v2 y2.heap.size (.int .i64 G.kind) (.int .i64 G.num) (.slice ay2 G.cnt cy2) by rw [hv]; exact tri_new _ _ _ _) hz, (hkg.below hbv).below hz⟩
  have HByv2 : Hid (Below y1.heap.size y1 v2) := hb.trans (hbv.mono hb.size)
  have HVv2 := hid hv
  clear hb hbv hkg hv D x0 x1 x2
  obtain ⟨m0, m1, m2⟩ := (tri_cells (HTv2.out v2 (Below.refl _ _)).1).1
  rw [HVv2.out] at m0 m1 m2
  obtain ⟨x0, x1, x2⟩ := (tri_cells (HX.out v2 HB6.out).1).1
  rw [HVv2.out] at x0 x1 x2
  have D := hid (C8b.out v2 ay2 cy2 (HTv2.out v2 (Below.refl _ _)).2 (HX.out v2 HB6.out).2)
  go_wp2_with fail
  rw [← HVv2.out]
  refine D.out.mono ?_
  rintro e y3 ⟨ay3, cy3, rfl, hkg, hb⟩
  obtain ⟨v3, hv⟩ : ∃ q, q = y3.alloc (.cells #[.int .i64 G.kind, .int .i64 G.num, .slice ay3 G.cnt cy3] 24) := ⟨_, rfl⟩
  have hbv : Below y3.heap.size y3 v3 := by rw [hv]; exact box_below _ _
  have HB7 : Hid (Below u.heap.size u v3) := HB6.out.trans ((hb.trans (hbv.mono hb.size)).mono HB6.out.size)
  have HTv3 : Hid (∀ z, Below v3.heap.size v3 z → Tri z y3.heap.size (.int .i64 G.kind) (.int .i64 G.num) (.slice ay3 G.cnt cy3) ∧ Kds z G ay3) := fun z hz => ⟨Tri.below (show Tri v3 y3.heap.size (.int .i64 G.kind) (.int .i64 G.num) (.slice ay3 G.cnt cy3) by rw [hv]; exact tri_new _ _ _ _) hz, (hkg.below hbv).below hz⟩
  have HByv3 : Hid (Below v2.heap.size v2 v3) := hb.trans (hbv.mono hb.size)
  have HVv3 := hid hv
  clear hb hbv hkg hv D x0 x1 x2
  clear m0 m1 m2
  obtain ⟨m0, m1, m2⟩ := (tri_cells (HTv2.out v3 HByv3.out).1).1
  rw [HVv3.out] at m0 m1 m2
  have D := hid (CGs.out v3 ay2 cy2 (HTv2.out v3 HByv3.out).2)
  go_wp2_with fail
  rw [← HVv3.out]
  refine D.out.mono ?_
  rintro e y4 ⟨rfl, hb⟩
  have HBy4 : Hid (Below v3.heap.size v3 y4) := hb
  clear hb D m0 m1 m2
  have h24 := HByv3.out.trans (HBy4.out.mono HByv3.out.size)
  obtain ⟨m0, m1, m2⟩ := (tri_cells (HTv2.out y4 h24).1).1
  obtain ⟨n0, n1, n2⟩ := (tri_cells (HTv3.out y4 HBy4.out).1).1
  have D := hid (CGm.out y4 ay2 ay3 cy2 cy3 (HTv2.out y4 h24).2 (HTv3.out y4 HBy4.out).2)
  clear h24
  go_wp2_with fail
  refine D.out.mono ?_
  rintro e y5 ⟨rfl, hb⟩
  have HB8 : Hid (Below u.heap.size u y5) := HB7.out.trans ((HBy4.out.trans (hb.mono HBy4.out.size)).mono HB7.out.size)
  clear hb D m0 m1 m2 n0 n1 n2 HBy4 HTv2 HTv3 HVv2 HVv3 HByv2 HByv3 HB6 HB7
  obtain ⟨x0, x1, x2⟩ := (tri_cells (HX.out y5 HB8.out).1).1
  have D := hid (CS.out y5 (HX.out y5 HB8.out).2)
  go_wp2_with fail
  refine D.out.mono ?_
  rintro e y6 ⟨ay6, cy6, rfl, hkg, hb⟩
  obtain ⟨v6, hv⟩ : ∃ q, q = y6.alloc (.cells #[.int .i64 S.kind, .int .i64 S.num, .slice ay6 S.cnt cy6] 24) := ⟨_, rfl⟩
  have hbv : Below y6.heap.size y6 v6 := by rw [hv]; exact box_below _ _
  have HB9 : Hid (Below u.heap.size u v6) := HB8.out.trans ((hb.trans (hbv.mono hb.size)).mono HB8.out.size)
  have HTv6 : Hid (∀ z, Below v6.heap.size v6 z → Tri z y6.heap.size (.int .i64 S.kind) (.int .i64 S.num) (.slice ay6 S.cnt cy6) ∧ Kds z S ay6) := fun z hz => ⟨Tri.below (show Tri v6 y6.heap.size (.int .i64 S.kind) (.int .i64 S.num) (.slice ay6 S.cnt cy6) by rw [hv]; exact tri_new _ _ _ _) hz, (hkg.below hbv).below hz⟩
  have HByv6 : Hid (Below y5.heap.size y5 v6) := hb.trans (hbv.mono hb.size)
  have HVv6 := hid hv
  clear hb hbv hkg hv D x0 x1 x2
  obtain ⟨m0, m1, m2⟩ := (tri_cells (HTv6.out v6 (Below.refl _ _)).1).1
  rw [HVv6.out] at m0 m1 m2
  obtain ⟨x0, x1, x2⟩ := (tri_cells (HX.out v6 HB9.out).1).1
  rw [HVv6.out] at x0 x1 x2
  have D := hid (CS2.out v6 ay6 cy6 (HTv6.out v6 (Below.refl _ _)).2 (HX.out v6 HB9.out).2)
  go_wp2_with fail
  rw [← HVv6.out]
  refine D.out.mono ?_
  rintro e y7 ⟨ay7, cy7, rfl, hkg, hb⟩
  obtain ⟨v7, hv⟩ : ∃ q, q = y7.alloc (.cells #[.int .i64 S.kind, .int .i64 S.num, .slice ay7 S.cnt cy7] 24) := ⟨_, rfl⟩
  have hbv : Below y7.heap.size y7 v7 := by rw [hv]; exact box_below _ _
  have HB10 : Hid (Below u.heap.size u v7) := HB9.out.trans ((hb.trans (hbv.mono hb.size)).mono HB9.out.size)
  have HTv7 : Hid (∀ z, Below v7.heap.size v7 z → Tri z y7.heap.size (.int .i64 S.kind) (.int .i64 S.num) (.slice ay7 S.cnt cy7) ∧ Kds z S ay7) := fun z hz => ⟨Tri.below (show Tri v7 y7.heap.size (.int .i64 S.kind) (.int .i64 S.num) (.slice ay7 S.cnt cy7) by rw [hv]; exact tri_new _ _ _ _) hz, (hkg.below hbv).below hz⟩
  have HByv7 : Hid (Below v6.heap.size v6 v7) := hb.trans (hbv.mono hb.size)
  have HVv7 := hid hv
  clear hb hbv hkg hv D x0 x1 x2
  clear m0 m1 m2
  have HS : Hid (∀ z, Below v7.heap.size v7 z → (z.cell? ⟨y6.heap.size, 0, none⟩ = some (.int .i64 S.kind) ∧ z.cell? ⟨y6.heap.size, 1, none⟩ = some (.int .i64 S.num) ∧ z.cell? ⟨y6.heap.size, 2, none⟩ = some (.slice ay6 S.cnt cy6)) ∧ (z.cell? ⟨y7.heap.size, 0, none⟩ = some (.int .i64 S.kind) ∧ z.cell? ⟨y7.heap.size, 1, none⟩ = some (.int .i64 S.num) ∧ z.cell? ⟨y7.heap.size, 2, none⟩ = some (.slice ay7 S.cnt cy7)) ∧ z.cell? ⟨w.heap.size, 0, none⟩ = some (.int .i64 t.kind) ∧ z.cell? ⟨w.heap.size, 1, none⟩ = some (.int .i64 t.num) ∧ z.cell? ⟨w.heap.size, 2, none⟩ = some (.slice a t.cnt cap)) := fun z hz => ⟨(tri_cells (HTv6.out z (HByv7.out.trans (hz.mono HByv7.out.size))).1).1, (tri_cells (HTv7.out z hz).1).1, (tri_cells (HX.out z (HB10.out.trans (hz.mono HB10.out.size))).1).1⟩
  have HKS : Hid (∀ z, Below v7.heap.size v7 z → (Kds z S ay6 ∧ Kds z S ay7) ∧ Below w.heap.size w z) := fun z hz => ⟨⟨(HTv6.out z (HByv7.out.trans (hz.mono HByv7.out.size))).2, (HTv7.out z hz).2⟩, (HX.out z (HB10.out.trans (hz.mono HB10.out.size))).2⟩
  go_wp2
  rw [← HVv7.out]
  have hB0 : Below v7.heap.size v7 v7.drew := below_drewN (Below.refl _ _) 1
  refine G_region (fun z => (z.cell? ⟨y6.heap.size, 0, none⟩ = some (.int .i64 S.kind) ∧ z.cell? ⟨y6.heap.size, 1, none⟩ = some (.int .i64 S.num) ∧ z.cell? ⟨y6.heap.size, 2, none⟩ = some (.slice ay6 S.cnt cy6)) ∧ (z.cell? ⟨y7.heap.size, 0, none⟩ = some (.int .i64 S.kind) ∧ z.cell? ⟨y7.heap.size, 1, none⟩ = some (.int .i64 S.num) ∧ z.cell? ⟨y7.heap.size, 2, none⟩ = some (.slice ay7 S.cnt cy7)) ∧ z.cell? ⟨w.heap.size, 0, none⟩ = some (.int .i64 t.kind) ∧ z.cell? ⟨w.heap.size, 1, none⟩ = some (.int .i64 t.num) ∧ z.cell? ⟨w.heap.size, 2, none⟩ = some (.slice a t.cnt cap)) (fun _ => false) (by kernel_rfl) (HS.out _ hB0) (fun _ => ?_)
  refine G_take (i := 0) (oi := { dst := some 83, op := Op.move (Operand.tmp 12), type := 25, pos := _, after := #[], guard := none }) (v := .int .i64 0) rfl (by kernel_rfl) (by kernel_rfl) (by kernel_rfl) (by kernel_rfl) (fun _ _ _ h => h) (by rfl) (fun u hu => ?_) (HS.out _ hB0) ?_
  · (try dsimp only at hu); go_simp
  (try simp only [Act.put, List.setIfInBounds_toArray, List.set_cons_zero, List.set_cons_succ])
  refine G_take (i := 1) (oi := { dst := some 84, op := Op.binOp BinOp.neq 25 (Operand.tmp 83) (Operand.const (Value.int IntKind.i64 0)) 25, type := 4, pos := _, after := #[{ on := 0, ground := Ground.data }], guard := none }) (v := .bool false) rfl (by kernel_rfl) (by kernel_rfl) (by kernel_rfl) (by kernel_rfl) (fun _ _ _ h => h) (by rfl) (fun u hu => ?_) (HS.out _ hB0) ?_
  · (try dsimp only at hu); go_simp
  (try simp only [Act.put, List.setIfInBounds_toArray, List.set_cons_zero, List.set_cons_succ])
  refine G_take (i := 2) (oi := { dst := some 85, op := Op.move (Operand.tmp 84), type := 4, pos := _, after := #[{ on := 1, ground := Ground.data }], guard := none }) (v := .bool false) rfl (by kernel_rfl) (by kernel_rfl) (by kernel_rfl) (by kernel_rfl) (fun _ _ _ h => h) (by rfl) (fun u hu => ?_) (HS.out _ hB0) ?_
  · (try dsimp only at hu); go_simp
  (try simp only [Act.put, List.setIfInBounds_toArray, List.set_cons_zero, List.set_cons_succ])
  refine G_take (i := 3) (oi := { dst := some 86, op := Op.move (Operand.tmp 14), type := 25, pos := _, after := #[{ on := 2, ground := Ground.guard }], guard := some (2, false) }) (v := .int .i64 0) rfl (by kernel_rfl) (by kernel_rfl) (by kernel_rfl) (by kernel_rfl) (fun _ _ _ h => h) (by rfl) (fun u hu => ?_) (HS.out _ hB0) ?_
  · (try dsimp only at hu); go_simp
  (try simp only [Act.put, List.setIfInBounds_toArray, List.set_cons_zero, List.set_cons_succ])
  refine G_take (i := 4) (oi := { dst := some 87, op := Op.binOp BinOp.neq 25 (Operand.tmp 86) (Operand.const (Value.int IntKind.i64 0)) 25, type := 4, pos := _, after := #[{ on := 3, ground := Ground.data }, { on := 2, ground := Ground.guard }], guard := some (2, false) }) (v := .bool false) rfl (by kernel_rfl) (by kernel_rfl) (by kernel_rfl) (by kernel_rfl) (fun _ _ _ h => h) (by rfl) (fun u hu => ?_) (HS.out _ hB0) ?_
  · (try dsimp only at hu); go_simp
  (try simp only [Act.put, List.setIfInBounds_toArray, List.set_cons_zero, List.set_cons_succ])
  refine G_take (i := 5) (oi := { dst := some 88, op := Op.pick (Operand.tmp 85) (Operand.const (Value.bool true)) (Operand.tmp 87), type := 4, pos := _, after := #[{ on := 2, ground := Ground.data }, { on := 4, ground := Ground.data }], guard := none }) (v := .bool false) rfl (by kernel_rfl) (by kernel_rfl) (by kernel_rfl) (by kernel_rfl) (fun _ _ _ h => h) (by rfl) (fun u hu => ?_) (HS.out _ hB0) ?_
  · (try dsimp only at hu); go_simp
  (try simp only [Act.put, List.setIfInBounds_toArray, List.set_cons_zero, List.set_cons_succ])
  refine G_take (i := 6) (oi := { dst := some 89, op := Op.move (Operand.tmp 88), type := 4, pos := _, after := #[{ on := 5, ground := Ground.data }, { on := 2, ground := Ground.chain }], guard := none }) (v := .bool false) rfl (by kernel_rfl) (by kernel_rfl) (by kernel_rfl) (by kernel_rfl) (fun _ _ _ h => h) (by rfl) (fun u hu => ?_) (HS.out _ hB0) ?_
  · (try dsimp only at hu); go_simp
  (try simp only [Act.put, List.setIfInBounds_toArray, List.set_cons_zero, List.set_cons_succ])
  refine G_take (i := 7) (oi := { dst := some 90, op := Op.load 24 (Operand.tmp 11), type := 24, pos := _, after := #[{ on := 6, ground := Ground.guard }], guard := some (6, false) }) (v := .agg #[.int .i64 S.kind, .int .i64 S.num, .slice ay6 S.cnt cy6]) rfl (by kernel_rfl) (by kernel_rfl) (by kernel_rfl) (by kernel_rfl) (fun _ _ _ h => h) (by rfl) (fun u hu => ?_) (HS.out _ hB0) ?_
  · (try dsimp only at hu); go_simp
  (try simp only [Act.put, List.setIfInBounds_toArray, List.set_cons_zero, List.set_cons_succ])
  refine G_take (i := 8) (oi := { dst := some 91, op := Op.load 24 (Operand.tmp 13), type := 24, pos := _, after := #[{ on := 6, ground := Ground.guard }], guard := some (6, false) }) (v := .agg #[.int .i64 S.kind, .int .i64 S.num, .slice ay7 S.cnt cy7]) rfl (by kernel_rfl) (by kernel_rfl) (by kernel_rfl) (by kernel_rfl) (fun _ _ _ h => h) (by rfl) (fun u hu => ?_) (HS.out _ hB0) ?_
  · (try dsimp only at hu); go_simp
  (try simp only [Act.put, List.setIfInBounds_toArray, List.set_cons_zero, List.set_cons_succ])
  obtain ⟨q3, hq3⟩ : ∃ y, y = v7.drew := ⟨_, rfl⟩
  rw [← hq3] at hB0 ⊢
  clear hq3
  refine G_step (i := 9) (o := { dst := some 92, op := Op.call { callee := Callee.value (Operand.func 17), args := #[Operand.tmp 90, Operand.tmp 91], argTypes := #[24, 24] }, type := 4, pos := _, after := #[{ on := 7, ground := Ground.data }, { on := 8, ground := Ground.data }, { on := 6, ground := Ground.chain }, { on := 6, ground := Ground.guard }], guard := some (6, false) }) (by kernel_rfl) rfl (fun K' hK => ?_)
  go_simp
  go_at_call 17
  refine (CSm.out q3 ay6 ay7 cy6 cy7 (HKS.out q3 hB0).1.1 (HKS.out q3 hB0).1.2).mono ?_
  rintro e q4 ⟨rfl, hb⟩
  dsimp only
  have hB1 := hB0.trans (hb.mono hB0.size)
  refine hK.out _ _ (fun _ => HS.out _ hB1) (fun _ => ?_)
  clear hK K' hb hB0
  (try simp only [Act.put, List.setIfInBounds_toArray, List.set_cons_zero, List.set_cons_succ])
  refine G_take (i := 10) (oi := { dst := some 93, op := Op.unOp UnOp.not 4 (Operand.tmp 92), type := 4, pos := _, after := #[{ on := 9, ground := Ground.data }, { on := 6, ground := Ground.guard }], guard := some (6, false) }) (v := .bool false) rfl (by kernel_rfl) (by kernel_rfl) (by kernel_rfl) (by kernel_rfl) (fun _ _ _ h => h) (by rfl) (fun u hu => ?_) (HS.out _ hB1) ?_
  · (try dsimp only at hu); go_simp
  (try simp only [Act.put, List.setIfInBounds_toArray, List.set_cons_zero, List.set_cons_succ])
  refine G_take (i := 11) (oi := { dst := some 94, op := Op.pick (Operand.tmp 89) (Operand.const (Value.bool true)) (Operand.tmp 93), type := 4, pos := _, after := #[{ on := 6, ground := Ground.data }, { on := 10, ground := Ground.data }], guard := none }) (v := .bool false) rfl (by kernel_rfl) (by kernel_rfl) (by kernel_rfl) (by kernel_rfl) (fun _ _ _ h => h) (by rfl) (fun u hu => ?_) (HS.out _ hB1) ?_
  · (try dsimp only at hu); go_simp
  (try simp only [Act.put, List.setIfInBounds_toArray, List.set_cons_zero, List.set_cons_succ])
  refine G_take (i := 12) (oi := { dst := some 95, op := Op.move (Operand.tmp 94), type := 4, pos := _, after := #[{ on := 11, ground := Ground.data }, { on := 9, ground := Ground.chain }], guard := none }) (v := .bool false) rfl (by kernel_rfl) (by kernel_rfl) (by kernel_rfl) (by kernel_rfl) (fun _ _ _ h => h) (by rfl) (fun u hu => ?_) (HS.out _ hB1) ?_
  · (try dsimp only at hu); go_simp
  (try simp only [Act.put, List.setIfInBounds_toArray, List.set_cons_zero, List.set_cons_succ])
  refine G_take (i := 13) (oi := { dst := some 96, op := Op.load 24 (Operand.tmp 11), type := 24, pos := _, after := #[{ on := 12, ground := Ground.guard }], guard := some (12, false) }) (v := .agg #[.int .i64 S.kind, .int .i64 S.num, .slice ay6 S.cnt cy6]) rfl (by kernel_rfl) (by kernel_rfl) (by kernel_rfl) (by kernel_rfl) (fun _ _ _ h => h) (by rfl) (fun u hu => ?_) (HS.out _ hB1) ?_
  · (try dsimp only at hu); go_simp
  (try simp only [Act.put, List.setIfInBounds_toArray, List.set_cons_zero, List.set_cons_succ])
  refine G_take (i := 15) (oi := { dst := some 98, op := Op.load 24 (Operand.tmp 1), type := 24, pos := _, after := #[{ on := 12, ground := Ground.guard }], guard := some (12, false) }) (v := .agg #[.int .i64 t.kind, .int .i64 t.num, .slice a t.cnt cap]) rfl (by kernel_rfl) (by kernel_rfl) (by kernel_rfl) (by kernel_rfl) (fun _ _ _ h => h) (by rfl) (fun u hu => ?_) (HS.out _ hB1) ?_
  · (try dsimp only at hu); go_simp
  (try simp only [Act.put, List.setIfInBounds_toArray, List.set_cons_zero, List.set_cons_succ])
  refine G_step (i := 14) (o := { dst := some 97, op := Op.call { callee := Callee.value (Operand.func 22), args := #[Operand.tmp 96], argTypes := #[24] }, type := 3, pos := _, after := #[{ on := 13, ground := Ground.data }, { on := 12, ground := Ground.chain }, { on := 12, ground := Ground.guard }], guard := some (12, false) }) (by kernel_rfl) rfl (fun K' hK => ?_)
  go_simp
  go_at_call 22
  refine (CZ1.out q4 ay6 cy6 (HKS.out q4 hB1).1.1).mono ?_
  rintro e q5 ⟨rfl, hb⟩
  dsimp only
  have hB2 := hB1.trans (hb.mono hB1.size)
  refine hK.out _ _ (fun _ => HS.out _ hB2) (fun _ => ?_)
  clear hK K' hb hB1
  (try simp only [Act.put, List.setIfInBounds_toArray, List.set_cons_zero, List.set_cons_succ])
  refine G_step (i := 16) (o := { dst := some 99, op := Op.call { callee := Callee.value (Operand.func 22), args := #[Operand.tmp 98], argTypes := #[24] }, type := 3, pos := _, after := #[{ on := 15, ground := Ground.data }, { on := 14, ground := Ground.chain }, { on := 12, ground := Ground.guard }], guard := some (12, false) }) (by kernel_rfl) rfl (fun K' hK => ?_)
  go_simp
  go_at_call 22
  refine (CZ2.out q5 (HKS.out q5 hB2).2).mono ?_
  rintro e q6 ⟨rfl, hb⟩
  dsimp only
  have hB3 := hB2.trans (hb.mono hB2.size)
  refine hK.out _ _ (fun _ => HS.out _ hB3) (fun _ => ?_)
  clear hK K' hb hB2
  (try simp only [Act.put, List.setIfInBounds_toArray, List.set_cons_zero, List.set_cons_succ])
  refine G_take (i := 17) (oi := { dst := some 100, op := Op.binOp BinOp.gtr 3 (Operand.tmp 97) (Operand.tmp 99) 3, type := 4, pos := _, after := #[{ on := 14, ground := Ground.data }, { on := 16, ground := Ground.data }, { on := 12, ground := Ground.guard }], guard := some (12, false) }) (v := .bool false) rfl (by kernel_rfl) (by kernel_rfl) (by kernel_rfl) (by kernel_rfl) (fun _ _ _ h => h) (by rfl) (fun u hu => ?_) (HS.out _ hB3) ?_
  · (try dsimp only at hu); go_simp
  (try simp only [Act.put, List.setIfInBounds_toArray, List.set_cons_zero, List.set_cons_succ])
  refine G_take (i := 18) (oi := { dst := some 101, op := Op.pick (Operand.tmp 95) (Operand.const (Value.bool true)) (Operand.tmp 100), type := 4, pos := _, after := #[{ on := 12, ground := Ground.data }, { on := 17, ground := Ground.data }], guard := none }) (v := .bool false) rfl (by kernel_rfl) (by kernel_rfl) (by kernel_rfl) (by kernel_rfl) (fun _ _ _ h => h) (by rfl) (fun u hu => ?_) (HS.out _ hB3) ?_
  · (try dsimp only at hu); go_simp
  (try simp only [Act.put, List.setIfInBounds_toArray, List.set_cons_zero, List.set_cons_succ])
  refine G_done (by kernel_rfl) ?_ _
  have HB11 : Hid (Below u.heap.size u q6) := HB10.out.trans (hB3.mono HB10.out.size)
  clear hB3 HS HKS HTv6 HTv7 HVv6 HVv7 HByv6 HByv7 HB9 HB10
  obtain ⟨x0, x1, x2⟩ := (tri_cells (HX.out q6 HB11.out).1).1
  have D := hid (C9.out q6 (HX.out q6 HB11.out).2)
  go_wp2_with fail
  refine D.out.mono ?_
  rintro e y9 ⟨ay9, cy9, rfl, hkg, hb⟩
  obtain ⟨v9, hv⟩ : ∃ q, q = y9.alloc (.cells #[.int .i64 PN.kind, .int .i64 PN.num, .slice ay9 PN.cnt cy9] 24) := ⟨_, rfl⟩
  have hbv : Below y9.heap.size y9 v9 := by rw [hv]; exact box_below _ _
  have HB12 : Hid (Below u.heap.size u v9) := HB11.out.trans ((hb.trans (hbv.mono hb.size)).mono HB11.out.size)
  have HTv9 : Hid (∀ z, Below v9.heap.size v9 z → Tri z y9.heap.size (.int .i64 PN.kind) (.int .i64 PN.num) (.slice ay9 PN.cnt cy9) ∧ Kds z PN ay9) := fun z hz => ⟨Tri.below (show Tri v9 y9.heap.size (.int .i64 PN.kind) (.int .i64 PN.num) (.slice ay9 PN.cnt cy9) by rw [hv]; exact tri_new _ _ _ _) hz, (hkg.below hbv).below hz⟩
  have HByv9 : Hid (Below q6.heap.size q6 v9) := hb.trans (hbv.mono hb.size)
  have HVv9 := hid hv
  clear hb hbv hkg hv D x0 x1 x2
  obtain ⟨m0, m1, m2⟩ := (tri_cells (HTv9.out v9 (Below.refl _ _)).1).1
  rw [HVv9.out] at m0 m1 m2
  have D := hid (CH.out 10 (Or.inl rfl) v9 ay9 cy9 (HTv9.out v9 (Below.refl _ _)).2)
  go_wp2_with fail
  rw [← HVv9.out]
  refine D.out.mono ?_
  rintro e y10 ⟨rfl, hb⟩
  have HBz : Hid (Below v9.heap.size v9 y10) := hb
  clear hb D m0 m1 m2
  obtain ⟨m0, m1, m2⟩ := (tri_cells (HTv9.out y10 HBz.out).1).1
  have D := hid (CH.out 11 (Or.inr rfl) y10 ay9 cy9 (HTv9.out y10 HBz.out).2)
  go_wp2_with fail
  refine D.out.mono ?_
  rintro e y11 ⟨rfl, hb⟩
  have HF := hid ((HX.out y11 (HB12.out.trans ((HBz.out.trans (hb.mono HBz.out.size)).mono HB12.out.size))).2)
  clear hb D m0 m1 m2
  go_wp2
  go_ret
  exact ⟨rfl, HF.out⟩

set_option maxHeartbeats 16000000 in
set_option maxRecDepth 20000 in
theorem shapes_ab {w : World} {t : Fml} {a : Option Addr} {cap : Nat} (hkc : kcAt w) (h1 : opA 1 w) (hk : Kds w t a) (hc : t.cnt ≤ 9223372036854775807) (q : (chk t 1 0).1 = 0) (q8 : (chk (nt t false) 1 0).1 = 0) (q9 : (chk (pn t) 1 0).1 ≠ 0) :
    Calls Tryd.prog 6 #[.agg #[.int .i64 t.kind, .int .i64 t.num, .slice a t.cnt cap]] w fun e w' => e = .returned (.bool true) ∧ Below w.heap.size w w' := by
  have hw := (chk_wf t 1 0 q).1
  have hwS := sl_right t hw
  have qS := sl_chk q
  obtain ⟨u, hu⟩ : ∃ y, y = w.alloc (.cells #[.int .i64 t.kind, .int .i64 t.num, .slice a t.cnt cap] 24) := ⟨_, rfl⟩
  have hB : Below w.heap.size w u := by rw [hu]; exact box_below _ _
  have hT : Tri u w.heap.size (.int .i64 t.kind) (.int .i64 t.num) (.slice a t.cnt cap) := by rw [hu]; exact tri_new _ _ _ _
  have HX : Hid (∀ z, Below u.heap.size u z → Tri z w.heap.size (.int .i64 t.kind) (.int .i64 t.num) (.slice a t.cnt cap) ∧ Below w.heap.size w z) := fun z hz => ⟨hT.below hz, hB.trans (hz.mono hB.size)⟩
  have A1 : Hid (Calls Tryd.prog 16 #[.int .i64 1] u fun e w' => Mk u (nd 3 1) e w') := atom_f 1 u
  have A2 : Hid (∀ z (a1 : Option Addr) (c1 : Nat), Calls Tryd.prog 19 #[.int .i64 5, .agg #[.int .i64 3, .int .i64 1, .slice a1 0 c1], .agg #[.int .i64 1, .int .i64 0, .slice none 0 0]] z fun e w' => Mk z xF e w') := fun z a1 c1 => two_f 5 (nd 3 1) a1 c1 (nd 1 0) none 0 z (kds_nd _ _ _ _) (Nat.zero_le _) (kds_nd _ _ _ _) (Nat.zero_le _)
  have A3 : Hid (∀ z (a1 : Option Addr) (c1 : Nat), Below w.heap.size w z → Kds z xF a1 → Calls Tryd.prog 13 #[.agg #[.int .i64 xF.kind, .int .i64 xF.num, .slice a1 xF.cnt c1]] z fun e w' => ∃ (a' : Option Addr) (c' : Nat), e = .returned (.tuple #[.agg #[.int .i64 3, .int .i64 1, .slice a' 0 c'], .int .i64 0]) ∧ Below z.heap.size z w') := fun z a1 c1 hz hk => by
    refine (slim13 a1 c1 z (hkc.below hz hkc.pos) (h1.below hz) hk (by show 2 ≤ 9223372036854775807; decide)).mono ?_
    rintro e w' ⟨a', c', he, _, hb⟩
    rw [xF_cgv] at he
    exact ⟨a', c', he, hb⟩
  have A5 : Hid (∀ z (a1 a2 : Option Addr) (c1 c2 : Nat), Calls Tryd.prog 17 #[.agg #[.int .i64 3, .int .i64 1, .slice a1 0 c1], .agg #[.int .i64 3, .int .i64 1, .slice a2 0 c2]] z fun e w' => e = .returned (.bool true) ∧ Below z.heap.size z w') := fun z a1 a2 c1 c2 => by
    have := same17 (nd 3 1) (nd 3 1) a1 a2 c1 c2 z (kds_nd _ _ _ _) (kds_nd _ _ _ _) (Nat.zero_le _) (Nat.zero_le _)
    rw [same_self] at this
    exact this
  have HU := hid hu
  have C20 : Hid (∀ z, Below w.heap.size w z → Calls Tryd.prog 20 #[.agg #[.int .i64 t.kind, .int .i64 t.num, .slice a t.cnt cap]] z fun e w' => e = .returned (.int .i64 0) ∧ Below z.heap.size z w') := fun z hz => by
    have := check_any t a cap z (hkc.below hz hkc.pos) (hk.below hz) hc
    rw [q] at this
    exact this
  obtain ⟨S, hS⟩ : ∃ y, y = sl t := ⟨_, rfl⟩
  rw [← hS] at hwS qS
  have CS : Hid (∀ z, Below w.heap.size w z → Calls Tryd.prog 13 #[.agg #[.int .i64 t.kind, .int .i64 t.num, .slice a t.cnt cap]] z fun e w' => ∃ (a' : Option Addr) (c' : Nat), e = .returned (.tuple #[.agg #[.int .i64 S.kind, .int .i64 S.num, .slice a' S.cnt c'], .int .i64 0]) ∧ Kds w' S a' ∧ Below z.heap.size z w') := fun z hz => by
    refine (slim13 a cap z (hkc.below hz hkc.pos) (h1.below hz) (hk.below hz) hc).mono ?_
    rintro e w' ⟨a', c', he, hk', hb⟩
    rw [← hS, cgv_ok q qS] at he hk'
    exact ⟨a', c', he, hk'.out, hb⟩
  have CS2 : Hid (∀ z (aS : Option Addr) (cS : Nat), Kds z S aS → Below w.heap.size w z → Calls Tryd.prog 13 #[.agg #[.int .i64 S.kind, .int .i64 S.num, .slice aS S.cnt cS]] z fun e w' => ∃ (a' : Option Addr) (c' : Nat), e = .returned (.tuple #[.agg #[.int .i64 S.kind, .int .i64 S.num, .slice a' S.cnt c'], .int .i64 0]) ∧ Kds w' S a' ∧ Below z.heap.size z w') := fun z aS cS hkS hz => by
    refine (slim13 aS cS z (hkc.below hz hkc.pos) (h1.below hz) hkS (wf_big hwS.1)).mono ?_
    rintro e w' ⟨a', c', he, hk', hb⟩
    have e2 : sl S = S := by rw [hS]; exact sl_again hw
    rw [e2, cgv_ok qS qS] at he hk'
    exact ⟨a', c', he, hk'.out, hb⟩
  have CSm : Hid (∀ z (a1 a2 : Option Addr) (c1 c2 : Nat), Kds z S a1 → Kds z S a2 → Calls Tryd.prog 17 #[.agg #[.int .i64 S.kind, .int .i64 S.num, .slice a1 S.cnt c1], .agg #[.int .i64 S.kind, .int .i64 S.num, .slice a2 S.cnt c2]] z fun e w' => e = .returned (.bool true) ∧ Below z.heap.size z w') := fun z a1 a2 c1 c2 hk1 hk2 => by
    have := same17 S S a1 a2 c1 c2 z hk1 hk2 (wf_big hwS.1) (wf_big hwS.1)
    rw [same_self] at this
    exact this
  have hsT := (chk_iff t).1 q
  obtain ⟨s1, hs1⟩ : ∃ y, y = sz S := ⟨_, rfl⟩
  obtain ⟨s2, hs2⟩ : ∃ y, y = sz t := ⟨_, rfl⟩
  have CZ1 : Hid (∀ z (a1 : Option Addr) (c1 : Nat), Kds z S a1 → Calls Tryd.prog 22 #[.agg #[.int .i64 S.kind, .int .i64 S.num, .slice a1 S.cnt c1]] z fun e w' => e = .returned (.int .i64 s1) ∧ Below z.heap.size z w') := fun z a1 c1 hkz => by rw [hs1]; exact size_any S (by have := hwS.2.2.1; omega) (wf_big hwS.1) a1 c1 z hkz
  have CZ2 : Hid (∀ z, Below w.heap.size w z → Calls Tryd.prog 22 #[.agg #[.int .i64 t.kind, .int .i64 t.num, .slice a t.cnt cap]] z fun e w' => e = .returned (.int .i64 s2) ∧ Below z.heap.size z w') := fun z hz => by rw [hs2]; exact size_any t (by omega) hc a cap z (hk.below hz)
  have hdz : decide ((s2 : Int) < (s1 : Int)) = false := decide_eq_false (by have := hwS.2.2.1; omega)
  have hdz2 : ¬ (s2 < s1) := by have := hwS.2.2.1; omega
  have hdz3 : s1 ≤ s2 := by omega
  have hs8 := nt_shape t hw false
  have e8 := nt_again hw
  obtain ⟨G, hG⟩ : ∃ y, y = nt t false := ⟨_, rfl⟩
  rw [← hG] at hs8 e8 q8
  have C8 : Hid (∀ z, Below w.heap.size w z → Calls Tryd.prog 8 #[.agg #[.int .i64 t.kind, .int .i64 t.num, .slice a t.cnt cap]] z fun e w' => ∃ (a' : Option Addr) (c' : Nat), e = .returned (.tuple #[.agg #[.int .i64 G.kind, .int .i64 G.num, .slice a' G.cnt c'], .int .i64 0]) ∧ Kds w' G a' ∧ Below z.heap.size z w') := fun z hz => by
    refine (nots8 a cap z (hkc.below hz hkc.pos) (h1.below hz) (hk.below hz) hc).mono ?_
    rintro e w' ⟨a', c', he, hk', hb⟩
    rw [← hG, cgv_ok q q8] at he hk'
    exact ⟨a', c', he, hk'.out, hb⟩
  have C8b : Hid (∀ z (aS : Option Addr) (cS : Nat), Kds z G aS → Below w.heap.size w z → Calls Tryd.prog 8 #[.agg #[.int .i64 G.kind, .int .i64 G.num, .slice aS G.cnt cS]] z fun e w' => ∃ (a' : Option Addr) (c' : Nat), e = .returned (.tuple #[.agg #[.int .i64 G.kind, .int .i64 G.num, .slice a' G.cnt c'], .int .i64 0]) ∧ Kds w' G a' ∧ Below z.heap.size z w') := fun z aS cS hkS hz => by
    refine (nots8 aS cS z (hkc.below hz hkc.pos) (h1.below hz) hkS (wf_big hs8.1)).mono ?_
    rintro e w' ⟨a', c', he, hk', hb⟩
    rw [e8, cgv_ok q8 q8] at he hk'
    exact ⟨a', c', he, hk'.out, hb⟩
  have CGm : Hid (∀ z (a1 a2 : Option Addr) (c1 c2 : Nat), Kds z G a1 → Kds z G a2 → Calls Tryd.prog 17 #[.agg #[.int .i64 G.kind, .int .i64 G.num, .slice a1 G.cnt c1], .agg #[.int .i64 G.kind, .int .i64 G.num, .slice a2 G.cnt c2]] z fun e w' => e = .returned (.bool true) ∧ Below z.heap.size z w') := fun z a1 a2 c1 c2 hk1 hk2 => by
    have := same17 G G a1 a2 c1 c2 z hk1 hk2 (wf_big hs8.1) (wf_big hs8.1)
    rw [same_self] at this
    exact this
  have CGs : Hid (∀ z (a1 : Option Addr) (c1 : Nat), Kds z G a1 → Calls Tryd.prog 21 #[.agg #[.int .i64 G.kind, .int .i64 G.num, .slice a1 G.cnt c1]] z fun e w' => e = .returned (.bool true) ∧ Below z.heap.size z w') := fun z a1 c1 hkz => shaped_any G hs8.1 hs8.2 a1 c1 z hkz
  clear hG hs8 e8
  obtain ⟨PN, hPN⟩ : ∃ y, y = nd 0 0 := ⟨_, rfl⟩
  obtain ⟨r9, hr9⟩ : ∃ y, y = (chk (pn t) 1 0).1 := ⟨_, rfl⟩
  have r9b : (r9 != 0) = true := by rw [hr9, bne_iff_ne]; exact q9
  have C9 : Hid (∀ z, Below w.heap.size w z → Calls Tryd.prog 9 #[.agg #[.int .i64 t.kind, .int .i64 t.num, .slice a t.cnt cap]] z fun e w' => ∃ (a' : Option Addr) (c' : Nat), e = .returned (.tuple #[.agg #[.int .i64 PN.kind, .int .i64 PN.num, .slice a' PN.cnt c'], .int .i64 r9]) ∧ Kds w' PN a' ∧ Below z.heap.size z w') := fun z hz => by
    refine (plain9 a cap z (hkc.below hz hkc.pos) (hk.below hz) hc).mono ?_
    rintro e w' ⟨a', c', he, hk', hb⟩
    rw [cgv_bad2 q q9, ← hr9, ← hPN] at he hk'
    exact ⟨a', c', he, hk'.out, hb⟩
  clear hr9
  clear hu hB hT hk hc hkc h1 q q8 q9 hw hwS qS hS hsT hs1 hs2 hPN
  go_enter Tryd.func6, Tryd.ntmps6
  go_wp2_with fail
  rw [← HU.out]
  refine A1.out.mono ?_
  rintro e p1 ⟨a1, c1, rfl, hk1, hb1⟩
  have HB1 : Hid (Below u.heap.size u p1) := hb1
  have B2 := hid (A2.out p1 a1 c1)
  clear hk1 hb1 A1 A2 HU
  have e1 : (nd 3 1).kind = 3 := rfl
  have e2 : (nd 3 1).num = 1 := rfl
  have e3 : (nd 3 1).cnt = 0 := rfl
  simp only [e1, e2, e3]
  clear e1 e2 e3
  go_wp2_with fail
  refine B2.out.mono ?_
  rintro e p2 ⟨a2, c2, rfl, hk2, hb2⟩
  have HB2 : Hid (Below u.heap.size u p2) := HB1.out.trans (hb2.mono HB1.out.size)
  have B3 := hid (A3.out p2 a2 c2 (HX.out p2 HB2.out).2 hk2)
  clear hk2 hb2 B2 A3
  go_wp2_with fail
  refine B3.out.mono ?_
  rintro e p3 ⟨a3, c3, rfl, hb3⟩
  have HB3 : Hid (Below u.heap.size u p3) := HB2.out.trans (hb3.mono HB2.out.size)
  obtain ⟨v3, hv3⟩ : ∃ y, y = p3.alloc (.cells #[.int .i64 3, .int .i64 1, .slice a3 0 c3] 24) := ⟨_, rfl⟩
  have hbv : Below p3.heap.size p3 v3 := by rw [hv3]; exact box_below _ _
  have HXV : Hid (∀ y, Below v3.heap.size v3 y → y.cell? ⟨p3.heap.size, 0, none⟩ = some (.int .i64 3) ∧ y.cell? ⟨p3.heap.size, 1, none⟩ = some (.int .i64 1) ∧ y.cell? ⟨p3.heap.size, 2, none⟩ = some (.slice a3 0 c3)) := fun y hy => (tri_cells (Tri.below (show Tri v3 p3.heap.size (.int .i64 3) (.int .i64 1) (.slice a3 0 c3) by rw [hv3]; exact tri_new _ _ _ _) hy)).1
  have HBV : Hid (Below u.heap.size u v3) := HB3.out.trans (hbv.mono HB3.out.size)
  have HV3 := hid hv3
  clear hb3 hbv hv3 B3
  go_wp2
  rw [← HV3.out]
  have hB0 : Below v3.heap.size v3 v3.drew := below_drewN (Below.refl _ _) 1
  refine G_region (fun y => y.cell? ⟨p3.heap.size, 0, none⟩ = some (.int .i64 3) ∧ y.cell? ⟨p3.heap.size, 1, none⟩ = some (.int .i64 1) ∧ y.cell? ⟨p3.heap.size, 2, none⟩ = some (.slice a3 0 c3)) (fun _ => false) (by kernel_rfl) (HXV.out _ hB0) (fun _ => ?_)
  refine G_take (i := 0) (oi := { dst := some 23, op := Op.move (Operand.tmp 4), type := 25, pos := _, after := #[], guard := none }) (v := .int .i64 0) rfl (by kernel_rfl) (by kernel_rfl) (by kernel_rfl) (by kernel_rfl) (fun _ _ _ h => h) (by rfl) (fun u hu => ?_) (HXV.out _ hB0) ?_
  · (try dsimp only at hu); go_simp
  (try simp only [Act.put, List.setIfInBounds_toArray, List.set_cons_zero, List.set_cons_succ])
  refine G_take (i := 1) (oi := { dst := some 24, op := Op.binOp BinOp.neq 25 (Operand.tmp 23) (Operand.const (Value.int IntKind.i64 0)) 25, type := 4, pos := _, after := #[{ on := 0, ground := Ground.data }], guard := none }) (v := .bool false) rfl (by kernel_rfl) (by kernel_rfl) (by kernel_rfl) (by kernel_rfl) (fun _ _ _ h => h) (by rfl) (fun u hu => ?_) (HXV.out _ hB0) ?_
  · (try dsimp only at hu); go_simp
  (try simp only [Act.put, List.setIfInBounds_toArray, List.set_cons_zero, List.set_cons_succ])
  refine G_take (i := 2) (oi := { dst := some 25, op := Op.move (Operand.tmp 24), type := 4, pos := _, after := #[{ on := 1, ground := Ground.data }], guard := none }) (v := .bool false) rfl (by kernel_rfl) (by kernel_rfl) (by kernel_rfl) (by kernel_rfl) (fun _ _ _ h => h) (by rfl) (fun u hu => ?_) (HXV.out _ hB0) ?_
  · (try dsimp only at hu); go_simp
  (try simp only [Act.put, List.setIfInBounds_toArray, List.set_cons_zero, List.set_cons_succ])
  refine G_take (i := 3) (oi := { dst := some 26, op := Op.load 24 (Operand.tmp 3), type := 24, pos := _, after := #[{ on := 2, ground := Ground.guard }], guard := some (2, false) }) (v := .agg #[.int .i64 3, .int .i64 1, .slice a3 0 c3]) rfl (by kernel_rfl) (by kernel_rfl) (by kernel_rfl) (by kernel_rfl) (fun _ _ _ h => h) (by rfl) (fun u hu => ?_) (HXV.out _ hB0) ?_
  · (try dsimp only at hu); go_simp
  (try simp only [Act.put, List.setIfInBounds_toArray, List.set_cons_zero, List.set_cons_succ])
  obtain ⟨q0, hq0⟩ : ∃ y, y = v3.drew := ⟨_, rfl⟩
  rw [← hq0] at hB0 ⊢
  clear hq0
  refine G_step (i := 4) (o := { dst := some 27, op := Op.call { callee := Callee.value (Operand.func 16), args := #[Operand.const (Value.int IntKind.i64 1)], argTypes := #[3] }, type := 24, pos := _, after := #[{ on := 2, ground := Ground.chain }, { on := 2, ground := Ground.guard }], guard := some (2, false) }) (by kernel_rfl) rfl (fun K' hK => ?_)
  go_simp
  go_at_call 16
  refine (atom_f 1 q0).mono ?_
  rintro e q1 ⟨a4, c4, rfl, hk4, hb4⟩
  dsimp only
  have hB1 := hB0.trans (hb4.mono hB0.size)
  refine hK.out _ _ (fun _ => HXV.out _ hB1) (fun _ => ?_)
  clear hK K' hb4 hk4 hB0
  (try simp only [Act.put, List.setIfInBounds_toArray, List.set_cons_zero, List.set_cons_succ])
  have e1 : (nd 3 1).kind = 3 := rfl
  have e2 : (nd 3 1).num = 1 := rfl
  have e3 : (nd 3 1).cnt = 0 := rfl
  simp only [e1, e2, e3]
  clear e1 e2 e3
  refine G_step (i := 5) (o := { dst := some 28, op := Op.call { callee := Callee.value (Operand.func 17), args := #[Operand.tmp 26, Operand.tmp 27], argTypes := #[24, 24] }, type := 4, pos := _, after := #[{ on := 3, ground := Ground.data }, { on := 4, ground := Ground.data }, { on := 4, ground := Ground.chain }, { on := 2, ground := Ground.guard }], guard := some (2, false) }) (by kernel_rfl) rfl (fun K' hK => ?_)
  go_simp
  go_at_call 17
  refine (A5.out q1 a3 a4 c3 c4).mono ?_
  rintro e q2 ⟨rfl, hb5⟩
  dsimp only
  have hB2 := hB1.trans (hb5.mono hB1.size)
  refine hK.out _ _ (fun _ => HXV.out _ hB2) (fun _ => ?_)
  clear hK K' hb5 hB1
  (try simp only [Act.put, List.setIfInBounds_toArray, List.set_cons_zero, List.set_cons_succ])
  refine G_take (i := 6) (oi := { dst := some 29, op := Op.unOp UnOp.not 4 (Operand.tmp 28), type := 4, pos := _, after := #[{ on := 5, ground := Ground.data }, { on := 2, ground := Ground.guard }], guard := some (2, false) }) (v := .bool false) rfl (by kernel_rfl) (by kernel_rfl) (by kernel_rfl) (by kernel_rfl) (fun _ _ _ h => h) (by rfl) (fun u hu => ?_) (HXV.out _ hB2) ?_
  · (try dsimp only at hu); go_simp
  (try simp only [Act.put, List.setIfInBounds_toArray, List.set_cons_zero, List.set_cons_succ])
  refine G_take (i := 7) (oi := { dst := some 30, op := Op.pick (Operand.tmp 25) (Operand.const (Value.bool true)) (Operand.tmp 29), type := 4, pos := _, after := #[{ on := 2, ground := Ground.data }, { on := 6, ground := Ground.data }], guard := none }) (v := .bool false) rfl (by kernel_rfl) (by kernel_rfl) (by kernel_rfl) (by kernel_rfl) (fun _ _ _ h => h) (by rfl) (fun u hu => ?_) (HXV.out _ hB2) ?_
  · (try dsimp only at hu); go_simp
  (try simp only [Act.put, List.setIfInBounds_toArray, List.set_cons_zero, List.set_cons_succ])
  refine G_done (by kernel_rfl) ?_ _
  have HB4 : Hid (Below u.heap.size u q2) := HBV.out.trans (hB2.mono HBV.out.size)
  clear hB2 HXV HBV HV3 HB1 HB2 HB3 A5
  obtain ⟨x0, x1, x2⟩ := (tri_cells (HX.out q2 HB4.out).1).1
  have D20 := hid (C20.out q2 (HX.out q2 HB4.out).2)
  go_wp2_with fail
  refine D20.out.mono ?_
  rintro e y1 ⟨rfl, hb⟩
  have HB5 : Hid (Below u.heap.size u y1) := HB4.out.trans (hb.mono HB4.out.size)
  clear hb D20 x0 x1 x2
  obtain ⟨x0, x1, x2⟩ := (tri_cells (HX.out y1 HB5.out).1).1
  have D := hid (C8.out y1 (HX.out y1 HB5.out).2)
  go_wp2_with fail
  refine D.out.mono ?_
  rintro e y2 ⟨ay2, cy2, rfl, hkg, hb⟩
  obtain ⟨v2, hv⟩ : ∃ q, q = y2.alloc (.cells #[.int .i64 G.kind, .int .i64 G.num, .slice ay2 G.cnt cy2] 24) := ⟨_, rfl⟩
  have hbv : Below y2.heap.size y2 v2 := by rw [hv]; exact box_below _ _
  have HB6 : Hid (Below u.heap.size u v2) := HB5.out.trans ((hb.trans (hbv.mono hb.size)).mono HB5.out.size)
  have HTv2 : Hid (∀ z, Below v2.heap.size v2 z → Tri z y2.heap.size (.int .i64 G.kind) (.int .i64 G.num) (.slice ay2 G.cnt cy2) ∧ Kds z G ay2) := fun z hz => ⟨Tri.below (show Tri v2 y2.heap.size (.int .i64 G.kind) (.int .i64 G.num) (.slice ay2 G.cnt cy2) by rw [hv]; exact tri_new _ _ _ _) hz, (hkg.below hbv).below hz⟩
  have HByv2 : Hid (Below y1.heap.size y1 v2) := hb.trans (hbv.mono hb.size)
  have HVv2 := hid hv
  clear hb hbv hkg hv D x0 x1 x2
  obtain ⟨m0, m1, m2⟩ := (tri_cells (HTv2.out v2 (Below.refl _ _)).1).1
  rw [HVv2.out] at m0 m1 m2
  obtain ⟨x0, x1, x2⟩ := (tri_cells (HX.out v2 HB6.out).1).1
  rw [HVv2.out] at x0 x1 x2
  have D := hid (C8b.out v2 ay2 cy2 (HTv2.out v2 (Below.refl _ _)).2 (HX.out v2 HB6.out).2)
  go_wp2_with fail
  rw [← HVv2.out]
  refine D.out.mono ?_
  rintro e y3 ⟨ay3, cy3, rfl, hkg, hb⟩
  obtain ⟨v3, hv⟩ : ∃ q, q = y3.alloc (.cells #[.int .i64 G.kind, .int .i64 G.num, .slice ay3 G.cnt cy3] 24) := ⟨_, rfl⟩
  have hbv : Below y3.heap.size y3 v3 := by rw [hv]; exact box_below _ _
  have HB7 : Hid (Below u.heap.size u v3) := HB6.out.trans ((hb.trans (hbv.mono hb.size)).mono HB6.out.size)
  have HTv3 : Hid (∀ z, Below v3.heap.size v3 z → Tri z y3.heap.size (.int .i64 G.kind) (.int .i64 G.num) (.slice ay3 G.cnt cy3) ∧ Kds z G ay3) := fun z hz => ⟨Tri.below (show Tri v3 y3.heap.size (.int .i64 G.kind) (.int .i64 G.num) (.slice ay3 G.cnt cy3) by rw [hv]; exact tri_new _ _ _ _) hz, (hkg.below hbv).below hz⟩
  have HByv3 : Hid (Below v2.heap.size v2 v3) := hb.trans (hbv.mono hb.size)
  have HVv3 := hid hv
  clear hb hbv hkg hv D x0 x1 x2
  clear m0 m1 m2
  obtain ⟨m0, m1, m2⟩ := (tri_cells (HTv2.out v3 HByv3.out).1).1
  rw [HVv3.out] at m0 m1 m2
  have D := hid (CGs.out v3 ay2 cy2 (HTv2.out v3 HByv3.out).2)
  go_wp2_with fail
  rw [← HVv3.out]
  refine D.out.mono ?_
  rintro e y4 ⟨rfl, hb⟩
  have HBy4 : Hid (Below v3.heap.size v3 y4) := hb
  clear hb D m0 m1 m2
  have h24 := HByv3.out.trans (HBy4.out.mono HByv3.out.size)
  obtain ⟨m0, m1, m2⟩ := (tri_cells (HTv2.out y4 h24).1).1
  obtain ⟨n0, n1, n2⟩ := (tri_cells (HTv3.out y4 HBy4.out).1).1
  have D := hid (CGm.out y4 ay2 ay3 cy2 cy3 (HTv2.out y4 h24).2 (HTv3.out y4 HBy4.out).2)
  clear h24
  go_wp2_with fail
  refine D.out.mono ?_
  rintro e y5 ⟨rfl, hb⟩
  have HB8 : Hid (Below u.heap.size u y5) := HB7.out.trans ((HBy4.out.trans (hb.mono HBy4.out.size)).mono HB7.out.size)
  clear hb D m0 m1 m2 n0 n1 n2 HBy4 HTv2 HTv3 HVv2 HVv3 HByv2 HByv3 HB6 HB7
  obtain ⟨x0, x1, x2⟩ := (tri_cells (HX.out y5 HB8.out).1).1
  have D := hid (CS.out y5 (HX.out y5 HB8.out).2)
  go_wp2_with fail
  refine D.out.mono ?_
  rintro e y6 ⟨ay6, cy6, rfl, hkg, hb⟩
  obtain ⟨v6, hv⟩ : ∃ q, q = y6.alloc (.cells #[.int .i64 S.kind, .int .i64 S.num, .slice ay6 S.cnt cy6] 24) := ⟨_, rfl⟩
  have hbv : Below y6.heap.size y6 v6 := by rw [hv]; exact box_below _ _
  have HB9 : Hid (Below u.heap.size u v6) := HB8.out.trans ((hb.trans (hbv.mono hb.size)).mono HB8.out.size)
  have HTv6 : Hid (∀ z, Below v6.heap.size v6 z → Tri z y6.heap.size (.int .i64 S.kind) (.int .i64 S.num) (.slice ay6 S.cnt cy6) ∧ Kds z S ay6) := fun z hz => ⟨Tri.below (show Tri v6 y6.heap.size (.int .i64 S.kind) (.int .i64 S.num) (.slice ay6 S.cnt cy6) by rw [hv]; exact tri_new _ _ _ _) hz, (hkg.below hbv).below hz⟩
  have HByv6 : Hid (Below y5.heap.size y5 v6) := hb.trans (hbv.mono hb.size)
  have HVv6 := hid hv
  clear hb hbv hkg hv D x0 x1 x2
  obtain ⟨m0, m1, m2⟩ := (tri_cells (HTv6.out v6 (Below.refl _ _)).1).1
  rw [HVv6.out] at m0 m1 m2
  obtain ⟨x0, x1, x2⟩ := (tri_cells (HX.out v6 HB9.out).1).1
  rw [HVv6.out] at x0 x1 x2
  have D := hid (CS2.out v6 ay6 cy6 (HTv6.out v6 (Below.refl _ _)).2 (HX.out v6 HB9.out).2)
  go_wp2_with fail
  rw [← HVv6.out]
  refine D.out.mono ?_
  rintro e y7 ⟨ay7, cy7, rfl, hkg, hb⟩
  obtain ⟨v7, hv⟩ : ∃ q, q = y7.alloc (.cells #[.int .i64 S.kind, .int .i64 S.num, .slice ay7 S.cnt cy7] 24) := ⟨_, rfl⟩
  have hbv : Below y7.heap.size y7 v7 := by rw [hv]; exact box_below _ _
  have HB10 : Hid (Below u.heap.size u v7) := HB9.out.trans ((hb.trans (hbv.mono hb.size)).mono HB9.out.size)
  have HTv7 : Hid (∀ z, Below v7.heap.size v7 z → Tri z y7.heap.size (.int .i64 S.kind) (.int .i64 S.num) (.slice ay7 S.cnt cy7) ∧ Kds z S ay7) := fun z hz => ⟨Tri.below (show Tri v7 y7.heap.size (.int .i64 S.kind) (.int .i64 S.num) (.slice ay7 S.cnt cy7) by rw [hv]; exact tri_new _ _ _ _) hz, (hkg.below hbv).below hz⟩
  have HByv7 : Hid (Below v6.heap.size v6 v7) := hb.trans (hbv.mono hb.size)
  have HVv7 := hid hv
  clear hb hbv hkg hv D x0 x1 x2
  clear m0 m1 m2
  have HS : Hid (∀ z, Below v7.heap.size v7 z → (z.cell? ⟨y6.heap.size, 0, none⟩ = some (.int .i64 S.kind) ∧ z.cell? ⟨y6.heap.size, 1, none⟩ = some (.int .i64 S.num) ∧ z.cell? ⟨y6.heap.size, 2, none⟩ = some (.slice ay6 S.cnt cy6)) ∧ (z.cell? ⟨y7.heap.size, 0, none⟩ = some (.int .i64 S.kind) ∧ z.cell? ⟨y7.heap.size, 1, none⟩ = some (.int .i64 S.num) ∧ z.cell? ⟨y7.heap.size, 2, none⟩ = some (.slice ay7 S.cnt cy7)) ∧ z.cell? ⟨w.heap.size, 0, none⟩ = some (.int .i64 t.kind) ∧ z.cell? ⟨w.heap.size, 1, none⟩ = some (.int .i64 t.num) ∧ z.cell? ⟨w.heap.size, 2, none⟩ = some (.slice a t.cnt cap)) := fun z hz => ⟨(tri_cells (HTv6.out z (HByv7.out.trans (hz.mono HByv7.out.size))).1).1, (tri_cells (HTv7.out z hz).1).1, (tri_cells (HX.out z (HB10.out.trans (hz.mono HB10.out.size))).1).1⟩
  have HKS : Hid (∀ z, Below v7.heap.size v7 z → (Kds z S ay6 ∧ Kds z S ay7) ∧ Below w.heap.size w z) := fun z hz => ⟨⟨(HTv6.out z (HByv7.out.trans (hz.mono HByv7.out.size))).2, (HTv7.out z hz).2⟩, (HX.out z (HB10.out.trans (hz.mono HB10.out.size))).2⟩
  go_wp2
  rw [← HVv7.out]
  have hB0 : Below v7.heap.size v7 v7.drew := below_drewN (Below.refl _ _) 1
  refine G_region (fun z => (z.cell? ⟨y6.heap.size, 0, none⟩ = some (.int .i64 S.kind) ∧ z.cell? ⟨y6.heap.size, 1, none⟩ = some (.int .i64 S.num) ∧ z.cell? ⟨y6.heap.size, 2, none⟩ = some (.slice ay6 S.cnt cy6)) ∧ (z.cell? ⟨y7.heap.size, 0, none⟩ = some (.int .i64 S.kind) ∧ z.cell? ⟨y7.heap.size, 1, none⟩ = some (.int .i64 S.num) ∧ z.cell? ⟨y7.heap.size, 2, none⟩ = some (.slice ay7 S.cnt cy7)) ∧ z.cell? ⟨w.heap.size, 0, none⟩ = some (.int .i64 t.kind) ∧ z.cell? ⟨w.heap.size, 1, none⟩ = some (.int .i64 t.num) ∧ z.cell? ⟨w.heap.size, 2, none⟩ = some (.slice a t.cnt cap)) (fun _ => false) (by kernel_rfl) (HS.out _ hB0) (fun _ => ?_)
  refine G_take (i := 0) (oi := { dst := some 83, op := Op.move (Operand.tmp 12), type := 25, pos := _, after := #[], guard := none }) (v := .int .i64 0) rfl (by kernel_rfl) (by kernel_rfl) (by kernel_rfl) (by kernel_rfl) (fun _ _ _ h => h) (by rfl) (fun u hu => ?_) (HS.out _ hB0) ?_
  · (try dsimp only at hu); go_simp
  (try simp only [Act.put, List.setIfInBounds_toArray, List.set_cons_zero, List.set_cons_succ])
  refine G_take (i := 1) (oi := { dst := some 84, op := Op.binOp BinOp.neq 25 (Operand.tmp 83) (Operand.const (Value.int IntKind.i64 0)) 25, type := 4, pos := _, after := #[{ on := 0, ground := Ground.data }], guard := none }) (v := .bool false) rfl (by kernel_rfl) (by kernel_rfl) (by kernel_rfl) (by kernel_rfl) (fun _ _ _ h => h) (by rfl) (fun u hu => ?_) (HS.out _ hB0) ?_
  · (try dsimp only at hu); go_simp
  (try simp only [Act.put, List.setIfInBounds_toArray, List.set_cons_zero, List.set_cons_succ])
  refine G_take (i := 2) (oi := { dst := some 85, op := Op.move (Operand.tmp 84), type := 4, pos := _, after := #[{ on := 1, ground := Ground.data }], guard := none }) (v := .bool false) rfl (by kernel_rfl) (by kernel_rfl) (by kernel_rfl) (by kernel_rfl) (fun _ _ _ h => h) (by rfl) (fun u hu => ?_) (HS.out _ hB0) ?_
  · (try dsimp only at hu); go_simp
  (try simp only [Act.put, List.setIfInBounds_toArray, List.set_cons_zero, List.set_cons_succ])
  refine G_take (i := 3) (oi := { dst := some 86, op := Op.move (Operand.tmp 14), type := 25, pos := _, after := #[{ on := 2, ground := Ground.guard }], guard := some (2, false) }) (v := .int .i64 0) rfl (by kernel_rfl) (by kernel_rfl) (by kernel_rfl) (by kernel_rfl) (fun _ _ _ h => h) (by rfl) (fun u hu => ?_) (HS.out _ hB0) ?_
  · (try dsimp only at hu); go_simp
  (try simp only [Act.put, List.setIfInBounds_toArray, List.set_cons_zero, List.set_cons_succ])
  refine G_take (i := 4) (oi := { dst := some 87, op := Op.binOp BinOp.neq 25 (Operand.tmp 86) (Operand.const (Value.int IntKind.i64 0)) 25, type := 4, pos := _, after := #[{ on := 3, ground := Ground.data }, { on := 2, ground := Ground.guard }], guard := some (2, false) }) (v := .bool false) rfl (by kernel_rfl) (by kernel_rfl) (by kernel_rfl) (by kernel_rfl) (fun _ _ _ h => h) (by rfl) (fun u hu => ?_) (HS.out _ hB0) ?_
  · (try dsimp only at hu); go_simp
  (try simp only [Act.put, List.setIfInBounds_toArray, List.set_cons_zero, List.set_cons_succ])
  refine G_take (i := 5) (oi := { dst := some 88, op := Op.pick (Operand.tmp 85) (Operand.const (Value.bool true)) (Operand.tmp 87), type := 4, pos := _, after := #[{ on := 2, ground := Ground.data }, { on := 4, ground := Ground.data }], guard := none }) (v := .bool false) rfl (by kernel_rfl) (by kernel_rfl) (by kernel_rfl) (by kernel_rfl) (fun _ _ _ h => h) (by rfl) (fun u hu => ?_) (HS.out _ hB0) ?_
  · (try dsimp only at hu); go_simp
  (try simp only [Act.put, List.setIfInBounds_toArray, List.set_cons_zero, List.set_cons_succ])
  refine G_take (i := 6) (oi := { dst := some 89, op := Op.move (Operand.tmp 88), type := 4, pos := _, after := #[{ on := 5, ground := Ground.data }, { on := 2, ground := Ground.chain }], guard := none }) (v := .bool false) rfl (by kernel_rfl) (by kernel_rfl) (by kernel_rfl) (by kernel_rfl) (fun _ _ _ h => h) (by rfl) (fun u hu => ?_) (HS.out _ hB0) ?_
  · (try dsimp only at hu); go_simp
  (try simp only [Act.put, List.setIfInBounds_toArray, List.set_cons_zero, List.set_cons_succ])
  refine G_take (i := 7) (oi := { dst := some 90, op := Op.load 24 (Operand.tmp 11), type := 24, pos := _, after := #[{ on := 6, ground := Ground.guard }], guard := some (6, false) }) (v := .agg #[.int .i64 S.kind, .int .i64 S.num, .slice ay6 S.cnt cy6]) rfl (by kernel_rfl) (by kernel_rfl) (by kernel_rfl) (by kernel_rfl) (fun _ _ _ h => h) (by rfl) (fun u hu => ?_) (HS.out _ hB0) ?_
  · (try dsimp only at hu); go_simp
  (try simp only [Act.put, List.setIfInBounds_toArray, List.set_cons_zero, List.set_cons_succ])
  refine G_take (i := 8) (oi := { dst := some 91, op := Op.load 24 (Operand.tmp 13), type := 24, pos := _, after := #[{ on := 6, ground := Ground.guard }], guard := some (6, false) }) (v := .agg #[.int .i64 S.kind, .int .i64 S.num, .slice ay7 S.cnt cy7]) rfl (by kernel_rfl) (by kernel_rfl) (by kernel_rfl) (by kernel_rfl) (fun _ _ _ h => h) (by rfl) (fun u hu => ?_) (HS.out _ hB0) ?_
  · (try dsimp only at hu); go_simp
  (try simp only [Act.put, List.setIfInBounds_toArray, List.set_cons_zero, List.set_cons_succ])
  obtain ⟨q3, hq3⟩ : ∃ y, y = v7.drew := ⟨_, rfl⟩
  rw [← hq3] at hB0 ⊢
  clear hq3
  refine G_step (i := 9) (o := { dst := some 92, op := Op.call { callee := Callee.value (Operand.func 17), args := #[Operand.tmp 90, Operand.tmp 91], argTypes := #[24, 24] }, type := 4, pos := _, after := #[{ on := 7, ground := Ground.data }, { on := 8, ground := Ground.data }, { on := 6, ground := Ground.chain }, { on := 6, ground := Ground.guard }], guard := some (6, false) }) (by kernel_rfl) rfl (fun K' hK => ?_)
  go_simp
  go_at_call 17
  refine (CSm.out q3 ay6 ay7 cy6 cy7 (HKS.out q3 hB0).1.1 (HKS.out q3 hB0).1.2).mono ?_
  rintro e q4 ⟨rfl, hb⟩
  dsimp only
  have hB1 := hB0.trans (hb.mono hB0.size)
  refine hK.out _ _ (fun _ => HS.out _ hB1) (fun _ => ?_)
  clear hK K' hb hB0
  (try simp only [Act.put, List.setIfInBounds_toArray, List.set_cons_zero, List.set_cons_succ])
  refine G_take (i := 10) (oi := { dst := some 93, op := Op.unOp UnOp.not 4 (Operand.tmp 92), type := 4, pos := _, after := #[{ on := 9, ground := Ground.data }, { on := 6, ground := Ground.guard }], guard := some (6, false) }) (v := .bool false) rfl (by kernel_rfl) (by kernel_rfl) (by kernel_rfl) (by kernel_rfl) (fun _ _ _ h => h) (by rfl) (fun u hu => ?_) (HS.out _ hB1) ?_
  · (try dsimp only at hu); go_simp
  (try simp only [Act.put, List.setIfInBounds_toArray, List.set_cons_zero, List.set_cons_succ])
  refine G_take (i := 11) (oi := { dst := some 94, op := Op.pick (Operand.tmp 89) (Operand.const (Value.bool true)) (Operand.tmp 93), type := 4, pos := _, after := #[{ on := 6, ground := Ground.data }, { on := 10, ground := Ground.data }], guard := none }) (v := .bool false) rfl (by kernel_rfl) (by kernel_rfl) (by kernel_rfl) (by kernel_rfl) (fun _ _ _ h => h) (by rfl) (fun u hu => ?_) (HS.out _ hB1) ?_
  · (try dsimp only at hu); go_simp
  (try simp only [Act.put, List.setIfInBounds_toArray, List.set_cons_zero, List.set_cons_succ])
  refine G_take (i := 12) (oi := { dst := some 95, op := Op.move (Operand.tmp 94), type := 4, pos := _, after := #[{ on := 11, ground := Ground.data }, { on := 9, ground := Ground.chain }], guard := none }) (v := .bool false) rfl (by kernel_rfl) (by kernel_rfl) (by kernel_rfl) (by kernel_rfl) (fun _ _ _ h => h) (by rfl) (fun u hu => ?_) (HS.out _ hB1) ?_
  · (try dsimp only at hu); go_simp
  (try simp only [Act.put, List.setIfInBounds_toArray, List.set_cons_zero, List.set_cons_succ])
  refine G_take (i := 13) (oi := { dst := some 96, op := Op.load 24 (Operand.tmp 11), type := 24, pos := _, after := #[{ on := 12, ground := Ground.guard }], guard := some (12, false) }) (v := .agg #[.int .i64 S.kind, .int .i64 S.num, .slice ay6 S.cnt cy6]) rfl (by kernel_rfl) (by kernel_rfl) (by kernel_rfl) (by kernel_rfl) (fun _ _ _ h => h) (by rfl) (fun u hu => ?_) (HS.out _ hB1) ?_
  · (try dsimp only at hu); go_simp
  (try simp only [Act.put, List.setIfInBounds_toArray, List.set_cons_zero, List.set_cons_succ])
  refine G_take (i := 15) (oi := { dst := some 98, op := Op.load 24 (Operand.tmp 1), type := 24, pos := _, after := #[{ on := 12, ground := Ground.guard }], guard := some (12, false) }) (v := .agg #[.int .i64 t.kind, .int .i64 t.num, .slice a t.cnt cap]) rfl (by kernel_rfl) (by kernel_rfl) (by kernel_rfl) (by kernel_rfl) (fun _ _ _ h => h) (by rfl) (fun u hu => ?_) (HS.out _ hB1) ?_
  · (try dsimp only at hu); go_simp
  (try simp only [Act.put, List.setIfInBounds_toArray, List.set_cons_zero, List.set_cons_succ])
  refine G_step (i := 14) (o := { dst := some 97, op := Op.call { callee := Callee.value (Operand.func 22), args := #[Operand.tmp 96], argTypes := #[24] }, type := 3, pos := _, after := #[{ on := 13, ground := Ground.data }, { on := 12, ground := Ground.chain }, { on := 12, ground := Ground.guard }], guard := some (12, false) }) (by kernel_rfl) rfl (fun K' hK => ?_)
  go_simp
  go_at_call 22
  refine (CZ1.out q4 ay6 cy6 (HKS.out q4 hB1).1.1).mono ?_
  rintro e q5 ⟨rfl, hb⟩
  dsimp only
  have hB2 := hB1.trans (hb.mono hB1.size)
  refine hK.out _ _ (fun _ => HS.out _ hB2) (fun _ => ?_)
  clear hK K' hb hB1
  (try simp only [Act.put, List.setIfInBounds_toArray, List.set_cons_zero, List.set_cons_succ])
  refine G_step (i := 16) (o := { dst := some 99, op := Op.call { callee := Callee.value (Operand.func 22), args := #[Operand.tmp 98], argTypes := #[24] }, type := 3, pos := _, after := #[{ on := 15, ground := Ground.data }, { on := 14, ground := Ground.chain }, { on := 12, ground := Ground.guard }], guard := some (12, false) }) (by kernel_rfl) rfl (fun K' hK => ?_)
  go_simp
  go_at_call 22
  refine (CZ2.out q5 (HKS.out q5 hB2).2).mono ?_
  rintro e q6 ⟨rfl, hb⟩
  dsimp only
  have hB3 := hB2.trans (hb.mono hB2.size)
  refine hK.out _ _ (fun _ => HS.out _ hB3) (fun _ => ?_)
  clear hK K' hb hB2
  (try simp only [Act.put, List.setIfInBounds_toArray, List.set_cons_zero, List.set_cons_succ])
  refine G_take (i := 17) (oi := { dst := some 100, op := Op.binOp BinOp.gtr 3 (Operand.tmp 97) (Operand.tmp 99) 3, type := 4, pos := _, after := #[{ on := 14, ground := Ground.data }, { on := 16, ground := Ground.data }, { on := 12, ground := Ground.guard }], guard := some (12, false) }) (v := .bool false) rfl (by kernel_rfl) (by kernel_rfl) (by kernel_rfl) (by kernel_rfl) (fun _ _ _ h => h) (by rfl) (fun u hu => ?_) (HS.out _ hB3) ?_
  · (try dsimp only at hu); go_simp
  (try simp only [Act.put, List.setIfInBounds_toArray, List.set_cons_zero, List.set_cons_succ])
  refine G_take (i := 18) (oi := { dst := some 101, op := Op.pick (Operand.tmp 95) (Operand.const (Value.bool true)) (Operand.tmp 100), type := 4, pos := _, after := #[{ on := 12, ground := Ground.data }, { on := 17, ground := Ground.data }], guard := none }) (v := .bool false) rfl (by kernel_rfl) (by kernel_rfl) (by kernel_rfl) (by kernel_rfl) (fun _ _ _ h => h) (by rfl) (fun u hu => ?_) (HS.out _ hB3) ?_
  · (try dsimp only at hu); go_simp
  (try simp only [Act.put, List.setIfInBounds_toArray, List.set_cons_zero, List.set_cons_succ])
  refine G_done (by kernel_rfl) ?_ _
  have HB11 : Hid (Below u.heap.size u q6) := HB10.out.trans (hB3.mono HB10.out.size)
  clear hB3 HS HKS HTv6 HTv7 HVv6 HVv7 HByv6 HByv7 HB9 HB10
  obtain ⟨x0, x1, x2⟩ := (tri_cells (HX.out q6 HB11.out).1).1
  have D := hid (C9.out q6 (HX.out q6 HB11.out).2)
  go_wp2_with fail
  refine D.out.mono ?_
  rintro e y9 ⟨ay9, cy9, rfl, hkg, hb⟩
  obtain ⟨v9, hv⟩ : ∃ q, q = y9.alloc (.cells #[.int .i64 PN.kind, .int .i64 PN.num, .slice ay9 PN.cnt cy9] 24) := ⟨_, rfl⟩
  have hbv : Below y9.heap.size y9 v9 := by rw [hv]; exact box_below _ _
  have HB12 : Hid (Below u.heap.size u v9) := HB11.out.trans ((hb.trans (hbv.mono hb.size)).mono HB11.out.size)
  have HTv9 : Hid (∀ z, Below v9.heap.size v9 z → Tri z y9.heap.size (.int .i64 PN.kind) (.int .i64 PN.num) (.slice ay9 PN.cnt cy9) ∧ Kds z PN ay9) := fun z hz => ⟨Tri.below (show Tri v9 y9.heap.size (.int .i64 PN.kind) (.int .i64 PN.num) (.slice ay9 PN.cnt cy9) by rw [hv]; exact tri_new _ _ _ _) hz, (hkg.below hbv).below hz⟩
  have HByv9 : Hid (Below q6.heap.size q6 v9) := hb.trans (hbv.mono hb.size)
  have HVv9 := hid hv
  clear hb hbv hkg hv D x0 x1 x2
  have HF := hid ((HX.out v9 HB12.out).2)
  rw [HVv9.out] at HF
  go_wp2
  go_ret
  exact ⟨rfl, HF.out⟩

set_option maxHeartbeats 16000000 in
set_option maxRecDepth 20000 in
theorem shapes_ba {w : World} {t : Fml} {a : Option Addr} {cap : Nat} (hkc : kcAt w) (h1 : opA 1 w) (hk : Kds w t a) (hc : t.cnt ≤ 9223372036854775807) (q : (chk t 1 0).1 = 0) (q8 : (chk (nt t false) 1 0).1 ≠ 0) (q9 : (chk (pn t) 1 0).1 = 0) :
    Calls Tryd.prog 6 #[.agg #[.int .i64 t.kind, .int .i64 t.num, .slice a t.cnt cap]] w fun e w' => e = .returned (.bool true) ∧ Below w.heap.size w w' := by
  have hw := (chk_wf t 1 0 q).1
  have hwS := sl_right t hw
  have qS := sl_chk q
  obtain ⟨u, hu⟩ : ∃ y, y = w.alloc (.cells #[.int .i64 t.kind, .int .i64 t.num, .slice a t.cnt cap] 24) := ⟨_, rfl⟩
  have hB : Below w.heap.size w u := by rw [hu]; exact box_below _ _
  have hT : Tri u w.heap.size (.int .i64 t.kind) (.int .i64 t.num) (.slice a t.cnt cap) := by rw [hu]; exact tri_new _ _ _ _
  have HX : Hid (∀ z, Below u.heap.size u z → Tri z w.heap.size (.int .i64 t.kind) (.int .i64 t.num) (.slice a t.cnt cap) ∧ Below w.heap.size w z) := fun z hz => ⟨hT.below hz, hB.trans (hz.mono hB.size)⟩
  have A1 : Hid (Calls Tryd.prog 16 #[.int .i64 1] u fun e w' => Mk u (nd 3 1) e w') := atom_f 1 u
  have A2 : Hid (∀ z (a1 : Option Addr) (c1 : Nat), Calls Tryd.prog 19 #[.int .i64 5, .agg #[.int .i64 3, .int .i64 1, .slice a1 0 c1], .agg #[.int .i64 1, .int .i64 0, .slice none 0 0]] z fun e w' => Mk z xF e w') := fun z a1 c1 => two_f 5 (nd 3 1) a1 c1 (nd 1 0) none 0 z (kds_nd _ _ _ _) (Nat.zero_le _) (kds_nd _ _ _ _) (Nat.zero_le _)
  have A3 : Hid (∀ z (a1 : Option Addr) (c1 : Nat), Below w.heap.size w z → Kds z xF a1 → Calls Tryd.prog 13 #[.agg #[.int .i64 xF.kind, .int .i64 xF.num, .slice a1 xF.cnt c1]] z fun e w' => ∃ (a' : Option Addr) (c' : Nat), e = .returned (.tuple #[.agg #[.int .i64 3, .int .i64 1, .slice a' 0 c'], .int .i64 0]) ∧ Below z.heap.size z w') := fun z a1 c1 hz hk => by
    refine (slim13 a1 c1 z (hkc.below hz hkc.pos) (h1.below hz) hk (by show 2 ≤ 9223372036854775807; decide)).mono ?_
    rintro e w' ⟨a', c', he, _, hb⟩
    rw [xF_cgv] at he
    exact ⟨a', c', he, hb⟩
  have A5 : Hid (∀ z (a1 a2 : Option Addr) (c1 c2 : Nat), Calls Tryd.prog 17 #[.agg #[.int .i64 3, .int .i64 1, .slice a1 0 c1], .agg #[.int .i64 3, .int .i64 1, .slice a2 0 c2]] z fun e w' => e = .returned (.bool true) ∧ Below z.heap.size z w') := fun z a1 a2 c1 c2 => by
    have := same17 (nd 3 1) (nd 3 1) a1 a2 c1 c2 z (kds_nd _ _ _ _) (kds_nd _ _ _ _) (Nat.zero_le _) (Nat.zero_le _)
    rw [same_self] at this
    exact this
  have HU := hid hu
  have C20 : Hid (∀ z, Below w.heap.size w z → Calls Tryd.prog 20 #[.agg #[.int .i64 t.kind, .int .i64 t.num, .slice a t.cnt cap]] z fun e w' => e = .returned (.int .i64 0) ∧ Below z.heap.size z w') := fun z hz => by
    have := check_any t a cap z (hkc.below hz hkc.pos) (hk.below hz) hc
    rw [q] at this
    exact this
  obtain ⟨S, hS⟩ : ∃ y, y = sl t := ⟨_, rfl⟩
  rw [← hS] at hwS qS
  have CS : Hid (∀ z, Below w.heap.size w z → Calls Tryd.prog 13 #[.agg #[.int .i64 t.kind, .int .i64 t.num, .slice a t.cnt cap]] z fun e w' => ∃ (a' : Option Addr) (c' : Nat), e = .returned (.tuple #[.agg #[.int .i64 S.kind, .int .i64 S.num, .slice a' S.cnt c'], .int .i64 0]) ∧ Kds w' S a' ∧ Below z.heap.size z w') := fun z hz => by
    refine (slim13 a cap z (hkc.below hz hkc.pos) (h1.below hz) (hk.below hz) hc).mono ?_
    rintro e w' ⟨a', c', he, hk', hb⟩
    rw [← hS, cgv_ok q qS] at he hk'
    exact ⟨a', c', he, hk'.out, hb⟩
  have CS2 : Hid (∀ z (aS : Option Addr) (cS : Nat), Kds z S aS → Below w.heap.size w z → Calls Tryd.prog 13 #[.agg #[.int .i64 S.kind, .int .i64 S.num, .slice aS S.cnt cS]] z fun e w' => ∃ (a' : Option Addr) (c' : Nat), e = .returned (.tuple #[.agg #[.int .i64 S.kind, .int .i64 S.num, .slice a' S.cnt c'], .int .i64 0]) ∧ Kds w' S a' ∧ Below z.heap.size z w') := fun z aS cS hkS hz => by
    refine (slim13 aS cS z (hkc.below hz hkc.pos) (h1.below hz) hkS (wf_big hwS.1)).mono ?_
    rintro e w' ⟨a', c', he, hk', hb⟩
    have e2 : sl S = S := by rw [hS]; exact sl_again hw
    rw [e2, cgv_ok qS qS] at he hk'
    exact ⟨a', c', he, hk'.out, hb⟩
  have CSm : Hid (∀ z (a1 a2 : Option Addr) (c1 c2 : Nat), Kds z S a1 → Kds z S a2 → Calls Tryd.prog 17 #[.agg #[.int .i64 S.kind, .int .i64 S.num, .slice a1 S.cnt c1], .agg #[.int .i64 S.kind, .int .i64 S.num, .slice a2 S.cnt c2]] z fun e w' => e = .returned (.bool true) ∧ Below z.heap.size z w') := fun z a1 a2 c1 c2 hk1 hk2 => by
    have := same17 S S a1 a2 c1 c2 z hk1 hk2 (wf_big hwS.1) (wf_big hwS.1)
    rw [same_self] at this
    exact this
  have hsT := (chk_iff t).1 q
  obtain ⟨s1, hs1⟩ : ∃ y, y = sz S := ⟨_, rfl⟩
  obtain ⟨s2, hs2⟩ : ∃ y, y = sz t := ⟨_, rfl⟩
  have CZ1 : Hid (∀ z (a1 : Option Addr) (c1 : Nat), Kds z S a1 → Calls Tryd.prog 22 #[.agg #[.int .i64 S.kind, .int .i64 S.num, .slice a1 S.cnt c1]] z fun e w' => e = .returned (.int .i64 s1) ∧ Below z.heap.size z w') := fun z a1 c1 hkz => by rw [hs1]; exact size_any S (by have := hwS.2.2.1; omega) (wf_big hwS.1) a1 c1 z hkz
  have CZ2 : Hid (∀ z, Below w.heap.size w z → Calls Tryd.prog 22 #[.agg #[.int .i64 t.kind, .int .i64 t.num, .slice a t.cnt cap]] z fun e w' => e = .returned (.int .i64 s2) ∧ Below z.heap.size z w') := fun z hz => by rw [hs2]; exact size_any t (by omega) hc a cap z (hk.below hz)
  have hdz : decide ((s2 : Int) < (s1 : Int)) = false := decide_eq_false (by have := hwS.2.2.1; omega)
  have hdz2 : ¬ (s2 < s1) := by have := hwS.2.2.1; omega
  have hdz3 : s1 ≤ s2 := by omega
  obtain ⟨G, hG⟩ : ∃ y, y = nd 0 0 := ⟨_, rfl⟩
  obtain ⟨r8, hr8⟩ : ∃ y, y = (chk (nt t false) 1 0).1 := ⟨_, rfl⟩
  have r8b : (r8 == 0) = false := by rw [hr8]; exact beq_eq_false_iff_ne.2 q8
  have C8 : Hid (∀ z, Below w.heap.size w z → Calls Tryd.prog 8 #[.agg #[.int .i64 t.kind, .int .i64 t.num, .slice a t.cnt cap]] z fun e w' => ∃ (a' : Option Addr) (c' : Nat), e = .returned (.tuple #[.agg #[.int .i64 G.kind, .int .i64 G.num, .slice a' G.cnt c'], .int .i64 r8]) ∧ Kds w' G a' ∧ Below z.heap.size z w') := fun z hz => by
    refine (nots8 a cap z (hkc.below hz hkc.pos) (h1.below hz) (hk.below hz) hc).mono ?_
    rintro e w' ⟨a', c', he, hk', hb⟩
    rw [cgv_bad2 q q8, ← hr8, ← hG] at he hk'
    exact ⟨a', c', he, hk'.out, hb⟩
  clear hG hr8
  obtain ⟨PN, hPN⟩ : ∃ y, y = pn t := ⟨_, rfl⟩
  have hh := pn_has t hw
  have hwp := pn_wf t hw
  rw [← hPN] at hh hwp q9
  have C9 : Hid (∀ z, Below w.heap.size w z → Calls Tryd.prog 9 #[.agg #[.int .i64 t.kind, .int .i64 t.num, .slice a t.cnt cap]] z fun e w' => ∃ (a' : Option Addr) (c' : Nat), e = .returned (.tuple #[.agg #[.int .i64 PN.kind, .int .i64 PN.num, .slice a' PN.cnt c'], .int .i64 0]) ∧ Kds w' PN a' ∧ Below z.heap.size z w') := fun z hz => by
    refine (plain9 a cap z (hkc.below hz hkc.pos) (hk.below hz) hc).mono ?_
    rintro e w' ⟨a', c', he, hk', hb⟩
    rw [← hPN, cgv_ok q q9] at he hk'
    exact ⟨a', c', he, hk'.out, hb⟩
  have CH : Hid (∀ (k : Int), k = 10 ∨ k = 11 → ∀ z (a1 : Option Addr) (c1 : Nat), Kds z PN a1 → Calls Tryd.prog 23 #[.agg #[.int .i64 PN.kind, .int .i64 PN.num, .slice a1 PN.cnt c1], .int .i64 k] z fun e w' => e = .returned (.bool false) ∧ Below z.heap.size z w') := fun k hk z a1 c1 hkz => has_any k PN hwp (hh k hk) a1 c1 z hkz
  clear hh hwp
  clear hu hB hT hk hc hkc h1 q q8 q9 hw hwS qS hS hsT hs1 hs2 hPN
  go_enter Tryd.func6, Tryd.ntmps6
  go_wp2_with fail
  rw [← HU.out]
  refine A1.out.mono ?_
  rintro e p1 ⟨a1, c1, rfl, hk1, hb1⟩
  have HB1 : Hid (Below u.heap.size u p1) := hb1
  have B2 := hid (A2.out p1 a1 c1)
  clear hk1 hb1 A1 A2 HU
  have e1 : (nd 3 1).kind = 3 := rfl
  have e2 : (nd 3 1).num = 1 := rfl
  have e3 : (nd 3 1).cnt = 0 := rfl
  simp only [e1, e2, e3]
  clear e1 e2 e3
  go_wp2_with fail
  refine B2.out.mono ?_
  rintro e p2 ⟨a2, c2, rfl, hk2, hb2⟩
  have HB2 : Hid (Below u.heap.size u p2) := HB1.out.trans (hb2.mono HB1.out.size)
  have B3 := hid (A3.out p2 a2 c2 (HX.out p2 HB2.out).2 hk2)
  clear hk2 hb2 B2 A3
  go_wp2_with fail
  refine B3.out.mono ?_
  rintro e p3 ⟨a3, c3, rfl, hb3⟩
  have HB3 : Hid (Below u.heap.size u p3) := HB2.out.trans (hb3.mono HB2.out.size)
  obtain ⟨v3, hv3⟩ : ∃ y, y = p3.alloc (.cells #[.int .i64 3, .int .i64 1, .slice a3 0 c3] 24) := ⟨_, rfl⟩
  have hbv : Below p3.heap.size p3 v3 := by rw [hv3]; exact box_below _ _
  have HXV : Hid (∀ y, Below v3.heap.size v3 y → y.cell? ⟨p3.heap.size, 0, none⟩ = some (.int .i64 3) ∧ y.cell? ⟨p3.heap.size, 1, none⟩ = some (.int .i64 1) ∧ y.cell? ⟨p3.heap.size, 2, none⟩ = some (.slice a3 0 c3)) := fun y hy => (tri_cells (Tri.below (show Tri v3 p3.heap.size (.int .i64 3) (.int .i64 1) (.slice a3 0 c3) by rw [hv3]; exact tri_new _ _ _ _) hy)).1
  have HBV : Hid (Below u.heap.size u v3) := HB3.out.trans (hbv.mono HB3.out.size)
  have HV3 := hid hv3
  clear hb3 hbv hv3 B3
  go_wp2
  rw [← HV3.out]
  have hB0 : Below v3.heap.size v3 v3.drew := below_drewN (Below.refl _ _) 1
  refine G_region (fun y => y.cell? ⟨p3.heap.size, 0, none⟩ = some (.int .i64 3) ∧ y.cell? ⟨p3.heap.size, 1, none⟩ = some (.int .i64 1) ∧ y.cell? ⟨p3.heap.size, 2, none⟩ = some (.slice a3 0 c3)) (fun _ => false) (by kernel_rfl) (HXV.out _ hB0) (fun _ => ?_)
  refine G_take (i := 0) (oi := { dst := some 23, op := Op.move (Operand.tmp 4), type := 25, pos := _, after := #[], guard := none }) (v := .int .i64 0) rfl (by kernel_rfl) (by kernel_rfl) (by kernel_rfl) (by kernel_rfl) (fun _ _ _ h => h) (by rfl) (fun u hu => ?_) (HXV.out _ hB0) ?_
  · (try dsimp only at hu); go_simp
  (try simp only [Act.put, List.setIfInBounds_toArray, List.set_cons_zero, List.set_cons_succ])
  refine G_take (i := 1) (oi := { dst := some 24, op := Op.binOp BinOp.neq 25 (Operand.tmp 23) (Operand.const (Value.int IntKind.i64 0)) 25, type := 4, pos := _, after := #[{ on := 0, ground := Ground.data }], guard := none }) (v := .bool false) rfl (by kernel_rfl) (by kernel_rfl) (by kernel_rfl) (by kernel_rfl) (fun _ _ _ h => h) (by rfl) (fun u hu => ?_) (HXV.out _ hB0) ?_
  · (try dsimp only at hu); go_simp
  (try simp only [Act.put, List.setIfInBounds_toArray, List.set_cons_zero, List.set_cons_succ])
  refine G_take (i := 2) (oi := { dst := some 25, op := Op.move (Operand.tmp 24), type := 4, pos := _, after := #[{ on := 1, ground := Ground.data }], guard := none }) (v := .bool false) rfl (by kernel_rfl) (by kernel_rfl) (by kernel_rfl) (by kernel_rfl) (fun _ _ _ h => h) (by rfl) (fun u hu => ?_) (HXV.out _ hB0) ?_
  · (try dsimp only at hu); go_simp
  (try simp only [Act.put, List.setIfInBounds_toArray, List.set_cons_zero, List.set_cons_succ])
  refine G_take (i := 3) (oi := { dst := some 26, op := Op.load 24 (Operand.tmp 3), type := 24, pos := _, after := #[{ on := 2, ground := Ground.guard }], guard := some (2, false) }) (v := .agg #[.int .i64 3, .int .i64 1, .slice a3 0 c3]) rfl (by kernel_rfl) (by kernel_rfl) (by kernel_rfl) (by kernel_rfl) (fun _ _ _ h => h) (by rfl) (fun u hu => ?_) (HXV.out _ hB0) ?_
  · (try dsimp only at hu); go_simp
  (try simp only [Act.put, List.setIfInBounds_toArray, List.set_cons_zero, List.set_cons_succ])
  obtain ⟨q0, hq0⟩ : ∃ y, y = v3.drew := ⟨_, rfl⟩
  rw [← hq0] at hB0 ⊢
  clear hq0
  refine G_step (i := 4) (o := { dst := some 27, op := Op.call { callee := Callee.value (Operand.func 16), args := #[Operand.const (Value.int IntKind.i64 1)], argTypes := #[3] }, type := 24, pos := _, after := #[{ on := 2, ground := Ground.chain }, { on := 2, ground := Ground.guard }], guard := some (2, false) }) (by kernel_rfl) rfl (fun K' hK => ?_)
  go_simp
  go_at_call 16
  refine (atom_f 1 q0).mono ?_
  rintro e q1 ⟨a4, c4, rfl, hk4, hb4⟩
  dsimp only
  have hB1 := hB0.trans (hb4.mono hB0.size)
  refine hK.out _ _ (fun _ => HXV.out _ hB1) (fun _ => ?_)
  clear hK K' hb4 hk4 hB0
  (try simp only [Act.put, List.setIfInBounds_toArray, List.set_cons_zero, List.set_cons_succ])
  have e1 : (nd 3 1).kind = 3 := rfl
  have e2 : (nd 3 1).num = 1 := rfl
  have e3 : (nd 3 1).cnt = 0 := rfl
  simp only [e1, e2, e3]
  clear e1 e2 e3
  refine G_step (i := 5) (o := { dst := some 28, op := Op.call { callee := Callee.value (Operand.func 17), args := #[Operand.tmp 26, Operand.tmp 27], argTypes := #[24, 24] }, type := 4, pos := _, after := #[{ on := 3, ground := Ground.data }, { on := 4, ground := Ground.data }, { on := 4, ground := Ground.chain }, { on := 2, ground := Ground.guard }], guard := some (2, false) }) (by kernel_rfl) rfl (fun K' hK => ?_)
  go_simp
  go_at_call 17
  refine (A5.out q1 a3 a4 c3 c4).mono ?_
  rintro e q2 ⟨rfl, hb5⟩
  dsimp only
  have hB2 := hB1.trans (hb5.mono hB1.size)
  refine hK.out _ _ (fun _ => HXV.out _ hB2) (fun _ => ?_)
  clear hK K' hb5 hB1
  (try simp only [Act.put, List.setIfInBounds_toArray, List.set_cons_zero, List.set_cons_succ])
  refine G_take (i := 6) (oi := { dst := some 29, op := Op.unOp UnOp.not 4 (Operand.tmp 28), type := 4, pos := _, after := #[{ on := 5, ground := Ground.data }, { on := 2, ground := Ground.guard }], guard := some (2, false) }) (v := .bool false) rfl (by kernel_rfl) (by kernel_rfl) (by kernel_rfl) (by kernel_rfl) (fun _ _ _ h => h) (by rfl) (fun u hu => ?_) (HXV.out _ hB2) ?_
  · (try dsimp only at hu); go_simp
  (try simp only [Act.put, List.setIfInBounds_toArray, List.set_cons_zero, List.set_cons_succ])
  refine G_take (i := 7) (oi := { dst := some 30, op := Op.pick (Operand.tmp 25) (Operand.const (Value.bool true)) (Operand.tmp 29), type := 4, pos := _, after := #[{ on := 2, ground := Ground.data }, { on := 6, ground := Ground.data }], guard := none }) (v := .bool false) rfl (by kernel_rfl) (by kernel_rfl) (by kernel_rfl) (by kernel_rfl) (fun _ _ _ h => h) (by rfl) (fun u hu => ?_) (HXV.out _ hB2) ?_
  · (try dsimp only at hu); go_simp
  (try simp only [Act.put, List.setIfInBounds_toArray, List.set_cons_zero, List.set_cons_succ])
  refine G_done (by kernel_rfl) ?_ _
  have HB4 : Hid (Below u.heap.size u q2) := HBV.out.trans (hB2.mono HBV.out.size)
  clear hB2 HXV HBV HV3 HB1 HB2 HB3 A5
  obtain ⟨x0, x1, x2⟩ := (tri_cells (HX.out q2 HB4.out).1).1
  have D20 := hid (C20.out q2 (HX.out q2 HB4.out).2)
  go_wp2_with fail
  refine D20.out.mono ?_
  rintro e y1 ⟨rfl, hb⟩
  have HB5 : Hid (Below u.heap.size u y1) := HB4.out.trans (hb.mono HB4.out.size)
  clear hb D20 x0 x1 x2
  obtain ⟨x0, x1, x2⟩ := (tri_cells (HX.out y1 HB5.out).1).1
  have D := hid (C8.out y1 (HX.out y1 HB5.out).2)
  go_wp2_with fail
  refine D.out.mono ?_
  rintro e y2 ⟨ay2, cy2, rfl, hkg, hb⟩
  obtain ⟨v2, hv⟩ : ∃ q, q = y2.alloc (.cells #[.int .i64 G.kind, .int .i64 G.num, .slice ay2 G.cnt cy2] 24) := ⟨_, rfl⟩
  have hbv : Below y2.heap.size y2 v2 := by rw [hv]; exact box_below _ _
  have HB6 : Hid (Below u.heap.size u v2) := HB5.out.trans ((hb.trans (hbv.mono hb.size)).mono HB5.out.size)
  have HTv2 : Hid (∀ z, Below v2.heap.size v2 z → Tri z y2.heap.size (.int .i64 G.kind) (.int .i64 G.num) (.slice ay2 G.cnt cy2) ∧ Kds z G ay2) := fun z hz => ⟨Tri.below (show Tri v2 y2.heap.size (.int .i64 G.kind) (.int .i64 G.num) (.slice ay2 G.cnt cy2) by rw [hv]; exact tri_new _ _ _ _) hz, (hkg.below hbv).below hz⟩
  have HByv2 : Hid (Below y1.heap.size y1 v2) := hb.trans (hbv.mono hb.size)
  have HVv2 := hid hv
  clear hb hbv hkg hv D x0 x1 x2
  clear HTv2 HByv2
  obtain ⟨x0, x1, x2⟩ := (tri_cells (HX.out v2 HB6.out).1).1
  rw [HVv2.out] at x0 x1 x2
  have D := hid (CS.out v2 (HX.out v2 HB6.out).2)
  go_wp2_with fail
  rw [← HVv2.out]
  refine D.out.mono ?_
  rintro e y6 ⟨ay6, cy6, rfl, hkg, hb⟩
  obtain ⟨v6, hv⟩ : ∃ q, q = y6.alloc (.cells #[.int .i64 S.kind, .int .i64 S.num, .slice ay6 S.cnt cy6] 24) := ⟨_, rfl⟩
  have hbv : Below y6.heap.size y6 v6 := by rw [hv]; exact box_below _ _
  have HB9 : Hid (Below u.heap.size u v6) := HB6.out.trans ((hb.trans (hbv.mono hb.size)).mono HB6.out.size)
  have HTv6 : Hid (∀ z, Below v6.heap.size v6 z → Tri z y6.heap.size (.int .i64 S.kind) (.int .i64 S.num) (.slice ay6 S.cnt cy6) ∧ Kds z S ay6) := fun z hz => ⟨Tri.below (show Tri v6 y6.heap.size (.int .i64 S.kind) (.int .i64 S.num) (.slice ay6 S.cnt cy6) by rw [hv]; exact tri_new _ _ _ _) hz, (hkg.below hbv).below hz⟩
  have HByv6 : Hid (Below v2.heap.size v2 v6) := hb.trans (hbv.mono hb.size)
  have HVv6 := hid hv
  clear hb hbv hkg hv D x0 x1 x2
  obtain ⟨m0, m1, m2⟩ := (tri_cells (HTv6.out v6 (Below.refl _ _)).1).1
  rw [HVv6.out] at m0 m1 m2
  obtain ⟨x0, x1, x2⟩ := (tri_cells (HX.out v6 HB9.out).1).1
  rw [HVv6.out] at x0 x1 x2
  have D := hid (CS2.out v6 ay6 cy6 (HTv6.out v6 (Below.refl _ _)).2 (HX.out v6 HB9.out).2)
  go_wp2_with fail
  rw [← HVv6.out]
  refine D.out.mono ?_
  rintro e y7 ⟨ay7, cy7, rfl, hkg, hb⟩
  obtain ⟨v7, hv⟩ : ∃ q, q = y7.alloc (.cells #[.int .i64 S.kind, .int .i64 S.num, .slice ay7 S.cnt cy7] 24) := ⟨_, rfl⟩
  have hbv : Below y7.heap.size y7 v7 := by rw [hv]; exact box_below _ _
  have HB10 : Hid (Below u.heap.size u v7) := HB9.out.trans ((hb.trans (hbv.mono hb.size)).mono HB9.out.size)
  have HTv7 : Hid (∀ z, Below v7.heap.size v7 z → Tri z y7.heap.size (.int .i64 S.kind) (.int .i64 S.num) (.slice ay7 S.cnt cy7) ∧ Kds z S ay7) := fun z hz => ⟨Tri.below (show Tri v7 y7.heap.size (.int .i64 S.kind) (.int .i64 S.num) (.slice ay7 S.cnt cy7) by rw [hv]; exact tri_new _ _ _ _) hz, (hkg.below hbv).below hz⟩
  have HByv7 : Hid (Below v6.heap.size v6 v7) := hb.trans (hbv.mono hb.size)
  have HVv7 := hid hv
  clear hb hbv hkg hv D x0 x1 x2
  clear m0 m1 m2
  have HS : Hid (∀ z, Below v7.heap.size v7 z → (z.cell? ⟨y6.heap.size, 0, none⟩ = some (.int .i64 S.kind) ∧ z.cell? ⟨y6.heap.size, 1, none⟩ = some (.int .i64 S.num) ∧ z.cell? ⟨y6.heap.size, 2, none⟩ = some (.slice ay6 S.cnt cy6)) ∧ (z.cell? ⟨y7.heap.size, 0, none⟩ = some (.int .i64 S.kind) ∧ z.cell? ⟨y7.heap.size, 1, none⟩ = some (.int .i64 S.num) ∧ z.cell? ⟨y7.heap.size, 2, none⟩ = some (.slice ay7 S.cnt cy7)) ∧ z.cell? ⟨w.heap.size, 0, none⟩ = some (.int .i64 t.kind) ∧ z.cell? ⟨w.heap.size, 1, none⟩ = some (.int .i64 t.num) ∧ z.cell? ⟨w.heap.size, 2, none⟩ = some (.slice a t.cnt cap)) := fun z hz => ⟨(tri_cells (HTv6.out z (HByv7.out.trans (hz.mono HByv7.out.size))).1).1, (tri_cells (HTv7.out z hz).1).1, (tri_cells (HX.out z (HB10.out.trans (hz.mono HB10.out.size))).1).1⟩
  have HKS : Hid (∀ z, Below v7.heap.size v7 z → (Kds z S ay6 ∧ Kds z S ay7) ∧ Below w.heap.size w z) := fun z hz => ⟨⟨(HTv6.out z (HByv7.out.trans (hz.mono HByv7.out.size))).2, (HTv7.out z hz).2⟩, (HX.out z (HB10.out.trans (hz.mono HB10.out.size))).2⟩
  go_wp2
  rw [← HVv7.out]
  have hB0 : Below v7.heap.size v7 v7.drew := below_drewN (Below.refl _ _) 1
  refine G_region (fun z => (z.cell? ⟨y6.heap.size, 0, none⟩ = some (.int .i64 S.kind) ∧ z.cell? ⟨y6.heap.size, 1, none⟩ = some (.int .i64 S.num) ∧ z.cell? ⟨y6.heap.size, 2, none⟩ = some (.slice ay6 S.cnt cy6)) ∧ (z.cell? ⟨y7.heap.size, 0, none⟩ = some (.int .i64 S.kind) ∧ z.cell? ⟨y7.heap.size, 1, none⟩ = some (.int .i64 S.num) ∧ z.cell? ⟨y7.heap.size, 2, none⟩ = some (.slice ay7 S.cnt cy7)) ∧ z.cell? ⟨w.heap.size, 0, none⟩ = some (.int .i64 t.kind) ∧ z.cell? ⟨w.heap.size, 1, none⟩ = some (.int .i64 t.num) ∧ z.cell? ⟨w.heap.size, 2, none⟩ = some (.slice a t.cnt cap)) (fun _ => false) (by kernel_rfl) (HS.out _ hB0) (fun _ => ?_)
  refine G_take (i := 0) (oi := { dst := some 83, op := Op.move (Operand.tmp 12), type := 25, pos := _, after := #[], guard := none }) (v := .int .i64 0) rfl (by kernel_rfl) (by kernel_rfl) (by kernel_rfl) (by kernel_rfl) (fun _ _ _ h => h) (by rfl) (fun u hu => ?_) (HS.out _ hB0) ?_
  · (try dsimp only at hu); go_simp
  (try simp only [Act.put, List.setIfInBounds_toArray, List.set_cons_zero, List.set_cons_succ])
  refine G_take (i := 1) (oi := { dst := some 84, op := Op.binOp BinOp.neq 25 (Operand.tmp 83) (Operand.const (Value.int IntKind.i64 0)) 25, type := 4, pos := _, after := #[{ on := 0, ground := Ground.data }], guard := none }) (v := .bool false) rfl (by kernel_rfl) (by kernel_rfl) (by kernel_rfl) (by kernel_rfl) (fun _ _ _ h => h) (by rfl) (fun u hu => ?_) (HS.out _ hB0) ?_
  · (try dsimp only at hu); go_simp
  (try simp only [Act.put, List.setIfInBounds_toArray, List.set_cons_zero, List.set_cons_succ])
  refine G_take (i := 2) (oi := { dst := some 85, op := Op.move (Operand.tmp 84), type := 4, pos := _, after := #[{ on := 1, ground := Ground.data }], guard := none }) (v := .bool false) rfl (by kernel_rfl) (by kernel_rfl) (by kernel_rfl) (by kernel_rfl) (fun _ _ _ h => h) (by rfl) (fun u hu => ?_) (HS.out _ hB0) ?_
  · (try dsimp only at hu); go_simp
  (try simp only [Act.put, List.setIfInBounds_toArray, List.set_cons_zero, List.set_cons_succ])
  refine G_take (i := 3) (oi := { dst := some 86, op := Op.move (Operand.tmp 14), type := 25, pos := _, after := #[{ on := 2, ground := Ground.guard }], guard := some (2, false) }) (v := .int .i64 0) rfl (by kernel_rfl) (by kernel_rfl) (by kernel_rfl) (by kernel_rfl) (fun _ _ _ h => h) (by rfl) (fun u hu => ?_) (HS.out _ hB0) ?_
  · (try dsimp only at hu); go_simp
  (try simp only [Act.put, List.setIfInBounds_toArray, List.set_cons_zero, List.set_cons_succ])
  refine G_take (i := 4) (oi := { dst := some 87, op := Op.binOp BinOp.neq 25 (Operand.tmp 86) (Operand.const (Value.int IntKind.i64 0)) 25, type := 4, pos := _, after := #[{ on := 3, ground := Ground.data }, { on := 2, ground := Ground.guard }], guard := some (2, false) }) (v := .bool false) rfl (by kernel_rfl) (by kernel_rfl) (by kernel_rfl) (by kernel_rfl) (fun _ _ _ h => h) (by rfl) (fun u hu => ?_) (HS.out _ hB0) ?_
  · (try dsimp only at hu); go_simp
  (try simp only [Act.put, List.setIfInBounds_toArray, List.set_cons_zero, List.set_cons_succ])
  refine G_take (i := 5) (oi := { dst := some 88, op := Op.pick (Operand.tmp 85) (Operand.const (Value.bool true)) (Operand.tmp 87), type := 4, pos := _, after := #[{ on := 2, ground := Ground.data }, { on := 4, ground := Ground.data }], guard := none }) (v := .bool false) rfl (by kernel_rfl) (by kernel_rfl) (by kernel_rfl) (by kernel_rfl) (fun _ _ _ h => h) (by rfl) (fun u hu => ?_) (HS.out _ hB0) ?_
  · (try dsimp only at hu); go_simp
  (try simp only [Act.put, List.setIfInBounds_toArray, List.set_cons_zero, List.set_cons_succ])
  refine G_take (i := 6) (oi := { dst := some 89, op := Op.move (Operand.tmp 88), type := 4, pos := _, after := #[{ on := 5, ground := Ground.data }, { on := 2, ground := Ground.chain }], guard := none }) (v := .bool false) rfl (by kernel_rfl) (by kernel_rfl) (by kernel_rfl) (by kernel_rfl) (fun _ _ _ h => h) (by rfl) (fun u hu => ?_) (HS.out _ hB0) ?_
  · (try dsimp only at hu); go_simp
  (try simp only [Act.put, List.setIfInBounds_toArray, List.set_cons_zero, List.set_cons_succ])
  refine G_take (i := 7) (oi := { dst := some 90, op := Op.load 24 (Operand.tmp 11), type := 24, pos := _, after := #[{ on := 6, ground := Ground.guard }], guard := some (6, false) }) (v := .agg #[.int .i64 S.kind, .int .i64 S.num, .slice ay6 S.cnt cy6]) rfl (by kernel_rfl) (by kernel_rfl) (by kernel_rfl) (by kernel_rfl) (fun _ _ _ h => h) (by rfl) (fun u hu => ?_) (HS.out _ hB0) ?_
  · (try dsimp only at hu); go_simp
  (try simp only [Act.put, List.setIfInBounds_toArray, List.set_cons_zero, List.set_cons_succ])
  refine G_take (i := 8) (oi := { dst := some 91, op := Op.load 24 (Operand.tmp 13), type := 24, pos := _, after := #[{ on := 6, ground := Ground.guard }], guard := some (6, false) }) (v := .agg #[.int .i64 S.kind, .int .i64 S.num, .slice ay7 S.cnt cy7]) rfl (by kernel_rfl) (by kernel_rfl) (by kernel_rfl) (by kernel_rfl) (fun _ _ _ h => h) (by rfl) (fun u hu => ?_) (HS.out _ hB0) ?_
  · (try dsimp only at hu); go_simp
  (try simp only [Act.put, List.setIfInBounds_toArray, List.set_cons_zero, List.set_cons_succ])
  obtain ⟨q3, hq3⟩ : ∃ y, y = v7.drew := ⟨_, rfl⟩
  rw [← hq3] at hB0 ⊢
  clear hq3
  refine G_step (i := 9) (o := { dst := some 92, op := Op.call { callee := Callee.value (Operand.func 17), args := #[Operand.tmp 90, Operand.tmp 91], argTypes := #[24, 24] }, type := 4, pos := _, after := #[{ on := 7, ground := Ground.data }, { on := 8, ground := Ground.data }, { on := 6, ground := Ground.chain }, { on := 6, ground := Ground.guard }], guard := some (6, false) }) (by kernel_rfl) rfl (fun K' hK => ?_)
  go_simp
  go_at_call 17
  refine (CSm.out q3 ay6 ay7 cy6 cy7 (HKS.out q3 hB0).1.1 (HKS.out q3 hB0).1.2).mono ?_
  rintro e q4 ⟨rfl, hb⟩
  dsimp only
  have hB1 := hB0.trans (hb.mono hB0.size)
  refine hK.out _ _ (fun _ => HS.out _ hB1) (fun _ => ?_)
  clear hK K' hb hB0
  (try simp only [Act.put, List.setIfInBounds_toArray, List.set_cons_zero, List.set_cons_succ])
  refine G_take (i := 10) (oi := { dst := some 93, op := Op.unOp UnOp.not 4 (Operand.tmp 92), type := 4, pos := _, after := #[{ on := 9, ground := Ground.data }, { on := 6, ground := Ground.guard }], guard := some (6, false) }) (v := .bool false) rfl (by kernel_rfl) (by kernel_rfl) (by kernel_rfl) (by kernel_rfl) (fun _ _ _ h => h) (by rfl) (fun u hu => ?_) (HS.out _ hB1) ?_
  · (try dsimp only at hu); go_simp
  (try simp only [Act.put, List.setIfInBounds_toArray, List.set_cons_zero, List.set_cons_succ])
  refine G_take (i := 11) (oi := { dst := some 94, op := Op.pick (Operand.tmp 89) (Operand.const (Value.bool true)) (Operand.tmp 93), type := 4, pos := _, after := #[{ on := 6, ground := Ground.data }, { on := 10, ground := Ground.data }], guard := none }) (v := .bool false) rfl (by kernel_rfl) (by kernel_rfl) (by kernel_rfl) (by kernel_rfl) (fun _ _ _ h => h) (by rfl) (fun u hu => ?_) (HS.out _ hB1) ?_
  · (try dsimp only at hu); go_simp
  (try simp only [Act.put, List.setIfInBounds_toArray, List.set_cons_zero, List.set_cons_succ])
  refine G_take (i := 12) (oi := { dst := some 95, op := Op.move (Operand.tmp 94), type := 4, pos := _, after := #[{ on := 11, ground := Ground.data }, { on := 9, ground := Ground.chain }], guard := none }) (v := .bool false) rfl (by kernel_rfl) (by kernel_rfl) (by kernel_rfl) (by kernel_rfl) (fun _ _ _ h => h) (by rfl) (fun u hu => ?_) (HS.out _ hB1) ?_
  · (try dsimp only at hu); go_simp
  (try simp only [Act.put, List.setIfInBounds_toArray, List.set_cons_zero, List.set_cons_succ])
  refine G_take (i := 13) (oi := { dst := some 96, op := Op.load 24 (Operand.tmp 11), type := 24, pos := _, after := #[{ on := 12, ground := Ground.guard }], guard := some (12, false) }) (v := .agg #[.int .i64 S.kind, .int .i64 S.num, .slice ay6 S.cnt cy6]) rfl (by kernel_rfl) (by kernel_rfl) (by kernel_rfl) (by kernel_rfl) (fun _ _ _ h => h) (by rfl) (fun u hu => ?_) (HS.out _ hB1) ?_
  · (try dsimp only at hu); go_simp
  (try simp only [Act.put, List.setIfInBounds_toArray, List.set_cons_zero, List.set_cons_succ])
  refine G_take (i := 15) (oi := { dst := some 98, op := Op.load 24 (Operand.tmp 1), type := 24, pos := _, after := #[{ on := 12, ground := Ground.guard }], guard := some (12, false) }) (v := .agg #[.int .i64 t.kind, .int .i64 t.num, .slice a t.cnt cap]) rfl (by kernel_rfl) (by kernel_rfl) (by kernel_rfl) (by kernel_rfl) (fun _ _ _ h => h) (by rfl) (fun u hu => ?_) (HS.out _ hB1) ?_
  · (try dsimp only at hu); go_simp
  (try simp only [Act.put, List.setIfInBounds_toArray, List.set_cons_zero, List.set_cons_succ])
  refine G_step (i := 14) (o := { dst := some 97, op := Op.call { callee := Callee.value (Operand.func 22), args := #[Operand.tmp 96], argTypes := #[24] }, type := 3, pos := _, after := #[{ on := 13, ground := Ground.data }, { on := 12, ground := Ground.chain }, { on := 12, ground := Ground.guard }], guard := some (12, false) }) (by kernel_rfl) rfl (fun K' hK => ?_)
  go_simp
  go_at_call 22
  refine (CZ1.out q4 ay6 cy6 (HKS.out q4 hB1).1.1).mono ?_
  rintro e q5 ⟨rfl, hb⟩
  dsimp only
  have hB2 := hB1.trans (hb.mono hB1.size)
  refine hK.out _ _ (fun _ => HS.out _ hB2) (fun _ => ?_)
  clear hK K' hb hB1
  (try simp only [Act.put, List.setIfInBounds_toArray, List.set_cons_zero, List.set_cons_succ])
  refine G_step (i := 16) (o := { dst := some 99, op := Op.call { callee := Callee.value (Operand.func 22), args := #[Operand.tmp 98], argTypes := #[24] }, type := 3, pos := _, after := #[{ on := 15, ground := Ground.data }, { on := 14, ground := Ground.chain }, { on := 12, ground := Ground.guard }], guard := some (12, false) }) (by kernel_rfl) rfl (fun K' hK => ?_)
  go_simp
  go_at_call 22
  refine (CZ2.out q5 (HKS.out q5 hB2).2).mono ?_
  rintro e q6 ⟨rfl, hb⟩
  dsimp only
  have hB3 := hB2.trans (hb.mono hB2.size)
  refine hK.out _ _ (fun _ => HS.out _ hB3) (fun _ => ?_)
  clear hK K' hb hB2
  (try simp only [Act.put, List.setIfInBounds_toArray, List.set_cons_zero, List.set_cons_succ])
  refine G_take (i := 17) (oi := { dst := some 100, op := Op.binOp BinOp.gtr 3 (Operand.tmp 97) (Operand.tmp 99) 3, type := 4, pos := _, after := #[{ on := 14, ground := Ground.data }, { on := 16, ground := Ground.data }, { on := 12, ground := Ground.guard }], guard := some (12, false) }) (v := .bool false) rfl (by kernel_rfl) (by kernel_rfl) (by kernel_rfl) (by kernel_rfl) (fun _ _ _ h => h) (by rfl) (fun u hu => ?_) (HS.out _ hB3) ?_
  · (try dsimp only at hu); go_simp
  (try simp only [Act.put, List.setIfInBounds_toArray, List.set_cons_zero, List.set_cons_succ])
  refine G_take (i := 18) (oi := { dst := some 101, op := Op.pick (Operand.tmp 95) (Operand.const (Value.bool true)) (Operand.tmp 100), type := 4, pos := _, after := #[{ on := 12, ground := Ground.data }, { on := 17, ground := Ground.data }], guard := none }) (v := .bool false) rfl (by kernel_rfl) (by kernel_rfl) (by kernel_rfl) (by kernel_rfl) (fun _ _ _ h => h) (by rfl) (fun u hu => ?_) (HS.out _ hB3) ?_
  · (try dsimp only at hu); go_simp
  (try simp only [Act.put, List.setIfInBounds_toArray, List.set_cons_zero, List.set_cons_succ])
  refine G_done (by kernel_rfl) ?_ _
  have HB11 : Hid (Below u.heap.size u q6) := HB10.out.trans (hB3.mono HB10.out.size)
  clear hB3 HS HKS HTv6 HTv7 HVv6 HVv7 HByv6 HByv7 HB9 HB10
  obtain ⟨x0, x1, x2⟩ := (tri_cells (HX.out q6 HB11.out).1).1
  have D := hid (C9.out q6 (HX.out q6 HB11.out).2)
  go_wp2_with fail
  refine D.out.mono ?_
  rintro e y9 ⟨ay9, cy9, rfl, hkg, hb⟩
  obtain ⟨v9, hv⟩ : ∃ q, q = y9.alloc (.cells #[.int .i64 PN.kind, .int .i64 PN.num, .slice ay9 PN.cnt cy9] 24) := ⟨_, rfl⟩
  have hbv : Below y9.heap.size y9 v9 := by rw [hv]; exact box_below _ _
  have HB12 : Hid (Below u.heap.size u v9) := HB11.out.trans ((hb.trans (hbv.mono hb.size)).mono HB11.out.size)
  have HTv9 : Hid (∀ z, Below v9.heap.size v9 z → Tri z y9.heap.size (.int .i64 PN.kind) (.int .i64 PN.num) (.slice ay9 PN.cnt cy9) ∧ Kds z PN ay9) := fun z hz => ⟨Tri.below (show Tri v9 y9.heap.size (.int .i64 PN.kind) (.int .i64 PN.num) (.slice ay9 PN.cnt cy9) by rw [hv]; exact tri_new _ _ _ _) hz, (hkg.below hbv).below hz⟩
  have HByv9 : Hid (Below q6.heap.size q6 v9) := hb.trans (hbv.mono hb.size)
  have HVv9 := hid hv
  clear hb hbv hkg hv D x0 x1 x2
  obtain ⟨m0, m1, m2⟩ := (tri_cells (HTv9.out v9 (Below.refl _ _)).1).1
  rw [HVv9.out] at m0 m1 m2
  have D := hid (CH.out 10 (Or.inl rfl) v9 ay9 cy9 (HTv9.out v9 (Below.refl _ _)).2)
  go_wp2_with fail
  rw [← HVv9.out]
  refine D.out.mono ?_
  rintro e y10 ⟨rfl, hb⟩
  have HBz : Hid (Below v9.heap.size v9 y10) := hb
  clear hb D m0 m1 m2
  obtain ⟨m0, m1, m2⟩ := (tri_cells (HTv9.out y10 HBz.out).1).1
  have D := hid (CH.out 11 (Or.inr rfl) y10 ay9 cy9 (HTv9.out y10 HBz.out).2)
  go_wp2_with fail
  refine D.out.mono ?_
  rintro e y11 ⟨rfl, hb⟩
  have HF := hid ((HX.out y11 (HB12.out.trans ((HBz.out.trans (hb.mono HBz.out.size)).mono HB12.out.size))).2)
  clear hb D m0 m1 m2
  go_wp2
  go_ret
  exact ⟨rfl, HF.out⟩

set_option maxHeartbeats 16000000 in
set_option maxRecDepth 20000 in
theorem shapes_bb {w : World} {t : Fml} {a : Option Addr} {cap : Nat} (hkc : kcAt w) (h1 : opA 1 w) (hk : Kds w t a) (hc : t.cnt ≤ 9223372036854775807) (q : (chk t 1 0).1 = 0) (q8 : (chk (nt t false) 1 0).1 ≠ 0) (q9 : (chk (pn t) 1 0).1 ≠ 0) :
    Calls Tryd.prog 6 #[.agg #[.int .i64 t.kind, .int .i64 t.num, .slice a t.cnt cap]] w fun e w' => e = .returned (.bool true) ∧ Below w.heap.size w w' := by
  have hw := (chk_wf t 1 0 q).1
  have hwS := sl_right t hw
  have qS := sl_chk q
  obtain ⟨u, hu⟩ : ∃ y, y = w.alloc (.cells #[.int .i64 t.kind, .int .i64 t.num, .slice a t.cnt cap] 24) := ⟨_, rfl⟩
  have hB : Below w.heap.size w u := by rw [hu]; exact box_below _ _
  have hT : Tri u w.heap.size (.int .i64 t.kind) (.int .i64 t.num) (.slice a t.cnt cap) := by rw [hu]; exact tri_new _ _ _ _
  have HX : Hid (∀ z, Below u.heap.size u z → Tri z w.heap.size (.int .i64 t.kind) (.int .i64 t.num) (.slice a t.cnt cap) ∧ Below w.heap.size w z) := fun z hz => ⟨hT.below hz, hB.trans (hz.mono hB.size)⟩
  have A1 : Hid (Calls Tryd.prog 16 #[.int .i64 1] u fun e w' => Mk u (nd 3 1) e w') := atom_f 1 u
  have A2 : Hid (∀ z (a1 : Option Addr) (c1 : Nat), Calls Tryd.prog 19 #[.int .i64 5, .agg #[.int .i64 3, .int .i64 1, .slice a1 0 c1], .agg #[.int .i64 1, .int .i64 0, .slice none 0 0]] z fun e w' => Mk z xF e w') := fun z a1 c1 => two_f 5 (nd 3 1) a1 c1 (nd 1 0) none 0 z (kds_nd _ _ _ _) (Nat.zero_le _) (kds_nd _ _ _ _) (Nat.zero_le _)
  have A3 : Hid (∀ z (a1 : Option Addr) (c1 : Nat), Below w.heap.size w z → Kds z xF a1 → Calls Tryd.prog 13 #[.agg #[.int .i64 xF.kind, .int .i64 xF.num, .slice a1 xF.cnt c1]] z fun e w' => ∃ (a' : Option Addr) (c' : Nat), e = .returned (.tuple #[.agg #[.int .i64 3, .int .i64 1, .slice a' 0 c'], .int .i64 0]) ∧ Below z.heap.size z w') := fun z a1 c1 hz hk => by
    refine (slim13 a1 c1 z (hkc.below hz hkc.pos) (h1.below hz) hk (by show 2 ≤ 9223372036854775807; decide)).mono ?_
    rintro e w' ⟨a', c', he, _, hb⟩
    rw [xF_cgv] at he
    exact ⟨a', c', he, hb⟩
  have A5 : Hid (∀ z (a1 a2 : Option Addr) (c1 c2 : Nat), Calls Tryd.prog 17 #[.agg #[.int .i64 3, .int .i64 1, .slice a1 0 c1], .agg #[.int .i64 3, .int .i64 1, .slice a2 0 c2]] z fun e w' => e = .returned (.bool true) ∧ Below z.heap.size z w') := fun z a1 a2 c1 c2 => by
    have := same17 (nd 3 1) (nd 3 1) a1 a2 c1 c2 z (kds_nd _ _ _ _) (kds_nd _ _ _ _) (Nat.zero_le _) (Nat.zero_le _)
    rw [same_self] at this
    exact this
  have HU := hid hu
  have C20 : Hid (∀ z, Below w.heap.size w z → Calls Tryd.prog 20 #[.agg #[.int .i64 t.kind, .int .i64 t.num, .slice a t.cnt cap]] z fun e w' => e = .returned (.int .i64 0) ∧ Below z.heap.size z w') := fun z hz => by
    have := check_any t a cap z (hkc.below hz hkc.pos) (hk.below hz) hc
    rw [q] at this
    exact this
  obtain ⟨S, hS⟩ : ∃ y, y = sl t := ⟨_, rfl⟩
  rw [← hS] at hwS qS
  have CS : Hid (∀ z, Below w.heap.size w z → Calls Tryd.prog 13 #[.agg #[.int .i64 t.kind, .int .i64 t.num, .slice a t.cnt cap]] z fun e w' => ∃ (a' : Option Addr) (c' : Nat), e = .returned (.tuple #[.agg #[.int .i64 S.kind, .int .i64 S.num, .slice a' S.cnt c'], .int .i64 0]) ∧ Kds w' S a' ∧ Below z.heap.size z w') := fun z hz => by
    refine (slim13 a cap z (hkc.below hz hkc.pos) (h1.below hz) (hk.below hz) hc).mono ?_
    rintro e w' ⟨a', c', he, hk', hb⟩
    rw [← hS, cgv_ok q qS] at he hk'
    exact ⟨a', c', he, hk'.out, hb⟩
  have CS2 : Hid (∀ z (aS : Option Addr) (cS : Nat), Kds z S aS → Below w.heap.size w z → Calls Tryd.prog 13 #[.agg #[.int .i64 S.kind, .int .i64 S.num, .slice aS S.cnt cS]] z fun e w' => ∃ (a' : Option Addr) (c' : Nat), e = .returned (.tuple #[.agg #[.int .i64 S.kind, .int .i64 S.num, .slice a' S.cnt c'], .int .i64 0]) ∧ Kds w' S a' ∧ Below z.heap.size z w') := fun z aS cS hkS hz => by
    refine (slim13 aS cS z (hkc.below hz hkc.pos) (h1.below hz) hkS (wf_big hwS.1)).mono ?_
    rintro e w' ⟨a', c', he, hk', hb⟩
    have e2 : sl S = S := by rw [hS]; exact sl_again hw
    rw [e2, cgv_ok qS qS] at he hk'
    exact ⟨a', c', he, hk'.out, hb⟩
  have CSm : Hid (∀ z (a1 a2 : Option Addr) (c1 c2 : Nat), Kds z S a1 → Kds z S a2 → Calls Tryd.prog 17 #[.agg #[.int .i64 S.kind, .int .i64 S.num, .slice a1 S.cnt c1], .agg #[.int .i64 S.kind, .int .i64 S.num, .slice a2 S.cnt c2]] z fun e w' => e = .returned (.bool true) ∧ Below z.heap.size z w') := fun z a1 a2 c1 c2 hk1 hk2 => by
    have := same17 S S a1 a2 c1 c2 z hk1 hk2 (wf_big hwS.1) (wf_big hwS.1)
    rw [same_self] at this
    exact this
  have hsT := (chk_iff t).1 q
  obtain ⟨s1, hs1⟩ : ∃ y, y = sz S := ⟨_, rfl⟩
  obtain ⟨s2, hs2⟩ : ∃ y, y = sz t := ⟨_, rfl⟩
  have CZ1 : Hid (∀ z (a1 : Option Addr) (c1 : Nat), Kds z S a1 → Calls Tryd.prog 22 #[.agg #[.int .i64 S.kind, .int .i64 S.num, .slice a1 S.cnt c1]] z fun e w' => e = .returned (.int .i64 s1) ∧ Below z.heap.size z w') := fun z a1 c1 hkz => by rw [hs1]; exact size_any S (by have := hwS.2.2.1; omega) (wf_big hwS.1) a1 c1 z hkz
  have CZ2 : Hid (∀ z, Below w.heap.size w z → Calls Tryd.prog 22 #[.agg #[.int .i64 t.kind, .int .i64 t.num, .slice a t.cnt cap]] z fun e w' => e = .returned (.int .i64 s2) ∧ Below z.heap.size z w') := fun z hz => by rw [hs2]; exact size_any t (by omega) hc a cap z (hk.below hz)
  have hdz : decide ((s2 : Int) < (s1 : Int)) = false := decide_eq_false (by have := hwS.2.2.1; omega)
  have hdz2 : ¬ (s2 < s1) := by have := hwS.2.2.1; omega
  have hdz3 : s1 ≤ s2 := by omega
  obtain ⟨G, hG⟩ : ∃ y, y = nd 0 0 := ⟨_, rfl⟩
  obtain ⟨r8, hr8⟩ : ∃ y, y = (chk (nt t false) 1 0).1 := ⟨_, rfl⟩
  have r8b : (r8 == 0) = false := by rw [hr8]; exact beq_eq_false_iff_ne.2 q8
  have C8 : Hid (∀ z, Below w.heap.size w z → Calls Tryd.prog 8 #[.agg #[.int .i64 t.kind, .int .i64 t.num, .slice a t.cnt cap]] z fun e w' => ∃ (a' : Option Addr) (c' : Nat), e = .returned (.tuple #[.agg #[.int .i64 G.kind, .int .i64 G.num, .slice a' G.cnt c'], .int .i64 r8]) ∧ Kds w' G a' ∧ Below z.heap.size z w') := fun z hz => by
    refine (nots8 a cap z (hkc.below hz hkc.pos) (h1.below hz) (hk.below hz) hc).mono ?_
    rintro e w' ⟨a', c', he, hk', hb⟩
    rw [cgv_bad2 q q8, ← hr8, ← hG] at he hk'
    exact ⟨a', c', he, hk'.out, hb⟩
  clear hG hr8
  obtain ⟨PN, hPN⟩ : ∃ y, y = nd 0 0 := ⟨_, rfl⟩
  obtain ⟨r9, hr9⟩ : ∃ y, y = (chk (pn t) 1 0).1 := ⟨_, rfl⟩
  have r9b : (r9 != 0) = true := by rw [hr9, bne_iff_ne]; exact q9
  have C9 : Hid (∀ z, Below w.heap.size w z → Calls Tryd.prog 9 #[.agg #[.int .i64 t.kind, .int .i64 t.num, .slice a t.cnt cap]] z fun e w' => ∃ (a' : Option Addr) (c' : Nat), e = .returned (.tuple #[.agg #[.int .i64 PN.kind, .int .i64 PN.num, .slice a' PN.cnt c'], .int .i64 r9]) ∧ Kds w' PN a' ∧ Below z.heap.size z w') := fun z hz => by
    refine (plain9 a cap z (hkc.below hz hkc.pos) (hk.below hz) hc).mono ?_
    rintro e w' ⟨a', c', he, hk', hb⟩
    rw [cgv_bad2 q q9, ← hr9, ← hPN] at he hk'
    exact ⟨a', c', he, hk'.out, hb⟩
  clear hr9
  clear hu hB hT hk hc hkc h1 q q8 q9 hw hwS qS hS hsT hs1 hs2 hPN
  go_enter Tryd.func6, Tryd.ntmps6
  go_wp2_with fail
  rw [← HU.out]
  refine A1.out.mono ?_
  rintro e p1 ⟨a1, c1, rfl, hk1, hb1⟩
  have HB1 : Hid (Below u.heap.size u p1) := hb1
  have B2 := hid (A2.out p1 a1 c1)
  clear hk1 hb1 A1 A2 HU
  have e1 : (nd 3 1).kind = 3 := rfl
  have e2 : (nd 3 1).num = 1 := rfl
  have e3 : (nd 3 1).cnt = 0 := rfl
  simp only [e1, e2, e3]
  clear e1 e2 e3
  go_wp2_with fail
  refine B2.out.mono ?_
  rintro e p2 ⟨a2, c2, rfl, hk2, hb2⟩
  have HB2 : Hid (Below u.heap.size u p2) := HB1.out.trans (hb2.mono HB1.out.size)
  have B3 := hid (A3.out p2 a2 c2 (HX.out p2 HB2.out).2 hk2)
  clear hk2 hb2 B2 A3
  go_wp2_with fail
  refine B3.out.mono ?_
  rintro e p3 ⟨a3, c3, rfl, hb3⟩
  have HB3 : Hid (Below u.heap.size u p3) := HB2.out.trans (hb3.mono HB2.out.size)
  obtain ⟨v3, hv3⟩ : ∃ y, y = p3.alloc (.cells #[.int .i64 3, .int .i64 1, .slice a3 0 c3] 24) := ⟨_, rfl⟩
  have hbv : Below p3.heap.size p3 v3 := by rw [hv3]; exact box_below _ _
  have HXV : Hid (∀ y, Below v3.heap.size v3 y → y.cell? ⟨p3.heap.size, 0, none⟩ = some (.int .i64 3) ∧ y.cell? ⟨p3.heap.size, 1, none⟩ = some (.int .i64 1) ∧ y.cell? ⟨p3.heap.size, 2, none⟩ = some (.slice a3 0 c3)) := fun y hy => (tri_cells (Tri.below (show Tri v3 p3.heap.size (.int .i64 3) (.int .i64 1) (.slice a3 0 c3) by rw [hv3]; exact tri_new _ _ _ _) hy)).1
  have HBV : Hid (Below u.heap.size u v3) := HB3.out.trans (hbv.mono HB3.out.size)
  have HV3 := hid hv3
  clear hb3 hbv hv3 B3
  go_wp2
  rw [← HV3.out]
  have hB0 : Below v3.heap.size v3 v3.drew := below_drewN (Below.refl _ _) 1
  refine G_region (fun y => y.cell? ⟨p3.heap.size, 0, none⟩ = some (.int .i64 3) ∧ y.cell? ⟨p3.heap.size, 1, none⟩ = some (.int .i64 1) ∧ y.cell? ⟨p3.heap.size, 2, none⟩ = some (.slice a3 0 c3)) (fun _ => false) (by kernel_rfl) (HXV.out _ hB0) (fun _ => ?_)
  refine G_take (i := 0) (oi := { dst := some 23, op := Op.move (Operand.tmp 4), type := 25, pos := _, after := #[], guard := none }) (v := .int .i64 0) rfl (by kernel_rfl) (by kernel_rfl) (by kernel_rfl) (by kernel_rfl) (fun _ _ _ h => h) (by rfl) (fun u hu => ?_) (HXV.out _ hB0) ?_
  · (try dsimp only at hu); go_simp
  (try simp only [Act.put, List.setIfInBounds_toArray, List.set_cons_zero, List.set_cons_succ])
  refine G_take (i := 1) (oi := { dst := some 24, op := Op.binOp BinOp.neq 25 (Operand.tmp 23) (Operand.const (Value.int IntKind.i64 0)) 25, type := 4, pos := _, after := #[{ on := 0, ground := Ground.data }], guard := none }) (v := .bool false) rfl (by kernel_rfl) (by kernel_rfl) (by kernel_rfl) (by kernel_rfl) (fun _ _ _ h => h) (by rfl) (fun u hu => ?_) (HXV.out _ hB0) ?_
  · (try dsimp only at hu); go_simp
  (try simp only [Act.put, List.setIfInBounds_toArray, List.set_cons_zero, List.set_cons_succ])
  refine G_take (i := 2) (oi := { dst := some 25, op := Op.move (Operand.tmp 24), type := 4, pos := _, after := #[{ on := 1, ground := Ground.data }], guard := none }) (v := .bool false) rfl (by kernel_rfl) (by kernel_rfl) (by kernel_rfl) (by kernel_rfl) (fun _ _ _ h => h) (by rfl) (fun u hu => ?_) (HXV.out _ hB0) ?_
  · (try dsimp only at hu); go_simp
  (try simp only [Act.put, List.setIfInBounds_toArray, List.set_cons_zero, List.set_cons_succ])
  refine G_take (i := 3) (oi := { dst := some 26, op := Op.load 24 (Operand.tmp 3), type := 24, pos := _, after := #[{ on := 2, ground := Ground.guard }], guard := some (2, false) }) (v := .agg #[.int .i64 3, .int .i64 1, .slice a3 0 c3]) rfl (by kernel_rfl) (by kernel_rfl) (by kernel_rfl) (by kernel_rfl) (fun _ _ _ h => h) (by rfl) (fun u hu => ?_) (HXV.out _ hB0) ?_
  · (try dsimp only at hu); go_simp
  (try simp only [Act.put, List.setIfInBounds_toArray, List.set_cons_zero, List.set_cons_succ])
  obtain ⟨q0, hq0⟩ : ∃ y, y = v3.drew := ⟨_, rfl⟩
  rw [← hq0] at hB0 ⊢
  clear hq0
  refine G_step (i := 4) (o := { dst := some 27, op := Op.call { callee := Callee.value (Operand.func 16), args := #[Operand.const (Value.int IntKind.i64 1)], argTypes := #[3] }, type := 24, pos := _, after := #[{ on := 2, ground := Ground.chain }, { on := 2, ground := Ground.guard }], guard := some (2, false) }) (by kernel_rfl) rfl (fun K' hK => ?_)
  go_simp
  go_at_call 16
  refine (atom_f 1 q0).mono ?_
  rintro e q1 ⟨a4, c4, rfl, hk4, hb4⟩
  dsimp only
  have hB1 := hB0.trans (hb4.mono hB0.size)
  refine hK.out _ _ (fun _ => HXV.out _ hB1) (fun _ => ?_)
  clear hK K' hb4 hk4 hB0
  (try simp only [Act.put, List.setIfInBounds_toArray, List.set_cons_zero, List.set_cons_succ])
  have e1 : (nd 3 1).kind = 3 := rfl
  have e2 : (nd 3 1).num = 1 := rfl
  have e3 : (nd 3 1).cnt = 0 := rfl
  simp only [e1, e2, e3]
  clear e1 e2 e3
  refine G_step (i := 5) (o := { dst := some 28, op := Op.call { callee := Callee.value (Operand.func 17), args := #[Operand.tmp 26, Operand.tmp 27], argTypes := #[24, 24] }, type := 4, pos := _, after := #[{ on := 3, ground := Ground.data }, { on := 4, ground := Ground.data }, { on := 4, ground := Ground.chain }, { on := 2, ground := Ground.guard }], guard := some (2, false) }) (by kernel_rfl) rfl (fun K' hK => ?_)
  go_simp
  go_at_call 17
  refine (A5.out q1 a3 a4 c3 c4).mono ?_
  rintro e q2 ⟨rfl, hb5⟩
  dsimp only
  have hB2 := hB1.trans (hb5.mono hB1.size)
  refine hK.out _ _ (fun _ => HXV.out _ hB2) (fun _ => ?_)
  clear hK K' hb5 hB1
  (try simp only [Act.put, List.setIfInBounds_toArray, List.set_cons_zero, List.set_cons_succ])
  refine G_take (i := 6) (oi := { dst := some 29, op := Op.unOp UnOp.not 4 (Operand.tmp 28), type := 4, pos := _, after := #[{ on := 5, ground := Ground.data }, { on := 2, ground := Ground.guard }], guard := some (2, false) }) (v := .bool false) rfl (by kernel_rfl) (by kernel_rfl) (by kernel_rfl) (by kernel_rfl) (fun _ _ _ h => h) (by rfl) (fun u hu => ?_) (HXV.out _ hB2) ?_
  · (try dsimp only at hu); go_simp
  (try simp only [Act.put, List.setIfInBounds_toArray, List.set_cons_zero, List.set_cons_succ])
  refine G_take (i := 7) (oi := { dst := some 30, op := Op.pick (Operand.tmp 25) (Operand.const (Value.bool true)) (Operand.tmp 29), type := 4, pos := _, after := #[{ on := 2, ground := Ground.data }, { on := 6, ground := Ground.data }], guard := none }) (v := .bool false) rfl (by kernel_rfl) (by kernel_rfl) (by kernel_rfl) (by kernel_rfl) (fun _ _ _ h => h) (by rfl) (fun u hu => ?_) (HXV.out _ hB2) ?_
  · (try dsimp only at hu); go_simp
  (try simp only [Act.put, List.setIfInBounds_toArray, List.set_cons_zero, List.set_cons_succ])
  refine G_done (by kernel_rfl) ?_ _
  have HB4 : Hid (Below u.heap.size u q2) := HBV.out.trans (hB2.mono HBV.out.size)
  clear hB2 HXV HBV HV3 HB1 HB2 HB3 A5
  obtain ⟨x0, x1, x2⟩ := (tri_cells (HX.out q2 HB4.out).1).1
  have D20 := hid (C20.out q2 (HX.out q2 HB4.out).2)
  go_wp2_with fail
  refine D20.out.mono ?_
  rintro e y1 ⟨rfl, hb⟩
  have HB5 : Hid (Below u.heap.size u y1) := HB4.out.trans (hb.mono HB4.out.size)
  clear hb D20 x0 x1 x2
  obtain ⟨x0, x1, x2⟩ := (tri_cells (HX.out y1 HB5.out).1).1
  have D := hid (C8.out y1 (HX.out y1 HB5.out).2)
  go_wp2_with fail
  refine D.out.mono ?_
  rintro e y2 ⟨ay2, cy2, rfl, hkg, hb⟩
  obtain ⟨v2, hv⟩ : ∃ q, q = y2.alloc (.cells #[.int .i64 G.kind, .int .i64 G.num, .slice ay2 G.cnt cy2] 24) := ⟨_, rfl⟩
  have hbv : Below y2.heap.size y2 v2 := by rw [hv]; exact box_below _ _
  have HB6 : Hid (Below u.heap.size u v2) := HB5.out.trans ((hb.trans (hbv.mono hb.size)).mono HB5.out.size)
  have HTv2 : Hid (∀ z, Below v2.heap.size v2 z → Tri z y2.heap.size (.int .i64 G.kind) (.int .i64 G.num) (.slice ay2 G.cnt cy2) ∧ Kds z G ay2) := fun z hz => ⟨Tri.below (show Tri v2 y2.heap.size (.int .i64 G.kind) (.int .i64 G.num) (.slice ay2 G.cnt cy2) by rw [hv]; exact tri_new _ _ _ _) hz, (hkg.below hbv).below hz⟩
  have HByv2 : Hid (Below y1.heap.size y1 v2) := hb.trans (hbv.mono hb.size)
  have HVv2 := hid hv
  clear hb hbv hkg hv D x0 x1 x2
  clear HTv2 HByv2
  obtain ⟨x0, x1, x2⟩ := (tri_cells (HX.out v2 HB6.out).1).1
  rw [HVv2.out] at x0 x1 x2
  have D := hid (CS.out v2 (HX.out v2 HB6.out).2)
  go_wp2_with fail
  rw [← HVv2.out]
  refine D.out.mono ?_
  rintro e y6 ⟨ay6, cy6, rfl, hkg, hb⟩
  obtain ⟨v6, hv⟩ : ∃ q, q = y6.alloc (.cells #[.int .i64 S.kind, .int .i64 S.num, .slice ay6 S.cnt cy6] 24) := ⟨_, rfl⟩
  have hbv : Below y6.heap.size y6 v6 := by rw [hv]; exact box_below _ _
  have HB9 : Hid (Below u.heap.size u v6) := HB6.out.trans ((hb.trans (hbv.mono hb.size)).mono HB6.out.size)
  have HTv6 : Hid (∀ z, Below v6.heap.size v6 z → Tri z y6.heap.size (.int .i64 S.kind) (.int .i64 S.num) (.slice ay6 S.cnt cy6) ∧ Kds z S ay6) := fun z hz => ⟨Tri.below (show Tri v6 y6.heap.size (.int .i64 S.kind) (.int .i64 S.num) (.slice ay6 S.cnt cy6) by rw [hv]; exact tri_new _ _ _ _) hz, (hkg.below hbv).below hz⟩
  have HByv6 : Hid (Below v2.heap.size v2 v6) := hb.trans (hbv.mono hb.size)
  have HVv6 := hid hv
  clear hb hbv hkg hv D x0 x1 x2
  obtain ⟨m0, m1, m2⟩ := (tri_cells (HTv6.out v6 (Below.refl _ _)).1).1
  rw [HVv6.out] at m0 m1 m2
  obtain ⟨x0, x1, x2⟩ := (tri_cells (HX.out v6 HB9.out).1).1
  rw [HVv6.out] at x0 x1 x2
  have D := hid (CS2.out v6 ay6 cy6 (HTv6.out v6 (Below.refl _ _)).2 (HX.out v6 HB9.out).2)
  go_wp2_with fail
  rw [← HVv6.out]
  refine D.out.mono ?_
  rintro e y7 ⟨ay7, cy7, rfl, hkg, hb⟩
  obtain ⟨v7, hv⟩ : ∃ q, q = y7.alloc (.cells #[.int .i64 S.kind, .int .i64 S.num, .slice ay7 S.cnt cy7] 24) := ⟨_, rfl⟩
  have hbv : Below y7.heap.size y7 v7 := by rw [hv]; exact box_below _ _
  have HB10 : Hid (Below u.heap.size u v7) := HB9.out.trans ((hb.trans (hbv.mono hb.size)).mono HB9.out.size)
  have HTv7 : Hid (∀ z, Below v7.heap.size v7 z → Tri z y7.heap.size (.int .i64 S.kind) (.int .i64 S.num) (.slice ay7 S.cnt cy7) ∧ Kds z S ay7) := fun z hz => ⟨Tri.below (show Tri v7 y7.heap.size (.int .i64 S.kind) (.int .i64 S.num) (.slice ay7 S.cnt cy7) by rw [hv]; exact tri_new _ _ _ _) hz, (hkg.below hbv).below hz⟩
  have HByv7 : Hid (Below v6.heap.size v6 v7) := hb.trans (hbv.mono hb.size)
  have HVv7 := hid hv
  clear hb hbv hkg hv D x0 x1 x2
  clear m0 m1 m2
  have HS : Hid (∀ z, Below v7.heap.size v7 z → (z.cell? ⟨y6.heap.size, 0, none⟩ = some (.int .i64 S.kind) ∧ z.cell? ⟨y6.heap.size, 1, none⟩ = some (.int .i64 S.num) ∧ z.cell? ⟨y6.heap.size, 2, none⟩ = some (.slice ay6 S.cnt cy6)) ∧ (z.cell? ⟨y7.heap.size, 0, none⟩ = some (.int .i64 S.kind) ∧ z.cell? ⟨y7.heap.size, 1, none⟩ = some (.int .i64 S.num) ∧ z.cell? ⟨y7.heap.size, 2, none⟩ = some (.slice ay7 S.cnt cy7)) ∧ z.cell? ⟨w.heap.size, 0, none⟩ = some (.int .i64 t.kind) ∧ z.cell? ⟨w.heap.size, 1, none⟩ = some (.int .i64 t.num) ∧ z.cell? ⟨w.heap.size, 2, none⟩ = some (.slice a t.cnt cap)) := fun z hz => ⟨(tri_cells (HTv6.out z (HByv7.out.trans (hz.mono HByv7.out.size))).1).1, (tri_cells (HTv7.out z hz).1).1, (tri_cells (HX.out z (HB10.out.trans (hz.mono HB10.out.size))).1).1⟩
  have HKS : Hid (∀ z, Below v7.heap.size v7 z → (Kds z S ay6 ∧ Kds z S ay7) ∧ Below w.heap.size w z) := fun z hz => ⟨⟨(HTv6.out z (HByv7.out.trans (hz.mono HByv7.out.size))).2, (HTv7.out z hz).2⟩, (HX.out z (HB10.out.trans (hz.mono HB10.out.size))).2⟩
  go_wp2
  rw [← HVv7.out]
  have hB0 : Below v7.heap.size v7 v7.drew := below_drewN (Below.refl _ _) 1
  refine G_region (fun z => (z.cell? ⟨y6.heap.size, 0, none⟩ = some (.int .i64 S.kind) ∧ z.cell? ⟨y6.heap.size, 1, none⟩ = some (.int .i64 S.num) ∧ z.cell? ⟨y6.heap.size, 2, none⟩ = some (.slice ay6 S.cnt cy6)) ∧ (z.cell? ⟨y7.heap.size, 0, none⟩ = some (.int .i64 S.kind) ∧ z.cell? ⟨y7.heap.size, 1, none⟩ = some (.int .i64 S.num) ∧ z.cell? ⟨y7.heap.size, 2, none⟩ = some (.slice ay7 S.cnt cy7)) ∧ z.cell? ⟨w.heap.size, 0, none⟩ = some (.int .i64 t.kind) ∧ z.cell? ⟨w.heap.size, 1, none⟩ = some (.int .i64 t.num) ∧ z.cell? ⟨w.heap.size, 2, none⟩ = some (.slice a t.cnt cap)) (fun _ => false) (by kernel_rfl) (HS.out _ hB0) (fun _ => ?_)
  refine G_take (i := 0) (oi := { dst := some 83, op := Op.move (Operand.tmp 12), type := 25, pos := _, after := #[], guard := none }) (v := .int .i64 0) rfl (by kernel_rfl) (by kernel_rfl) (by kernel_rfl) (by kernel_rfl) (fun _ _ _ h => h) (by rfl) (fun u hu => ?_) (HS.out _ hB0) ?_
  · (try dsimp only at hu); go_simp
  (try simp only [Act.put, List.setIfInBounds_toArray, List.set_cons_zero, List.set_cons_succ])
  refine G_take (i := 1) (oi := { dst := some 84, op := Op.binOp BinOp.neq 25 (Operand.tmp 83) (Operand.const (Value.int IntKind.i64 0)) 25, type := 4, pos := _, after := #[{ on := 0, ground := Ground.data }], guard := none }) (v := .bool false) rfl (by kernel_rfl) (by kernel_rfl) (by kernel_rfl) (by kernel_rfl) (fun _ _ _ h => h) (by rfl) (fun u hu => ?_) (HS.out _ hB0) ?_
  · (try dsimp only at hu); go_simp
  (try simp only [Act.put, List.setIfInBounds_toArray, List.set_cons_zero, List.set_cons_succ])
  refine G_take (i := 2) (oi := { dst := some 85, op := Op.move (Operand.tmp 84), type := 4, pos := _, after := #[{ on := 1, ground := Ground.data }], guard := none }) (v := .bool false) rfl (by kernel_rfl) (by kernel_rfl) (by kernel_rfl) (by kernel_rfl) (fun _ _ _ h => h) (by rfl) (fun u hu => ?_) (HS.out _ hB0) ?_
  · (try dsimp only at hu); go_simp
  (try simp only [Act.put, List.setIfInBounds_toArray, List.set_cons_zero, List.set_cons_succ])
  refine G_take (i := 3) (oi := { dst := some 86, op := Op.move (Operand.tmp 14), type := 25, pos := _, after := #[{ on := 2, ground := Ground.guard }], guard := some (2, false) }) (v := .int .i64 0) rfl (by kernel_rfl) (by kernel_rfl) (by kernel_rfl) (by kernel_rfl) (fun _ _ _ h => h) (by rfl) (fun u hu => ?_) (HS.out _ hB0) ?_
  · (try dsimp only at hu); go_simp
  (try simp only [Act.put, List.setIfInBounds_toArray, List.set_cons_zero, List.set_cons_succ])
  refine G_take (i := 4) (oi := { dst := some 87, op := Op.binOp BinOp.neq 25 (Operand.tmp 86) (Operand.const (Value.int IntKind.i64 0)) 25, type := 4, pos := _, after := #[{ on := 3, ground := Ground.data }, { on := 2, ground := Ground.guard }], guard := some (2, false) }) (v := .bool false) rfl (by kernel_rfl) (by kernel_rfl) (by kernel_rfl) (by kernel_rfl) (fun _ _ _ h => h) (by rfl) (fun u hu => ?_) (HS.out _ hB0) ?_
  · (try dsimp only at hu); go_simp
  (try simp only [Act.put, List.setIfInBounds_toArray, List.set_cons_zero, List.set_cons_succ])
  refine G_take (i := 5) (oi := { dst := some 88, op := Op.pick (Operand.tmp 85) (Operand.const (Value.bool true)) (Operand.tmp 87), type := 4, pos := _, after := #[{ on := 2, ground := Ground.data }, { on := 4, ground := Ground.data }], guard := none }) (v := .bool false) rfl (by kernel_rfl) (by kernel_rfl) (by kernel_rfl) (by kernel_rfl) (fun _ _ _ h => h) (by rfl) (fun u hu => ?_) (HS.out _ hB0) ?_
  · (try dsimp only at hu); go_simp
  (try simp only [Act.put, List.setIfInBounds_toArray, List.set_cons_zero, List.set_cons_succ])
  refine G_take (i := 6) (oi := { dst := some 89, op := Op.move (Operand.tmp 88), type := 4, pos := _, after := #[{ on := 5, ground := Ground.data }, { on := 2, ground := Ground.chain }], guard := none }) (v := .bool false) rfl (by kernel_rfl) (by kernel_rfl) (by kernel_rfl) (by kernel_rfl) (fun _ _ _ h => h) (by rfl) (fun u hu => ?_) (HS.out _ hB0) ?_
  · (try dsimp only at hu); go_simp
  (try simp only [Act.put, List.setIfInBounds_toArray, List.set_cons_zero, List.set_cons_succ])
  refine G_take (i := 7) (oi := { dst := some 90, op := Op.load 24 (Operand.tmp 11), type := 24, pos := _, after := #[{ on := 6, ground := Ground.guard }], guard := some (6, false) }) (v := .agg #[.int .i64 S.kind, .int .i64 S.num, .slice ay6 S.cnt cy6]) rfl (by kernel_rfl) (by kernel_rfl) (by kernel_rfl) (by kernel_rfl) (fun _ _ _ h => h) (by rfl) (fun u hu => ?_) (HS.out _ hB0) ?_
  · (try dsimp only at hu); go_simp
  (try simp only [Act.put, List.setIfInBounds_toArray, List.set_cons_zero, List.set_cons_succ])
  refine G_take (i := 8) (oi := { dst := some 91, op := Op.load 24 (Operand.tmp 13), type := 24, pos := _, after := #[{ on := 6, ground := Ground.guard }], guard := some (6, false) }) (v := .agg #[.int .i64 S.kind, .int .i64 S.num, .slice ay7 S.cnt cy7]) rfl (by kernel_rfl) (by kernel_rfl) (by kernel_rfl) (by kernel_rfl) (fun _ _ _ h => h) (by rfl) (fun u hu => ?_) (HS.out _ hB0) ?_
  · (try dsimp only at hu); go_simp
  (try simp only [Act.put, List.setIfInBounds_toArray, List.set_cons_zero, List.set_cons_succ])
  obtain ⟨q3, hq3⟩ : ∃ y, y = v7.drew := ⟨_, rfl⟩
  rw [← hq3] at hB0 ⊢
  clear hq3
  refine G_step (i := 9) (o := { dst := some 92, op := Op.call { callee := Callee.value (Operand.func 17), args := #[Operand.tmp 90, Operand.tmp 91], argTypes := #[24, 24] }, type := 4, pos := _, after := #[{ on := 7, ground := Ground.data }, { on := 8, ground := Ground.data }, { on := 6, ground := Ground.chain }, { on := 6, ground := Ground.guard }], guard := some (6, false) }) (by kernel_rfl) rfl (fun K' hK => ?_)
  go_simp
  go_at_call 17
  refine (CSm.out q3 ay6 ay7 cy6 cy7 (HKS.out q3 hB0).1.1 (HKS.out q3 hB0).1.2).mono ?_
  rintro e q4 ⟨rfl, hb⟩
  dsimp only
  have hB1 := hB0.trans (hb.mono hB0.size)
  refine hK.out _ _ (fun _ => HS.out _ hB1) (fun _ => ?_)
  clear hK K' hb hB0
  (try simp only [Act.put, List.setIfInBounds_toArray, List.set_cons_zero, List.set_cons_succ])
  refine G_take (i := 10) (oi := { dst := some 93, op := Op.unOp UnOp.not 4 (Operand.tmp 92), type := 4, pos := _, after := #[{ on := 9, ground := Ground.data }, { on := 6, ground := Ground.guard }], guard := some (6, false) }) (v := .bool false) rfl (by kernel_rfl) (by kernel_rfl) (by kernel_rfl) (by kernel_rfl) (fun _ _ _ h => h) (by rfl) (fun u hu => ?_) (HS.out _ hB1) ?_
  · (try dsimp only at hu); go_simp
  (try simp only [Act.put, List.setIfInBounds_toArray, List.set_cons_zero, List.set_cons_succ])
  refine G_take (i := 11) (oi := { dst := some 94, op := Op.pick (Operand.tmp 89) (Operand.const (Value.bool true)) (Operand.tmp 93), type := 4, pos := _, after := #[{ on := 6, ground := Ground.data }, { on := 10, ground := Ground.data }], guard := none }) (v := .bool false) rfl (by kernel_rfl) (by kernel_rfl) (by kernel_rfl) (by kernel_rfl) (fun _ _ _ h => h) (by rfl) (fun u hu => ?_) (HS.out _ hB1) ?_
  · (try dsimp only at hu); go_simp
  (try simp only [Act.put, List.setIfInBounds_toArray, List.set_cons_zero, List.set_cons_succ])
  refine G_take (i := 12) (oi := { dst := some 95, op := Op.move (Operand.tmp 94), type := 4, pos := _, after := #[{ on := 11, ground := Ground.data }, { on := 9, ground := Ground.chain }], guard := none }) (v := .bool false) rfl (by kernel_rfl) (by kernel_rfl) (by kernel_rfl) (by kernel_rfl) (fun _ _ _ h => h) (by rfl) (fun u hu => ?_) (HS.out _ hB1) ?_
  · (try dsimp only at hu); go_simp
  (try simp only [Act.put, List.setIfInBounds_toArray, List.set_cons_zero, List.set_cons_succ])
  refine G_take (i := 13) (oi := { dst := some 96, op := Op.load 24 (Operand.tmp 11), type := 24, pos := _, after := #[{ on := 12, ground := Ground.guard }], guard := some (12, false) }) (v := .agg #[.int .i64 S.kind, .int .i64 S.num, .slice ay6 S.cnt cy6]) rfl (by kernel_rfl) (by kernel_rfl) (by kernel_rfl) (by kernel_rfl) (fun _ _ _ h => h) (by rfl) (fun u hu => ?_) (HS.out _ hB1) ?_
  · (try dsimp only at hu); go_simp
  (try simp only [Act.put, List.setIfInBounds_toArray, List.set_cons_zero, List.set_cons_succ])
  refine G_take (i := 15) (oi := { dst := some 98, op := Op.load 24 (Operand.tmp 1), type := 24, pos := _, after := #[{ on := 12, ground := Ground.guard }], guard := some (12, false) }) (v := .agg #[.int .i64 t.kind, .int .i64 t.num, .slice a t.cnt cap]) rfl (by kernel_rfl) (by kernel_rfl) (by kernel_rfl) (by kernel_rfl) (fun _ _ _ h => h) (by rfl) (fun u hu => ?_) (HS.out _ hB1) ?_
  · (try dsimp only at hu); go_simp
  (try simp only [Act.put, List.setIfInBounds_toArray, List.set_cons_zero, List.set_cons_succ])
  refine G_step (i := 14) (o := { dst := some 97, op := Op.call { callee := Callee.value (Operand.func 22), args := #[Operand.tmp 96], argTypes := #[24] }, type := 3, pos := _, after := #[{ on := 13, ground := Ground.data }, { on := 12, ground := Ground.chain }, { on := 12, ground := Ground.guard }], guard := some (12, false) }) (by kernel_rfl) rfl (fun K' hK => ?_)
  go_simp
  go_at_call 22
  refine (CZ1.out q4 ay6 cy6 (HKS.out q4 hB1).1.1).mono ?_
  rintro e q5 ⟨rfl, hb⟩
  dsimp only
  have hB2 := hB1.trans (hb.mono hB1.size)
  refine hK.out _ _ (fun _ => HS.out _ hB2) (fun _ => ?_)
  clear hK K' hb hB1
  (try simp only [Act.put, List.setIfInBounds_toArray, List.set_cons_zero, List.set_cons_succ])
  refine G_step (i := 16) (o := { dst := some 99, op := Op.call { callee := Callee.value (Operand.func 22), args := #[Operand.tmp 98], argTypes := #[24] }, type := 3, pos := _, after := #[{ on := 15, ground := Ground.data }, { on := 14, ground := Ground.chain }, { on := 12, ground := Ground.guard }], guard := some (12, false) }) (by kernel_rfl) rfl (fun K' hK => ?_)
  go_simp
  go_at_call 22
  refine (CZ2.out q5 (HKS.out q5 hB2).2).mono ?_
  rintro e q6 ⟨rfl, hb⟩
  dsimp only
  have hB3 := hB2.trans (hb.mono hB2.size)
  refine hK.out _ _ (fun _ => HS.out _ hB3) (fun _ => ?_)
  clear hK K' hb hB2
  (try simp only [Act.put, List.setIfInBounds_toArray, List.set_cons_zero, List.set_cons_succ])
  refine G_take (i := 17) (oi := { dst := some 100, op := Op.binOp BinOp.gtr 3 (Operand.tmp 97) (Operand.tmp 99) 3, type := 4, pos := _, after := #[{ on := 14, ground := Ground.data }, { on := 16, ground := Ground.data }, { on := 12, ground := Ground.guard }], guard := some (12, false) }) (v := .bool false) rfl (by kernel_rfl) (by kernel_rfl) (by kernel_rfl) (by kernel_rfl) (fun _ _ _ h => h) (by rfl) (fun u hu => ?_) (HS.out _ hB3) ?_
  · (try dsimp only at hu); go_simp
  (try simp only [Act.put, List.setIfInBounds_toArray, List.set_cons_zero, List.set_cons_succ])
  refine G_take (i := 18) (oi := { dst := some 101, op := Op.pick (Operand.tmp 95) (Operand.const (Value.bool true)) (Operand.tmp 100), type := 4, pos := _, after := #[{ on := 12, ground := Ground.data }, { on := 17, ground := Ground.data }], guard := none }) (v := .bool false) rfl (by kernel_rfl) (by kernel_rfl) (by kernel_rfl) (by kernel_rfl) (fun _ _ _ h => h) (by rfl) (fun u hu => ?_) (HS.out _ hB3) ?_
  · (try dsimp only at hu); go_simp
  (try simp only [Act.put, List.setIfInBounds_toArray, List.set_cons_zero, List.set_cons_succ])
  refine G_done (by kernel_rfl) ?_ _
  have HB11 : Hid (Below u.heap.size u q6) := HB10.out.trans (hB3.mono HB10.out.size)
  clear hB3 HS HKS HTv6 HTv7 HVv6 HVv7 HByv6 HByv7 HB9 HB10
  obtain ⟨x0, x1, x2⟩ := (tri_cells (HX.out q6 HB11.out).1).1
  have D := hid (C9.out q6 (HX.out q6 HB11.out).2)
  go_wp2_with fail
  refine D.out.mono ?_
  rintro e y9 ⟨ay9, cy9, rfl, hkg, hb⟩
  obtain ⟨v9, hv⟩ : ∃ q, q = y9.alloc (.cells #[.int .i64 PN.kind, .int .i64 PN.num, .slice ay9 PN.cnt cy9] 24) := ⟨_, rfl⟩
  have hbv : Below y9.heap.size y9 v9 := by rw [hv]; exact box_below _ _
  have HB12 : Hid (Below u.heap.size u v9) := HB11.out.trans ((hb.trans (hbv.mono hb.size)).mono HB11.out.size)
  have HTv9 : Hid (∀ z, Below v9.heap.size v9 z → Tri z y9.heap.size (.int .i64 PN.kind) (.int .i64 PN.num) (.slice ay9 PN.cnt cy9) ∧ Kds z PN ay9) := fun z hz => ⟨Tri.below (show Tri v9 y9.heap.size (.int .i64 PN.kind) (.int .i64 PN.num) (.slice ay9 PN.cnt cy9) by rw [hv]; exact tri_new _ _ _ _) hz, (hkg.below hbv).below hz⟩
  have HByv9 : Hid (Below q6.heap.size q6 v9) := hb.trans (hbv.mono hb.size)
  have HVv9 := hid hv
  clear hb hbv hkg hv D x0 x1 x2
  have HF := hid ((HX.out v9 HB12.out).2)
  rw [HVv9.out] at HF
  go_wp2
  go_ret
  exact ⟨rfl, HF.out⟩

theorem pushShapes_walk {w : World} {t : Fml} {a : Option Addr} {cap : Nat} (hkc : kcAt w) (h1 : opA 1 w) (hk : Kds w t a) (hc : t.cnt ≤ 9223372036854775807) :
    Calls Tryd.prog 6 #[.agg #[.int .i64 t.kind, .int .i64 t.num, .slice a t.cnt cap]] w fun e w' => e = .returned (.bool true) ∧ Below w.heap.size w w' := by
  by_cases q : (chk t 1 0).1 = 0
  · by_cases q8 : (chk (nt t false) 1 0).1 = 0
    · by_cases q9 : (chk (pn t) 1 0).1 = 0
      · exact shapes_aa hkc h1 hk hc q q8 q9
      · exact shapes_ab hkc h1 hk hc q q8 q9
    · by_cases q9 : (chk (pn t) 1 0).1 = 0
      · exact shapes_ba hkc h1 hk hc q q8 q9
      · exact shapes_bb hkc h1 hk hc q q8 q9
  · exact shapes_bad hkc h1 hk hc q

end Go.Proofs.YtinacgkiigbmjaaDoor
