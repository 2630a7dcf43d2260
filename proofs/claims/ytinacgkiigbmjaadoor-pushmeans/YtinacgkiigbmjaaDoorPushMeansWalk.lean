/- The law PushMeans, walked. -/
import Derived.Test.YtinacgkiigbmjaaDoorMde
import Derived.Test.YtinacgkiigbmjaaDoorTru
namespace Go.Proofs.YtinacgkiigbmjaaDoor
open Go.RowKit

theorem tr_same {t t2 : Fml} {s m : Nat} {S L : Nat → Int} (h : ∀ A, hold A t 0 ↔ hold A t2 0) : (trV t s m S L).2 = true → (trV t2 s m S L).2 = true → (trV t s m S L).1 = (trV t2 s m S L).1 := by
  intro h1 h2
  unfold trV at h1 h2 ⊢
  by_cases a : hchk t s m = 0
  · by_cases b : hchk t2 s m = 0
    · rw [if_pos a, if_pos b]
      have hm : 0 < m := by
        unfold hchk at a
        by_cases hc : (chk t 1 0).1 = 0
        · rw [if_neg (by rw [hc]; decide)] at a
          exact (wchk_ok a).2
        · rw [if_pos hc] at a
          exact absurd a hc
      show hb (s + m) (atm s m S L) t 0 = hb (s + m) (atm s m S L) t2 0
      rw [Bool.eq_iff_iff, hb_hold hm (atm_per s m S L), hb_hold hm (atm_per s m S L)]
      exact h _
    · rw [if_neg b] at h2; cases h2
  · rw [if_neg a] at h1; cases h1

theorem trV_ok {t : Fml} {s m : Nat} {S L : Nat → Int} (h : (trV t s m S L).2 = true) : (chk t 1 0).1 = 0 ∧ wchk s m = 0 := by
  unfold trV at h
  by_cases e : hchk t s m = 0
  · unfold hchk at e
    by_cases c : (chk t 1 0).1 = 0
    · rw [if_neg (by rw [c]; decide)] at e
      exact ⟨c, e⟩
    · rw [if_pos c] at e
      exact absurd e c
  · rw [if_neg e] at h; cases h
theorem trV_yes {t : Fml} {s m : Nat} {S L : Nat → Int} (h : (chk t 1 0).1 = 0) (h2 : wchk s m = 0) : (trV t s m S L).2 = true := by
  have e : hchk t s m = 0 := by
    unfold hchk
    rw [if_neg (by rw [h]; decide)]
    exact h2
  unfold trV
  rw [if_pos e]

/-- The formula that the law asks first, and its answer. -/
def yF : Fml := on 4 (on 10 (nd 3 1))
def yG : Fml := on 11 (on 4 (nd 3 1))
theorem n31_wf : Wf (nd 3 1) := wf_nd (by decide)
theorem yF_wf : Wf yF := wf_on (by omega) (wf_on (by omega) n31_wf)
theorem yF_nt : nt yF false = yG := by
  rw [nt_wfeq yF_wf]
  unfold ntF
  rw [if_pos rfl]
  show nt (yF.kid 0) true = yG
  have e : yF.kid 0 = on 10 (nd 3 1) := on_kid _ _
  rw [e, nt_wfeq (wf_on (by omega) n31_wf)]
  unfold ntF
  have k10 : (on 10 (nd 3 1)).kind = 10 := rfl
  rw [k10, if_neg (by decide), if_neg (by decide), if_neg (by decide)]
  refine fml_ext (by decide) rfl rfl (fun i hi => ?_)
  have hi' : i < 1 := hi
  obtain rfl : i = 0 := by omega
  rw [mkn_kid (show 0 < (on 10 (nd 3 1)).cnt from hi')]
  show nt ((on 10 (nd 3 1)).kid 0) true = yG.kid 0
  have e2 : yG.kid 0 = on 4 (nd 3 1) := on_kid _ _
  rw [e2, on_kid, nt_wfeq n31_wf]
  unfold ntF
  have k3 : (nd 3 1).kind = 3 := rfl
  rw [k3, if_neg (by decide), if_neg (by decide), if_pos rfl]
  rfl
theorem yF_cgv : cgv yF (nt yF false) = (yG, 0) := by
  rw [yF_nt]
  refine cgv_ok ?_ ?_
  · exact (chk_iff _).2 ⟨yF_wf, by unfold yF; rw [sz_on, sz_on, sz_nd]; omega, by unfold yF; rw [dp_on, dp_on, dp_nd]; omega⟩
  · exact (chk_iff _).2 ⟨wf_on (by omega) (wf_on (by omega) n31_wf), by unfold yG; rw [sz_on, sz_on, sz_nd]; omega, by unfold yG; rw [dp_on, dp_on, dp_nd]; omega⟩

set_option maxHeartbeats 8000000 in
theorem means_no {w : World} {t : Fml} {a : Option Addr} {cap : Nat} {sa : Option Addr} {s sc : Nat} {la : Option Addr} {m lc : Nat} {S L : Nat → Int} (h : Fw w t a sa s sc la m lc S L) (h1 : opA 1 w) (q : (trV t s m S L).2 = false) :
    Calls Tryd.prog 5 #[.agg #[.int .i64 t.kind, .int .i64 t.num, .slice a t.cnt cap], .agg #[.slice sa s sc, .slice la m lc]] w fun e w' => e = .returned (.bool true) ∧ Below w.heap.size w w' := by
  obtain ⟨u, hu⟩ : ∃ y, y = (w.alloc (.cells #[.int .i64 t.kind, .int .i64 t.num, .slice a t.cnt cap] 24)).alloc (.cells #[.slice sa s sc, .slice la m lc] 34) := ⟨_, rfl⟩
  have hB : Below w.heap.size w u := by rw [hu]; exact below_alloc2 _ _ _
  have hx : Fx u w.heap.size t a cap sa s sc la m lc := by rw [hu]; exact fx_new _ _ _ _ _ _ _ _ _ _
  have HX : Hid (∀ z, Below u.heap.size u z → Fx z w.heap.size t a cap sa s sc la m lc ∧ Below w.heap.size w z) := fun z hz => ⟨hx.below hz, hB.trans (hz.mono hB.size)⟩
  have A1 : Hid (∀ z, Calls Tryd.prog 16 #[.int .i64 1] z fun e w' => ∃ (a' : Option Addr) (c' : Nat), e = .returned (.agg #[.int .i64 3, .int .i64 1, .slice a' 0 c']) ∧ Below z.heap.size z w') := fun z => (atom_f 1 z).mono fun e w' ⟨a', c', he, _, hb⟩ => ⟨a', c', he, hb⟩
  have A2 : Hid (∀ (k : Int) z (a1 : Option Addr) (c1 : Nat), Calls Tryd.prog 15 #[.int .i64 k, .agg #[.int .i64 3, .int .i64 1, .slice a1 0 c1]] z fun e w' => ∃ (a' : Option Addr) (c' : Nat), e = .returned (.agg #[.int .i64 k, .int .i64 0, .slice a' 1 c']) ∧ Kds w' (on k (nd 3 1)) a' ∧ Below z.heap.size z w') := fun k z a1 c1 => (one_f k (nd 3 1) a1 c1 z (kds_nd _ _ _ _) (Nat.zero_le _)).mono fun e w' ⟨a', c', he, hk, hb⟩ => ⟨a', c', he, hk, hb⟩
  have A3 : Hid (∀ (k l : Int) z (a1 : Option Addr) (c1 : Nat), Kds z (on k (nd 3 1)) a1 → Calls Tryd.prog 15 #[.int .i64 l, .agg #[.int .i64 k, .int .i64 0, .slice a1 1 c1]] z fun e w' => ∃ (a' : Option Addr) (c' : Nat), e = .returned (.agg #[.int .i64 l, .int .i64 0, .slice a' 1 c']) ∧ Kds w' (on l (on k (nd 3 1))) a' ∧ Below z.heap.size z w') := fun k l z a1 c1 hk => (one_f l (on k (nd 3 1)) a1 c1 z hk (show 1 ≤ 9223372036854775807 by decide)).mono fun e w' ⟨a', c', he, hk, hb⟩ => ⟨a', c', he, hk, hb⟩
  have A4 : Hid (∀ z (a1 : Option Addr) (c1 : Nat), Below w.heap.size w z → Kds z yF a1 → Calls Tryd.prog 8 #[.agg #[.int .i64 4, .int .i64 0, .slice a1 1 c1]] z fun e w' => ∃ (a' : Option Addr) (c' : Nat), e = .returned (.tuple #[.agg #[.int .i64 11, .int .i64 0, .slice a' 1 c'], .int .i64 0]) ∧ Kds w' yG a' ∧ Below z.heap.size z w') := fun z a1 c1 hz hk => by
    refine (nots8 (t := yF) a1 c1 z (h.kc.below hz h.kc.pos) (h1.below hz) hk (show 1 ≤ 9223372036854775807 by decide)).mono ?_
    rintro e w' ⟨a', c', he, hk', hb⟩
    rw [yF_cgv] at he hk'
    exact ⟨a', c', he, hk'.out, hb⟩
  have A5 : Hid (∀ z (a1 a2 : Option Addr) (c1 c2 : Nat), Kds z yG a1 → Kds z yG a2 → Calls Tryd.prog 17 #[.agg #[.int .i64 11, .int .i64 0, .slice a1 1 c1], .agg #[.int .i64 11, .int .i64 0, .slice a2 1 c2]] z fun e w' => e = .returned (.bool true) ∧ Below z.heap.size z w') := fun z a1 a2 c1 c2 hk1 hk2 => by
    have := same17 yG yG a1 a2 c1 c2 z hk1 hk2 (show 1 ≤ 9223372036854775807 by decide) (show 1 ≤ 9223372036854775807 by decide)
    rw [same_self] at this
    exact this
  have HU := hid hu
  obtain ⟨x, hx1⟩ : ∃ y, y = (trV t s m S L).1 := ⟨_, rfl⟩
  have CT : Hid (∀ z, Below w.heap.size w z → Calls Tryd.prog 18 #[.agg #[.int .i64 t.kind, .int .i64 t.num, .slice a t.cnt cap], .agg #[.slice sa s sc, .slice la m lc]] z fun e w' => e = .returned (.tuple #[.bool x, .bool false]) ∧ Below z.heap.size z w') := fun z hz => by
    have := truth_any (cap := cap) (h.below hz)
    rw [q, ← hx1] at this
    exact this
  clear hu hB hx h h1 q hx1
  go_enter Tryd.func5, Tryd.ntmps5
  have B1 := hid (A1.out u)
  go_wp2_with fail
  rw [← HU.out]
  refine B1.out.mono ?_
  rintro e p1 ⟨a1, c1, rfl, hb1⟩
  have HB1 : Hid (Below u.heap.size u p1) := hb1
  have B2 := hid (A2.out 10 p1 a1 c1)
  clear hb1 B1 HU
  go_wp2_with fail
  refine B2.out.mono ?_
  rintro e p2 ⟨a2, c2, rfl, hk2, hb2⟩
  have HB2 : Hid (Below u.heap.size u p2) := HB1.out.trans (hb2.mono HB1.out.size)
  have B3 := hid (A3.out 10 4 p2 a2 c2 hk2)
  clear hk2 hb2 B2
  go_wp2_with fail
  refine B3.out.mono ?_
  rintro e p3 ⟨a3, c3, rfl, hk3, hb3⟩
  have HB3 : Hid (Below u.heap.size u p3) := HB2.out.trans (hb3.mono HB2.out.size)
  have B4 := hid (A4.out p3 a3 c3 (HX.out p3 HB3.out).2 hk3)
  clear hk3 hb3 B3 A4
  go_wp2_with fail
  refine B4.out.mono ?_
  rintro e p4 ⟨a4, c4, rfl, hk4, hb4⟩
  have HB4 : Hid (Below u.heap.size u p4) := HB3.out.trans (hb4.mono HB3.out.size)
  obtain ⟨v4, hv4⟩ : ∃ y, y = p4.alloc (.cells #[.int .i64 11, .int .i64 0, .slice a4 1 c4] 24) := ⟨_, rfl⟩
  have hbv : Below p4.heap.size p4 v4 := by rw [hv4]; exact box_below _ _
  have HXV : Hid (∀ y, Below v4.heap.size v4 y → y.cell? ⟨p4.heap.size, 0, none⟩ = some (.int .i64 11) ∧ y.cell? ⟨p4.heap.size, 1, none⟩ = some (.int .i64 0) ∧ y.cell? ⟨p4.heap.size, 2, none⟩ = some (.slice a4 1 c4)) := fun y hy => (tri_cells (Tri.below (show Tri v4 p4.heap.size (.int .i64 11) (.int .i64 0) (.slice a4 1 c4) by rw [hv4]; exact tri_new _ _ _ _) hy)).1
  have HKV : Hid (∀ y, Below v4.heap.size v4 y → Kds y yG a4) := fun y hy => (hk4.below hbv).below hy
  have HBV : Hid (Below u.heap.size u v4) := HB4.out.trans (hbv.mono HB4.out.size)
  have HV4 := hid hv4
  clear hb4 hk4 hbv hv4 B4
  go_wp2
  rw [← HV4.out]
  have hB0 : Below v4.heap.size v4 v4.drew := below_drewN (Below.refl _ _) 1
  refine G_region (fun y => y.cell? ⟨p4.heap.size, 0, none⟩ = some (.int .i64 11) ∧ y.cell? ⟨p4.heap.size, 1, none⟩ = some (.int .i64 0) ∧ y.cell? ⟨p4.heap.size, 2, none⟩ = some (.slice a4 1 c4)) (fun _ => false) (by kernel_rfl) (HXV.out _ hB0) (fun _ => ?_)
  refine G_take (i := 0) (oi := { dst := some 22, op := Op.move (Operand.tmp 6), type := 25, pos := _, after := #[], guard := none }) (v := .int .i64 0) rfl (by kernel_rfl) (by kernel_rfl) (by kernel_rfl) (by kernel_rfl) (fun _ _ _ h => h) (by rfl) (fun u hu => ?_) (HXV.out _ hB0) ?_
  · (try dsimp only at hu); go_simp
  (try simp only [Act.put, List.setIfInBounds_toArray, List.set_cons_zero, List.set_cons_succ])
  refine G_take (i := 1) (oi := { dst := some 23, op := Op.binOp BinOp.neq 25 (Operand.tmp 22) (Operand.const (Value.int IntKind.i64 0)) 25, type := 4, pos := _, after := #[{ on := 0, ground := Ground.data }], guard := none }) (v := .bool false) rfl (by kernel_rfl) (by kernel_rfl) (by kernel_rfl) (by kernel_rfl) (fun _ _ _ h => h) (by rfl) (fun u hu => ?_) (HXV.out _ hB0) ?_
  · (try dsimp only at hu); go_simp
  (try simp only [Act.put, List.setIfInBounds_toArray, List.set_cons_zero, List.set_cons_succ])
  refine G_take (i := 2) (oi := { dst := some 24, op := Op.move (Operand.tmp 23), type := 4, pos := _, after := #[{ on := 1, ground := Ground.data }], guard := none }) (v := .bool false) rfl (by kernel_rfl) (by kernel_rfl) (by kernel_rfl) (by kernel_rfl) (fun _ _ _ h => h) (by rfl) (fun u hu => ?_) (HXV.out _ hB0) ?_
  · (try dsimp only at hu); go_simp
  (try simp only [Act.put, List.setIfInBounds_toArray, List.set_cons_zero, List.set_cons_succ])
  refine G_take (i := 3) (oi := { dst := some 25, op := Op.load 24 (Operand.tmp 5), type := 24, pos := _, after := #[{ on := 2, ground := Ground.guard }], guard := some (2, false) }) (v := .agg #[.int .i64 11, .int .i64 0, .slice a4 1 c4]) rfl (by kernel_rfl) (by kernel_rfl) (by kernel_rfl) (by kernel_rfl) (fun _ _ _ h => h) (by rfl) (fun u hu => ?_) (HXV.out _ hB0) ?_
  · (try dsimp only at hu); go_simp
  (try simp only [Act.put, List.setIfInBounds_toArray, List.set_cons_zero, List.set_cons_succ])
  obtain ⟨q0, hq0⟩ : ∃ y, y = v4.drew := ⟨_, rfl⟩
  rw [← hq0] at hB0 ⊢
  clear hq0
  refine G_step (i := 4) (o := { dst := some 26, op := Op.call { callee := Callee.value (Operand.func 16), args := #[Operand.const (Value.int IntKind.i64 1)], argTypes := #[3] }, type := 24, pos := _, after := #[{ on := 2, ground := Ground.chain }, { on := 2, ground := Ground.guard }], guard := some (2, false) }) (by kernel_rfl) rfl (fun K' hK => ?_)
  go_simp
  go_at_call 16
  refine (A1.out q0).mono ?_
  rintro e q1 ⟨a5, c5, rfl, hb⟩
  dsimp only
  have hB1 := hB0.trans (hb.mono hB0.size)
  refine hK.out _ _ (fun _ => HXV.out _ hB1) (fun _ => ?_)
  clear hK K' hb hB0
  (try simp only [Act.put, List.setIfInBounds_toArray, List.set_cons_zero, List.set_cons_succ])
  refine G_step (i := 5) (o := { dst := some 27, op := Op.call { callee := Callee.value (Operand.func 15), args := #[Operand.const (Value.int IntKind.i64 4), Operand.tmp 26], argTypes := #[3, 24] }, type := 24, pos := _, after := #[{ on := 4, ground := Ground.data }, { on := 4, ground := Ground.chain }, { on := 2, ground := Ground.guard }], guard := some (2, false) }) (by kernel_rfl) rfl (fun K' hK => ?_)
  go_simp
  go_at_call 15
  refine (A2.out 4 q1 a5 c5).mono ?_
  rintro e q2 ⟨a6, c6, rfl, hk6, hb⟩
  dsimp only
  have hB2 := hB1.trans (hb.mono hB1.size)
  refine hK.out _ _ (fun _ => HXV.out _ hB2) (fun _ => ?_)
  clear hK K' hb hB1
  (try simp only [Act.put, List.setIfInBounds_toArray, List.set_cons_zero, List.set_cons_succ])
  refine G_step (i := 6) (o := { dst := some 28, op := Op.call { callee := Callee.value (Operand.func 15), args := #[Operand.const (Value.int IntKind.i64 11), Operand.tmp 27], argTypes := #[3, 24] }, type := 24, pos := _, after := #[{ on := 5, ground := Ground.data }, { on := 5, ground := Ground.chain }, { on := 2, ground := Ground.guard }], guard := some (2, false) }) (by kernel_rfl) rfl (fun K' hK => ?_)
  go_simp
  go_at_call 15
  refine (A3.out 4 11 q2 a6 c6 hk6).mono ?_
  rintro e q3 ⟨a7, c7, rfl, hk7, hb⟩
  dsimp only
  have hB3 := hB2.trans (hb.mono hB2.size)
  refine hK.out _ _ (fun _ => HXV.out _ hB3) (fun _ => ?_)
  clear hK K' hb hB2 hk6
  (try simp only [Act.put, List.setIfInBounds_toArray, List.set_cons_zero, List.set_cons_succ])
  refine G_step (i := 7) (o := { dst := some 29, op := Op.call { callee := Callee.value (Operand.func 17), args := #[Operand.tmp 25, Operand.tmp 28], argTypes := #[24, 24] }, type := 4, pos := _, after := #[{ on := 3, ground := Ground.data }, { on := 6, ground := Ground.data }, { on := 6, ground := Ground.chain }, { on := 2, ground := Ground.guard }], guard := some (2, false) }) (by kernel_rfl) rfl (fun K' hK => ?_)
  go_simp
  go_at_call 17
  refine (A5.out q3 a4 a7 c4 c7 (HKV.out q3 hB3) hk7).mono ?_
  rintro e q4 ⟨rfl, hb⟩
  dsimp only
  have hB4 := hB3.trans (hb.mono hB3.size)
  refine hK.out _ _ (fun _ => HXV.out _ hB4) (fun _ => ?_)
  clear hK K' hb hB3 hk7
  (try simp only [Act.put, List.setIfInBounds_toArray, List.set_cons_zero, List.set_cons_succ])
  refine G_take (i := 8) (oi := { dst := some 30, op := Op.unOp UnOp.not 4 (Operand.tmp 29), type := 4, pos := _, after := #[{ on := 7, ground := Ground.data }, { on := 2, ground := Ground.guard }], guard := some (2, false) }) (v := .bool false) rfl (by kernel_rfl) (by kernel_rfl) (by kernel_rfl) (by kernel_rfl) (fun _ _ _ h => h) (by rfl) (fun u hu => ?_) (HXV.out _ hB4) ?_
  · (try dsimp only at hu); go_simp
  (try simp only [Act.put, List.setIfInBounds_toArray, List.set_cons_zero, List.set_cons_succ])
  refine G_take (i := 9) (oi := { dst := some 31, op := Op.pick (Operand.tmp 24) (Operand.const (Value.bool true)) (Operand.tmp 30), type := 4, pos := _, after := #[{ on := 2, ground := Ground.data }, { on := 8, ground := Ground.data }], guard := none }) (v := .bool false) rfl (by kernel_rfl) (by kernel_rfl) (by kernel_rfl) (by kernel_rfl) (fun _ _ _ h => h) (by rfl) (fun u hu => ?_) (HXV.out _ hB4) ?_
  · (try dsimp only at hu); go_simp
  (try simp only [Act.put, List.setIfInBounds_toArray, List.set_cons_zero, List.set_cons_succ])
  refine G_done (by kernel_rfl) ?_ _
  have HB5 : Hid (Below u.heap.size u q4) := HBV.out.trans (hB4.mono HBV.out.size)
  clear hB4 HXV HKV HBV HV4 HB1 HB2 HB3 HB4 A1 A2 A3 A5
  obtain ⟨⟨f0, f1, f2, g0, g1⟩, hbw⟩ := HX.out q4 HB5.out
  have D := hid (CT.out q4 hbw)
  clear hbw
  go_wp2_with fail
  refine D.out.mono ?_
  rintro e y1 ⟨rfl, hb⟩
  have HB6 : Hid (Below u.heap.size u y1) := HB5.out.trans (hb.mono HB5.out.size)
  clear hb D f0 f1 f2 g0 g1
  have HF := hid ((HX.out y1 HB6.out).2)
  go_wp2
  go_ret
  exact ⟨rfl, HF.out⟩

set_option maxHeartbeats 16000000 in
set_option maxRecDepth 20000 in
theorem means_yes {w : World} {t : Fml} {a : Option Addr} {cap : Nat} {sa : Option Addr} {s sc : Nat} {la : Option Addr} {m lc : Nat} {S L : Nat → Int} (h : Fw w t a sa s sc la m lc S L) (h1 : opA 1 w) (q : (trV t s m S L).2 = true) :
    Calls Tryd.prog 5 #[.agg #[.int .i64 t.kind, .int .i64 t.num, .slice a t.cnt cap], .agg #[.slice sa s sc, .slice la m lc]] w fun e w' => e = .returned (.bool true) ∧ Below w.heap.size w w' := by
  obtain ⟨qc, qw⟩ := trV_ok q
  have hw := (chk_wf t 1 0 qc).1
  obtain ⟨u, hu⟩ : ∃ y, y = (w.alloc (.cells #[.int .i64 t.kind, .int .i64 t.num, .slice a t.cnt cap] 24)).alloc (.cells #[.slice sa s sc, .slice la m lc] 34) := ⟨_, rfl⟩
  have hB : Below w.heap.size w u := by rw [hu]; exact below_alloc2 _ _ _
  have hx : Fx u w.heap.size t a cap sa s sc la m lc := by rw [hu]; exact fx_new _ _ _ _ _ _ _ _ _ _
  have HX : Hid (∀ z, Below u.heap.size u z → Fx z w.heap.size t a cap sa s sc la m lc ∧ Below w.heap.size w z) := fun z hz => ⟨hx.below hz, hB.trans (hz.mono hB.size)⟩
  have A1 : Hid (∀ z, Calls Tryd.prog 16 #[.int .i64 1] z fun e w' => ∃ (a' : Option Addr) (c' : Nat), e = .returned (.agg #[.int .i64 3, .int .i64 1, .slice a' 0 c']) ∧ Below z.heap.size z w') := fun z => (atom_f 1 z).mono fun e w' ⟨a', c', he, _, hb⟩ => ⟨a', c', he, hb⟩
  have A2 : Hid (∀ (k : Int) z (a1 : Option Addr) (c1 : Nat), Calls Tryd.prog 15 #[.int .i64 k, .agg #[.int .i64 3, .int .i64 1, .slice a1 0 c1]] z fun e w' => ∃ (a' : Option Addr) (c' : Nat), e = .returned (.agg #[.int .i64 k, .int .i64 0, .slice a' 1 c']) ∧ Kds w' (on k (nd 3 1)) a' ∧ Below z.heap.size z w') := fun k z a1 c1 => (one_f k (nd 3 1) a1 c1 z (kds_nd _ _ _ _) (Nat.zero_le _)).mono fun e w' ⟨a', c', he, hk, hb⟩ => ⟨a', c', he, hk, hb⟩
  have A3 : Hid (∀ (k l : Int) z (a1 : Option Addr) (c1 : Nat), Kds z (on k (nd 3 1)) a1 → Calls Tryd.prog 15 #[.int .i64 l, .agg #[.int .i64 k, .int .i64 0, .slice a1 1 c1]] z fun e w' => ∃ (a' : Option Addr) (c' : Nat), e = .returned (.agg #[.int .i64 l, .int .i64 0, .slice a' 1 c']) ∧ Kds w' (on l (on k (nd 3 1))) a' ∧ Below z.heap.size z w') := fun k l z a1 c1 hk => (one_f l (on k (nd 3 1)) a1 c1 z hk (show 1 ≤ 9223372036854775807 by decide)).mono fun e w' ⟨a', c', he, hk, hb⟩ => ⟨a', c', he, hk, hb⟩
  have A4 : Hid (∀ z (a1 : Option Addr) (c1 : Nat), Below w.heap.size w z → Kds z yF a1 → Calls Tryd.prog 8 #[.agg #[.int .i64 4, .int .i64 0, .slice a1 1 c1]] z fun e w' => ∃ (a' : Option Addr) (c' : Nat), e = .returned (.tuple #[.agg #[.int .i64 11, .int .i64 0, .slice a' 1 c'], .int .i64 0]) ∧ Kds w' yG a' ∧ Below z.heap.size z w') := fun z a1 c1 hz hk => by
    refine (nots8 (t := yF) a1 c1 z (h.kc.below hz h.kc.pos) (h1.below hz) hk (show 1 ≤ 9223372036854775807 by decide)).mono ?_
    rintro e w' ⟨a', c', he, hk', hb⟩
    rw [yF_cgv] at he hk'
    exact ⟨a', c', he, hk'.out, hb⟩
  have A5 : Hid (∀ z (a1 a2 : Option Addr) (c1 c2 : Nat), Kds z yG a1 → Kds z yG a2 → Calls Tryd.prog 17 #[.agg #[.int .i64 11, .int .i64 0, .slice a1 1 c1], .agg #[.int .i64 11, .int .i64 0, .slice a2 1 c2]] z fun e w' => e = .returned (.bool true) ∧ Below z.heap.size z w') := fun z a1 a2 c1 c2 hk1 hk2 => by
    have := same17 yG yG a1 a2 c1 c2 z hk1 hk2 (show 1 ≤ 9223372036854775807 by decide) (show 1 ≤ 9223372036854775807 by decide)
    rw [same_self] at this
    exact this
  have HU := hid hu
  obtain ⟨x, hx1⟩ : ∃ y, y = (trV t s m S L).1 := ⟨_, rfl⟩
  have CT : Hid (∀ z, Below w.heap.size w z → Calls Tryd.prog 18 #[.agg #[.int .i64 t.kind, .int .i64 t.num, .slice a t.cnt cap], .agg #[.slice sa s sc, .slice la m lc]] z fun e w' => e = .returned (.tuple #[.bool x, .bool true]) ∧ Below z.heap.size z w') := fun z hz => by
    have := truth_any (cap := cap) (h.below hz)
    rw [q, ← hx1] at this
    exact this
  obtain ⟨g8, hg8⟩ : ∃ y, y = (cg2 (nt t false)).1 := ⟨_, rfl⟩
  obtain ⟨r8, hr8⟩ : ∃ y, y = (cg2 (nt t false)).2 := ⟨_, rfl⟩
  have C8 : Hid (∀ z, Below w.heap.size w z → Calls Tryd.prog 8 #[.agg #[.int .i64 t.kind, .int .i64 t.num, .slice a t.cnt cap]] z fun e w' => ∃ (a' : Option Addr) (c' : Nat), e = .returned (.tuple #[.agg #[.int .i64 g8.kind, .int .i64 g8.num, .slice a' g8.cnt c'], .int .i64 r8]) ∧ Kds w' g8 a' ∧ Below z.heap.size z w') := fun z hz => by
    refine (nots8 a cap z (h.kc.below hz h.kc.pos) (h1.below hz) (h.kds.below hz) h.cnt).mono ?_
    rintro e w' ⟨a', c', he, hk', hb⟩
    rw [cgv_cg2 qc] at he hk'
    rw [hg8, hr8]
    exact ⟨a', c', he, hk'.out, hb⟩
  have T8 : Hid (r8 = 0 → ∀ z (aF : Option Addr) (cF : Nat), Below w.heap.size w z → Kds z g8 aF → Calls Tryd.prog 18 #[.agg #[.int .i64 g8.kind, .int .i64 g8.num, .slice aF g8.cnt cF], .agg #[.slice sa s sc, .slice la m lc]] z fun e w' => e = .returned (.tuple #[.bool x, .bool true]) ∧ Below z.heap.size z w') := fun hr0 z aF cF hz hkF => by
    have hcF : (chk (nt t false) 1 0).1 = 0 := by
      by_cases e : (chk (nt t false) 1 0).1 = 0
      · exact e
      · rw [hr8, cg2, if_neg e] at hr0
        exact absurd hr0 e
    have eg : g8 = nt t false := by rw [hg8, cg2, if_pos hcF]
    rw [eg] at hkF ⊢
    have h2 := trV_yes (S := S) (L := L) hcF qw
    have := truth_any (cap := cF) (show Fw z (nt t false) aF sa s sc la m lc S L from ⟨h.kc.below hz h.kc.pos, hkF, wf_big ((nt_shape t hw false).1), h.wd.below hz, h.sn, h.ln⟩)
    rw [h2, ← tr_same (t := t) (fun A => ((nt_hold t hw 0).1).symm) q h2, ← hx1] at this
    exact this
  clear hg8 hr8
  obtain ⟨g9, hg9⟩ : ∃ y, y = (cg2 (pn t)).1 := ⟨_, rfl⟩
  obtain ⟨r9, hr9⟩ : ∃ y, y = (cg2 (pn t)).2 := ⟨_, rfl⟩
  have C9 : Hid (∀ z, Below w.heap.size w z → Calls Tryd.prog 9 #[.agg #[.int .i64 t.kind, .int .i64 t.num, .slice a t.cnt cap]] z fun e w' => ∃ (a' : Option Addr) (c' : Nat), e = .returned (.tuple #[.agg #[.int .i64 g9.kind, .int .i64 g9.num, .slice a' g9.cnt c'], .int .i64 r9]) ∧ Kds w' g9 a' ∧ Below z.heap.size z w') := fun z hz => by
    refine (plain9 a cap z (h.kc.below hz h.kc.pos) (h.kds.below hz) h.cnt).mono ?_
    rintro e w' ⟨a', c', he, hk', hb⟩
    rw [cgv_cg2 qc] at he hk'
    rw [hg9, hr9]
    exact ⟨a', c', he, hk'.out, hb⟩
  have T9 : Hid (r9 = 0 → ∀ z (aF : Option Addr) (cF : Nat), Below w.heap.size w z → Kds z g9 aF → Calls Tryd.prog 18 #[.agg #[.int .i64 g9.kind, .int .i64 g9.num, .slice aF g9.cnt cF], .agg #[.slice sa s sc, .slice la m lc]] z fun e w' => e = .returned (.tuple #[.bool x, .bool true]) ∧ Below z.heap.size z w') := fun hr0 z aF cF hz hkF => by
    have hcF : (chk (pn t) 1 0).1 = 0 := by
      by_cases e : (chk (pn t) 1 0).1 = 0
      · exact e
      · rw [hr9, cg2, if_neg e] at hr0
        exact absurd hr0 e
    have eg : g9 = pn t := by rw [hg9, cg2, if_pos hcF]
    rw [eg] at hkF ⊢
    have h2 := trV_yes (S := S) (L := L) hcF qw
    have := truth_any (cap := cF) (show Fw z (pn t) aF sa s sc la m lc S L from ⟨h.kc.below hz h.kc.pos, hkF, wf_big (pn_wf t hw), h.wd.below hz, h.sn, h.ln⟩)
    rw [h2, ← tr_same (t := t) (fun A => (pn_hold t hw 0).symm) q h2, ← hx1] at this
    exact this
  clear hg9 hr9
  obtain ⟨g13, hg13⟩ : ∃ y, y = (cg2 (sl t)).1 := ⟨_, rfl⟩
  obtain ⟨r13, hr13⟩ : ∃ y, y = (cg2 (sl t)).2 := ⟨_, rfl⟩
  have C13 : Hid (∀ z, Below w.heap.size w z → Calls Tryd.prog 13 #[.agg #[.int .i64 t.kind, .int .i64 t.num, .slice a t.cnt cap]] z fun e w' => ∃ (a' : Option Addr) (c' : Nat), e = .returned (.tuple #[.agg #[.int .i64 g13.kind, .int .i64 g13.num, .slice a' g13.cnt c'], .int .i64 r13]) ∧ Kds w' g13 a' ∧ Below z.heap.size z w') := fun z hz => by
    refine (slim13 a cap z (h.kc.below hz h.kc.pos) (h1.below hz) (h.kds.below hz) h.cnt).mono ?_
    rintro e w' ⟨a', c', he, hk', hb⟩
    rw [cgv_cg2 qc] at he hk'
    rw [hg13, hr13]
    exact ⟨a', c', he, hk'.out, hb⟩
  have T13 : Hid (r13 = 0 → ∀ z (aF : Option Addr) (cF : Nat), Below w.heap.size w z → Kds z g13 aF → Calls Tryd.prog 18 #[.agg #[.int .i64 g13.kind, .int .i64 g13.num, .slice aF g13.cnt cF], .agg #[.slice sa s sc, .slice la m lc]] z fun e w' => e = .returned (.tuple #[.bool x, .bool true]) ∧ Below z.heap.size z w') := fun hr0 z aF cF hz hkF => by
    have hcF : (chk (sl t) 1 0).1 = 0 := by
      by_cases e : (chk (sl t) 1 0).1 = 0
      · exact e
      · rw [hr13, cg2, if_neg e] at hr0
        exact absurd hr0 e
    have eg : g13 = sl t := by rw [hg13, cg2, if_pos hcF]
    rw [eg] at hkF ⊢
    have h2 := trV_yes (S := S) (L := L) hcF qw
    have := truth_any (cap := cF) (show Fw z (sl t) aF sa s sc la m lc S L from ⟨h.kc.below hz h.kc.pos, hkF, wf_big ((sl_right t hw).1), h.wd.below hz, h.sn, h.ln⟩)
    rw [h2, ← tr_same (t := t) (fun A => ((sl_right t hw).2.1 _ 0).symm) q h2, ← hx1] at this
    exact this
  clear hg13 hr13
  clear hu hB hx h h1 q qc qw hw hx1
  go_enter Tryd.func5, Tryd.ntmps5
  have B1 := hid (A1.out u)
  go_wp2_with fail
  rw [← HU.out]
  refine B1.out.mono ?_
  rintro e p1 ⟨a1, c1, rfl, hb1⟩
  have HB1 : Hid (Below u.heap.size u p1) := hb1
  have B2 := hid (A2.out 10 p1 a1 c1)
  clear hb1 B1 HU
  go_wp2_with fail
  refine B2.out.mono ?_
  rintro e p2 ⟨a2, c2, rfl, hk2, hb2⟩
  have HB2 : Hid (Below u.heap.size u p2) := HB1.out.trans (hb2.mono HB1.out.size)
  have B3 := hid (A3.out 10 4 p2 a2 c2 hk2)
  clear hk2 hb2 B2
  go_wp2_with fail
  refine B3.out.mono ?_
  rintro e p3 ⟨a3, c3, rfl, hk3, hb3⟩
  have HB3 : Hid (Below u.heap.size u p3) := HB2.out.trans (hb3.mono HB2.out.size)
  have B4 := hid (A4.out p3 a3 c3 (HX.out p3 HB3.out).2 hk3)
  clear hk3 hb3 B3 A4
  go_wp2_with fail
  refine B4.out.mono ?_
  rintro e p4 ⟨a4, c4, rfl, hk4, hb4⟩
  have HB4 : Hid (Below u.heap.size u p4) := HB3.out.trans (hb4.mono HB3.out.size)
  obtain ⟨v4, hv4⟩ : ∃ y, y = p4.alloc (.cells #[.int .i64 11, .int .i64 0, .slice a4 1 c4] 24) := ⟨_, rfl⟩
  have hbv : Below p4.heap.size p4 v4 := by rw [hv4]; exact box_below _ _
  have HXV : Hid (∀ y, Below v4.heap.size v4 y → y.cell? ⟨p4.heap.size, 0, none⟩ = some (.int .i64 11) ∧ y.cell? ⟨p4.heap.size, 1, none⟩ = some (.int .i64 0) ∧ y.cell? ⟨p4.heap.size, 2, none⟩ = some (.slice a4 1 c4)) := fun y hy => (tri_cells (Tri.below (show Tri v4 p4.heap.size (.int .i64 11) (.int .i64 0) (.slice a4 1 c4) by rw [hv4]; exact tri_new _ _ _ _) hy)).1
  have HKV : Hid (∀ y, Below v4.heap.size v4 y → Kds y yG a4) := fun y hy => (hk4.below hbv).below hy
  have HBV : Hid (Below u.heap.size u v4) := HB4.out.trans (hbv.mono HB4.out.size)
  have HV4 := hid hv4
  clear hb4 hk4 hbv hv4 B4
  go_wp2
  rw [← HV4.out]
  have hB0 : Below v4.heap.size v4 v4.drew := below_drewN (Below.refl _ _) 1
  refine G_region (fun y => y.cell? ⟨p4.heap.size, 0, none⟩ = some (.int .i64 11) ∧ y.cell? ⟨p4.heap.size, 1, none⟩ = some (.int .i64 0) ∧ y.cell? ⟨p4.heap.size, 2, none⟩ = some (.slice a4 1 c4)) (fun _ => false) (by kernel_rfl) (HXV.out _ hB0) (fun _ => ?_)
  refine G_take (i := 0) (oi := { dst := some 22, op := Op.move (Operand.tmp 6), type := 25, pos := _, after := #[], guard := none }) (v := .int .i64 0) rfl (by kernel_rfl) (by kernel_rfl) (by kernel_rfl) (by kernel_rfl) (fun _ _ _ h => h) (by rfl) (fun u hu => ?_) (HXV.out _ hB0) ?_
  · (try dsimp only at hu); go_simp
  (try simp only [Act.put, List.setIfInBounds_toArray, List.set_cons_zero, List.set_cons_succ])
  refine G_take (i := 1) (oi := { dst := some 23, op := Op.binOp BinOp.neq 25 (Operand.tmp 22) (Operand.const (Value.int IntKind.i64 0)) 25, type := 4, pos := _, after := #[{ on := 0, ground := Ground.data }], guard := none }) (v := .bool false) rfl (by kernel_rfl) (by kernel_rfl) (by kernel_rfl) (by kernel_rfl) (fun _ _ _ h => h) (by rfl) (fun u hu => ?_) (HXV.out _ hB0) ?_
  · (try dsimp only at hu); go_simp
  (try simp only [Act.put, List.setIfInBounds_toArray, List.set_cons_zero, List.set_cons_succ])
  refine G_take (i := 2) (oi := { dst := some 24, op := Op.move (Operand.tmp 23), type := 4, pos := _, after := #[{ on := 1, ground := Ground.data }], guard := none }) (v := .bool false) rfl (by kernel_rfl) (by kernel_rfl) (by kernel_rfl) (by kernel_rfl) (fun _ _ _ h => h) (by rfl) (fun u hu => ?_) (HXV.out _ hB0) ?_
  · (try dsimp only at hu); go_simp
  (try simp only [Act.put, List.setIfInBounds_toArray, List.set_cons_zero, List.set_cons_succ])
  refine G_take (i := 3) (oi := { dst := some 25, op := Op.load 24 (Operand.tmp 5), type := 24, pos := _, after := #[{ on := 2, ground := Ground.guard }], guard := some (2, false) }) (v := .agg #[.int .i64 11, .int .i64 0, .slice a4 1 c4]) rfl (by kernel_rfl) (by kernel_rfl) (by kernel_rfl) (by kernel_rfl) (fun _ _ _ h => h) (by rfl) (fun u hu => ?_) (HXV.out _ hB0) ?_
  · (try dsimp only at hu); go_simp
  (try simp only [Act.put, List.setIfInBounds_toArray, List.set_cons_zero, List.set_cons_succ])
  obtain ⟨q0, hq0⟩ : ∃ y, y = v4.drew := ⟨_, rfl⟩
  rw [← hq0] at hB0 ⊢
  clear hq0
  refine G_step (i := 4) (o := { dst := some 26, op := Op.call { callee := Callee.value (Operand.func 16), args := #[Operand.const (Value.int IntKind.i64 1)], argTypes := #[3] }, type := 24, pos := _, after := #[{ on := 2, ground := Ground.chain }, { on := 2, ground := Ground.guard }], guard := some (2, false) }) (by kernel_rfl) rfl (fun K' hK => ?_)
  go_simp
  go_at_call 16
  refine (A1.out q0).mono ?_
  rintro e q1 ⟨a5, c5, rfl, hb⟩
  dsimp only
  have hB1 := hB0.trans (hb.mono hB0.size)
  refine hK.out _ _ (fun _ => HXV.out _ hB1) (fun _ => ?_)
  clear hK K' hb hB0
  (try simp only [Act.put, List.setIfInBounds_toArray, List.set_cons_zero, List.set_cons_succ])
  refine G_step (i := 5) (o := { dst := some 27, op := Op.call { callee := Callee.value (Operand.func 15), args := #[Operand.const (Value.int IntKind.i64 4), Operand.tmp 26], argTypes := #[3, 24] }, type := 24, pos := _, after := #[{ on := 4, ground := Ground.data }, { on := 4, ground := Ground.chain }, { on := 2, ground := Ground.guard }], guard := some (2, false) }) (by kernel_rfl) rfl (fun K' hK => ?_)
  go_simp
  go_at_call 15
  refine (A2.out 4 q1 a5 c5).mono ?_
  rintro e q2 ⟨a6, c6, rfl, hk6, hb⟩
  dsimp only
  have hB2 := hB1.trans (hb.mono hB1.size)
  refine hK.out _ _ (fun _ => HXV.out _ hB2) (fun _ => ?_)
  clear hK K' hb hB1
  (try simp only [Act.put, List.setIfInBounds_toArray, List.set_cons_zero, List.set_cons_succ])
  refine G_step (i := 6) (o := { dst := some 28, op := Op.call { callee := Callee.value (Operand.func 15), args := #[Operand.const (Value.int IntKind.i64 11), Operand.tmp 27], argTypes := #[3, 24] }, type := 24, pos := _, after := #[{ on := 5, ground := Ground.data }, { on := 5, ground := Ground.chain }, { on := 2, ground := Ground.guard }], guard := some (2, false) }) (by kernel_rfl) rfl (fun K' hK => ?_)
  go_simp
  go_at_call 15
  refine (A3.out 4 11 q2 a6 c6 hk6).mono ?_
  rintro e q3 ⟨a7, c7, rfl, hk7, hb⟩
  dsimp only
  have hB3 := hB2.trans (hb.mono hB2.size)
  refine hK.out _ _ (fun _ => HXV.out _ hB3) (fun _ => ?_)
  clear hK K' hb hB2 hk6
  (try simp only [Act.put, List.setIfInBounds_toArray, List.set_cons_zero, List.set_cons_succ])
  refine G_step (i := 7) (o := { dst := some 29, op := Op.call { callee := Callee.value (Operand.func 17), args := #[Operand.tmp 25, Operand.tmp 28], argTypes := #[24, 24] }, type := 4, pos := _, after := #[{ on := 3, ground := Ground.data }, { on := 6, ground := Ground.data }, { on := 6, ground := Ground.chain }, { on := 2, ground := Ground.guard }], guard := some (2, false) }) (by kernel_rfl) rfl (fun K' hK => ?_)
  go_simp
  go_at_call 17
  refine (A5.out q3 a4 a7 c4 c7 (HKV.out q3 hB3) hk7).mono ?_
  rintro e q4 ⟨rfl, hb⟩
  dsimp only
  have hB4 := hB3.trans (hb.mono hB3.size)
  refine hK.out _ _ (fun _ => HXV.out _ hB4) (fun _ => ?_)
  clear hK K' hb hB3 hk7
  (try simp only [Act.put, List.setIfInBounds_toArray, List.set_cons_zero, List.set_cons_succ])
  refine G_take (i := 8) (oi := { dst := some 30, op := Op.unOp UnOp.not 4 (Operand.tmp 29), type := 4, pos := _, after := #[{ on := 7, ground := Ground.data }, { on := 2, ground := Ground.guard }], guard := some (2, false) }) (v := .bool false) rfl (by kernel_rfl) (by kernel_rfl) (by kernel_rfl) (by kernel_rfl) (fun _ _ _ h => h) (by rfl) (fun u hu => ?_) (HXV.out _ hB4) ?_
  · (try dsimp only at hu); go_simp
  (try simp only [Act.put, List.setIfInBounds_toArray, List.set_cons_zero, List.set_cons_succ])
  refine G_take (i := 9) (oi := { dst := some 31, op := Op.pick (Operand.tmp 24) (Operand.const (Value.bool true)) (Operand.tmp 30), type := 4, pos := _, after := #[{ on := 2, ground := Ground.data }, { on := 8, ground := Ground.data }], guard := none }) (v := .bool false) rfl (by kernel_rfl) (by kernel_rfl) (by kernel_rfl) (by kernel_rfl) (fun _ _ _ h => h) (by rfl) (fun u hu => ?_) (HXV.out _ hB4) ?_
  · (try dsimp only at hu); go_simp
  (try simp only [Act.put, List.setIfInBounds_toArray, List.set_cons_zero, List.set_cons_succ])
  refine G_done (by kernel_rfl) ?_ _
  have HB5 : Hid (Below u.heap.size u q4) := HBV.out.trans (hB4.mono HBV.out.size)
  clear hB4 HXV HKV HBV HV4 HB1 HB2 HB3 HB4 A1 A2 A3 A5
  obtain ⟨⟨f0, f1, f2, g0, g1⟩, hbw⟩ := HX.out q4 HB5.out
  have D := hid (CT.out q4 hbw)
  clear hbw
  go_wp2_with fail
  refine D.out.mono ?_
  rintro e y1 ⟨rfl, hb⟩
  have HB6 : Hid (Below u.heap.size u y1) := HB5.out.trans (hb.mono HB5.out.size)
  clear hb D f0 f1 f2 g0 g1
  obtain ⟨fb, hfb⟩ : ∃ y, y = y1.heap.size := ⟨_, rfl⟩
  obtain ⟨v1, hv1⟩ : ∃ y, y = y1.alloc (.cells #[.func (.func 8) #[] #[], .func (.func 9) #[] #[], .func (.func 13) #[] #[]] 28) := ⟨_, rfl⟩
  have hbv1 : Below y1.heap.size y1 v1 := by rw [hv1]; exact box_below _ _
  have hxv1 : v1.heap[fb]? = some (.cells #[.func (.func 8) #[] #[], .func (.func 9) #[] #[], .func (.func 13) #[] #[]] 28) := by rw [hv1, hfb]; exact Go.Deep.blk_alloc_new _ _
  have HS : Hid (Below u.heap.size u v1 ∧ v1.cell? ⟨fb, 0, none⟩ = some (.func (.func 8) #[] #[]) ∧ v1.cell? ⟨fb, 1, none⟩ = some (.func (.func 9) #[] #[]) ∧ v1.cell? ⟨fb, 2, none⟩ = some (.func (.func 13) #[] #[])) := ⟨HB6.out.trans (hbv1.mono HB6.out.size), cell_of_cells hxv1 rfl, cell_of_cells hxv1 rfl, cell_of_cells hxv1 rfl⟩
  have HV1 := hid hv1
  have HFB := hid hfb
  clear hv1 hbv1 hxv1 hfb HB5
  go_wp2
  rw [← HV1.out, ← HFB.out]
  clear HV1 HFB HB6
  go_loopw [42] (fun i wr => ∃ j : Nat, j ≤ 3 ∧ i = .int .i64 j ∧ Hid (Below u.heap.size u wr ∧ wr.cell? ⟨fb, 0, none⟩ = some (.func (.func 8) #[] #[]) ∧ wr.cell? ⟨fb, 1, none⟩ = some (.func (.func 9) #[] #[]) ∧ wr.cell? ⟨fb, 2, none⟩ = some (.func (.func 13) #[] #[]))) (fun i _ => 3 - (intOf i).toNat)
  case atStart => exact ⟨0, Nat.zero_le _, rfl, HS⟩
  case round =>
    obtain ⟨j, hj, rfl, HJ⟩ := hrel
    clear HS
    rcases (by omega : j = 0 ∨ j = 1 ∨ j = 2 ∨ j = 3) with rfl | rfl | rfl | rfl
    · clear hj
      obtain ⟨⟨f0, f1, f2, g0, g1⟩, hbw⟩ := HX.out wr HJ.out.1
      obtain ⟨cf0, cf1, cf2⟩ := HJ.out.2
      have D := hid (C8.out wr hbw)
      clear hbw
      go_wp2_with fail
      refine D.out.mono ?_
      rintro e y ⟨ay, cy, rfl, hkg, hb⟩
      obtain ⟨v, hv⟩ : ∃ q, q = y.alloc (.cells #[.int .i64 g8.kind, .int .i64 g8.num, .slice ay g8.cnt cy] 24) := ⟨_, rfl⟩
      have hbv : Below y.heap.size y v := by rw [hv]; exact box_below _ _
      have hbw := hb.trans (hbv.mono hb.size)
      have hT : Tri v y.heap.size (.int .i64 g8.kind) (.int .i64 g8.num) (.slice ay g8.cnt cy) := by rw [hv]; exact tri_new _ _ _ _
      have HV := hid hv
      have HJ2 : Hid (Below u.heap.size u v ∧ v.cell? ⟨fb, 0, none⟩ = some (.func (.func 8) #[] #[]) ∧ v.cell? ⟨fb, 1, none⟩ = some (.func (.func 9) #[] #[]) ∧ v.cell? ⟨fb, 2, none⟩ = some (.func (.func 13) #[] #[])) := ⟨HJ.out.1.trans (hbw.mono HJ.out.1.size), below_cell hbw (Nat.le_refl _) cf0, below_cell hbw (Nat.le_refl _) cf1, below_cell hbw (Nat.le_refl _) cf2⟩
      obtain ⟨m0, m1, m2⟩ := (tri_cells hT).1
      have HKG := hid (hkg.below hbv)
      clear hb hbv hbw hT hv hkg D f0 f1 f2 g0 g1 cf0 cf1 cf2 HJ
      by_cases qq : r8 = 0
      · have rb : (r8 == 0) = true := beq_iff_eq.2 qq
        obtain ⟨⟨f0, f1, f2, g0, g1⟩, hbw⟩ := HX.out v HJ2.out.1
        have D := hid (T8.out qq v ay cy hbw HKG.out)
        rw [HV.out] at f0 f1 f2 g0 g1 m0 m1 m2
        clear qq hbw
        go_wp2_with fail
        rw [← HV.out]
        refine D.out.mono ?_
        rintro e y2 ⟨rfl, hb⟩
        have HJ3 : Hid (Below u.heap.size u y2 ∧ y2.cell? ⟨fb, 0, none⟩ = some (.func (.func 8) #[] #[]) ∧ y2.cell? ⟨fb, 1, none⟩ = some (.func (.func 9) #[] #[]) ∧ y2.cell? ⟨fb, 2, none⟩ = some (.func (.func 13) #[] #[])) := ⟨HJ2.out.1.trans (hb.mono HJ2.out.1.size), below_cell hb (Nat.le_refl _) HJ2.out.2.1, below_cell hb (Nat.le_refl _) HJ2.out.2.2.1, below_cell hb (Nat.le_refl _) HJ2.out.2.2.2⟩
        clear hb D f0 f1 f2 g0 g1 m0 m1 m2 HJ2 HV HKG
        go_wp2
        go_roundw
        case rel => exact ⟨1, by omega, by first | rfl | go_num, HJ3⟩
        case measure => simp [intOf]
      · have rb : (r8 == 0) = false := beq_eq_false_iff_ne.2 qq
        have HJ3 : Hid (Below u.heap.size u v ∧ v.cell? ⟨fb, 0, none⟩ = some (.func (.func 8) #[] #[]) ∧ v.cell? ⟨fb, 1, none⟩ = some (.func (.func 9) #[] #[]) ∧ v.cell? ⟨fb, 2, none⟩ = some (.func (.func 13) #[] #[])) := HJ2
        rw [HV.out] at HJ3
        clear qq HJ2 HV HKG m0 m1 m2
        go_wp2
        go_roundw
        case rel => exact ⟨1, by omega, by first | rfl | go_num, HJ3⟩
        case measure => simp [intOf]
    · clear hj
      obtain ⟨⟨f0, f1, f2, g0, g1⟩, hbw⟩ := HX.out wr HJ.out.1
      obtain ⟨cf0, cf1, cf2⟩ := HJ.out.2
      have D := hid (C9.out wr hbw)
      clear hbw
      go_wp2_with fail
      refine D.out.mono ?_
      rintro e y ⟨ay, cy, rfl, hkg, hb⟩
      obtain ⟨v, hv⟩ : ∃ q, q = y.alloc (.cells #[.int .i64 g9.kind, .int .i64 g9.num, .slice ay g9.cnt cy] 24) := ⟨_, rfl⟩
      have hbv : Below y.heap.size y v := by rw [hv]; exact box_below _ _
      have hbw := hb.trans (hbv.mono hb.size)
      have hT : Tri v y.heap.size (.int .i64 g9.kind) (.int .i64 g9.num) (.slice ay g9.cnt cy) := by rw [hv]; exact tri_new _ _ _ _
      have HV := hid hv
      have HJ2 : Hid (Below u.heap.size u v ∧ v.cell? ⟨fb, 0, none⟩ = some (.func (.func 8) #[] #[]) ∧ v.cell? ⟨fb, 1, none⟩ = some (.func (.func 9) #[] #[]) ∧ v.cell? ⟨fb, 2, none⟩ = some (.func (.func 13) #[] #[])) := ⟨HJ.out.1.trans (hbw.mono HJ.out.1.size), below_cell hbw (Nat.le_refl _) cf0, below_cell hbw (Nat.le_refl _) cf1, below_cell hbw (Nat.le_refl _) cf2⟩
      obtain ⟨m0, m1, m2⟩ := (tri_cells hT).1
      have HKG := hid (hkg.below hbv)
      clear hb hbv hbw hT hv hkg D f0 f1 f2 g0 g1 cf0 cf1 cf2 HJ
      by_cases qq : r9 = 0
      · have rb : (r9 == 0) = true := beq_iff_eq.2 qq
        obtain ⟨⟨f0, f1, f2, g0, g1⟩, hbw⟩ := HX.out v HJ2.out.1
        have D := hid (T9.out qq v ay cy hbw HKG.out)
        rw [HV.out] at f0 f1 f2 g0 g1 m0 m1 m2
        clear qq hbw
        go_wp2_with fail
        rw [← HV.out]
        refine D.out.mono ?_
        rintro e y2 ⟨rfl, hb⟩
        have HJ3 : Hid (Below u.heap.size u y2 ∧ y2.cell? ⟨fb, 0, none⟩ = some (.func (.func 8) #[] #[]) ∧ y2.cell? ⟨fb, 1, none⟩ = some (.func (.func 9) #[] #[]) ∧ y2.cell? ⟨fb, 2, none⟩ = some (.func (.func 13) #[] #[])) := ⟨HJ2.out.1.trans (hb.mono HJ2.out.1.size), below_cell hb (Nat.le_refl _) HJ2.out.2.1, below_cell hb (Nat.le_refl _) HJ2.out.2.2.1, below_cell hb (Nat.le_refl _) HJ2.out.2.2.2⟩
        clear hb D f0 f1 f2 g0 g1 m0 m1 m2 HJ2 HV HKG
        go_wp2
        go_roundw
        case rel => exact ⟨2, by omega, by first | rfl | go_num, HJ3⟩
        case measure => simp [intOf]
      · have rb : (r9 == 0) = false := beq_eq_false_iff_ne.2 qq
        have HJ3 : Hid (Below u.heap.size u v ∧ v.cell? ⟨fb, 0, none⟩ = some (.func (.func 8) #[] #[]) ∧ v.cell? ⟨fb, 1, none⟩ = some (.func (.func 9) #[] #[]) ∧ v.cell? ⟨fb, 2, none⟩ = some (.func (.func 13) #[] #[])) := HJ2
        rw [HV.out] at HJ3
        clear qq HJ2 HV HKG m0 m1 m2
        go_wp2
        go_roundw
        case rel => exact ⟨2, by omega, by first | rfl | go_num, HJ3⟩
        case measure => simp [intOf]
    · clear hj
      obtain ⟨⟨f0, f1, f2, g0, g1⟩, hbw⟩ := HX.out wr HJ.out.1
      obtain ⟨cf0, cf1, cf2⟩ := HJ.out.2
      have D := hid (C13.out wr hbw)
      clear hbw
      go_wp2_with fail
      refine D.out.mono ?_
      rintro e y ⟨ay, cy, rfl, hkg, hb⟩
      obtain ⟨v, hv⟩ : ∃ q, q = y.alloc (.cells #[.int .i64 g13.kind, .int .i64 g13.num, .slice ay g13.cnt cy] 24) := ⟨_, rfl⟩
      have hbv : Below y.heap.size y v := by rw [hv]; exact box_below _ _
      have hbw := hb.trans (hbv.mono hb.size)
      have hT : Tri v y.heap.size (.int .i64 g13.kind) (.int .i64 g13.num) (.slice ay g13.cnt cy) := by rw [hv]; exact tri_new _ _ _ _
      have HV := hid hv
      have HJ2 : Hid (Below u.heap.size u v ∧ v.cell? ⟨fb, 0, none⟩ = some (.func (.func 8) #[] #[]) ∧ v.cell? ⟨fb, 1, none⟩ = some (.func (.func 9) #[] #[]) ∧ v.cell? ⟨fb, 2, none⟩ = some (.func (.func 13) #[] #[])) := ⟨HJ.out.1.trans (hbw.mono HJ.out.1.size), below_cell hbw (Nat.le_refl _) cf0, below_cell hbw (Nat.le_refl _) cf1, below_cell hbw (Nat.le_refl _) cf2⟩
      obtain ⟨m0, m1, m2⟩ := (tri_cells hT).1
      have HKG := hid (hkg.below hbv)
      clear hb hbv hbw hT hv hkg D f0 f1 f2 g0 g1 cf0 cf1 cf2 HJ
      by_cases qq : r13 = 0
      · have rb : (r13 == 0) = true := beq_iff_eq.2 qq
        obtain ⟨⟨f0, f1, f2, g0, g1⟩, hbw⟩ := HX.out v HJ2.out.1
        have D := hid (T13.out qq v ay cy hbw HKG.out)
        rw [HV.out] at f0 f1 f2 g0 g1 m0 m1 m2
        clear qq hbw
        go_wp2_with fail
        rw [← HV.out]
        refine D.out.mono ?_
        rintro e y2 ⟨rfl, hb⟩
        have HJ3 : Hid (Below u.heap.size u y2 ∧ y2.cell? ⟨fb, 0, none⟩ = some (.func (.func 8) #[] #[]) ∧ y2.cell? ⟨fb, 1, none⟩ = some (.func (.func 9) #[] #[]) ∧ y2.cell? ⟨fb, 2, none⟩ = some (.func (.func 13) #[] #[])) := ⟨HJ2.out.1.trans (hb.mono HJ2.out.1.size), below_cell hb (Nat.le_refl _) HJ2.out.2.1, below_cell hb (Nat.le_refl _) HJ2.out.2.2.1, below_cell hb (Nat.le_refl _) HJ2.out.2.2.2⟩
        clear hb D f0 f1 f2 g0 g1 m0 m1 m2 HJ2 HV HKG
        go_wp2
        go_roundw
        case rel => exact ⟨3, by omega, by first | rfl | go_num, HJ3⟩
        case measure => simp [intOf]
      · have rb : (r13 == 0) = false := beq_eq_false_iff_ne.2 qq
        have HJ3 : Hid (Below u.heap.size u v ∧ v.cell? ⟨fb, 0, none⟩ = some (.func (.func 8) #[] #[]) ∧ v.cell? ⟨fb, 1, none⟩ = some (.func (.func 9) #[] #[]) ∧ v.cell? ⟨fb, 2, none⟩ = some (.func (.func 13) #[] #[])) := HJ2
        rw [HV.out] at HJ3
        clear qq HJ2 HV HKG m0 m1 m2
        go_wp2
        go_roundw
        case rel => exact ⟨3, by omega, by first | rfl | go_num, HJ3⟩
        case measure => simp [intOf]
    · have HF := hid ((HX.out wr HJ.out.1).2)
      go_wp2
      go_ret
      exact ⟨rfl, HF.out⟩

theorem pushMeans_walk {w : World} {t : Fml} {a : Option Addr} {cap : Nat} {sa : Option Addr} {s sc : Nat} {la : Option Addr} {m lc : Nat} {S L : Nat → Int} (h : Fw w t a sa s sc la m lc S L) (h1 : opA 1 w) :
    Calls Tryd.prog 5 #[.agg #[.int .i64 t.kind, .int .i64 t.num, .slice a t.cnt cap], .agg #[.slice sa s sc, .slice la m lc]] w fun e w' => e = .returned (.bool true) ∧ Below w.heap.size w w' := by
  cases q : (trV t s m S L).2
  · exact means_no h h1 q
  · exact means_yes h h1 q

end Go.Proofs.YtinacgkiigbmjaaDoor
