/- The document's Slim, given what slimmer answers. -/
import Derived.Test.YtinacgkiigbmjaaDoorChg
namespace Go.Proofs.YtinacgkiigbmjaaDoor
open Go.RowKit

/-- The list as the Kids of a node; the variable's block itself is none of theirs. -/
theorem Gk.done2 {w : World} {gb j : Nat} {r : Nat → Fml} {v : Value} (h : Gk w gb gb j r v) (hr : ∀ i, i < j → (r i).cnt ≤ 9223372036854775807) : ∃ a c, v = .slice a j c ∧ ∀ k n, Kn (gb + 1) w (mkn k n j r) a := by
  obtain ⟨A, C, h1, h2⟩ := h.list
  have hk : ∀ i, i < j → Kds (lim (fun k => decide (gb + 1 ≤ k)) w) (r i) (A i) := fun i hi => kl_keep (h2 i hi) (fun k h3 _ => ⟨by
    obtain ⟨h4, h5, _⟩ := of_decide_eq_true h3
    exact decide_eq_true (by omega), rfl⟩)
  rcases h1.2 with ⟨rfl, rfl⟩ | ⟨g, cap, cur, rfl, hg, hb, _⟩
  · exact ⟨none, 0, rfl, fun k n => Kds.mk ⟨0, 0, fun hh => absurd hh (Nat.lt_irrefl 0), fun i hi => absurd hi (Nat.not_lt_zero i)⟩⟩
  · refine ⟨some ⟨g, 0, none⟩, cap, rfl, fun k n => Kds.mk ⟨g, 0, fun _ => rfl, fun i hi => ?_⟩⟩
    have hi' : i < j := hi
    rw [mkn_kid hi']
    obtain ⟨e1, e2, e3⟩ := kvs_at r A C i j hi'
    have c1 := h1.cells (g := g) rfl _ _ e1
    have c2 := h1.cells (g := g) rfl _ _ e2
    have c3 := h1.cells (g := g) rfl _ _ e3
    rw [addr_none] at c1 c2 c3
    have hgB : decide (gb + 1 ≤ g) = true := decide_eq_true hg
    exact ⟨A i, C i, lim_in hgB c1, lim_in hgB (by rw [Nat.add_assoc]; exact c2), lim_in hgB (by rw [Nat.add_assoc]; exact c3), hr i hi', hk i hi'⟩

/-- What slimmer answers of right parts. -/
def Slr : Prop := ∀ (f : Fml) (p : Nat → Bool) (a : Option Addr) (cap : Nat) (w : World), Wf f → Kq p w f a → Calls Tryd.prog 34 #[.agg #[.int .i64 f.kind, .int .i64 f.num, .slice a f.cnt cap]] w fun e w' => Nq p w (slm f) e w'

set_option maxHeartbeats 4000000 in
theorem refSlim_of (hSlr : Slr) : ∀ t, Wf t → ∀ (a : Option Addr) (cap : Nat) (w : World), Kds w t a → Calls Tryd.prog 14 #[.agg #[.int .i64 t.kind, .int .i64 t.num, .slice a t.cnt cap]] w fun e w' => Nk w.heap.size w (sl t) e w' := by
  intro t
  induction t using Fml.ind with
  | h t ih =>
  intro hw a cap w hk
  have hI : ∀ i, i < t.cnt → Wf (sl (t.kid i)) := fun i hi => (sl_right _ (hw.out.2 i hi)).1
  have hf := fit_parts hw.out.1
  obtain ⟨r, hr⟩ : ∃ r : Nat → Fml, r = fun i => sl (t.kid i) := ⟨_, rfl⟩
  rw [sl_eq, ← hr]
  have HWM : Hid (Wf (mkn t.kind t.num t.cnt r)) := by rw [hr]; exact hid (wf_mkn hf.1 hf.2 (fun h => wf_num hw h) (fun i hi => hI i hi))
  have HSLR := hid hSlr
  obtain ⟨i0, hi, hz0, hz1, hz2⟩ := info_parts Tryd.info24
  have HI : Hid (Tryd.prog.info? 24 = some i0 ∧ i0.zero = some (.agg #[.int .i64 0, .int .i64 0, .slice none 0 0]) ∧ i0.size = 3 ∧ i0.bytes = 40) := ⟨hi, hz0, hz1, hz2⟩
  obtain ⟨b, o, ha, hkid⟩ := hk.out
  have HA := hid ha
  have HK : Hid (KidsAt w b o t.cnt t.kid) := hkid
  have HF : Hid (∀ i, i < t.cnt → ∀ (ai : Option Addr) (ci : Nat) (z : World), Below w.heap.size w z → Kds z (t.kid i) ai → Calls Tryd.prog 14 #[.agg #[.int .i64 (t.kid i).kind, .int .i64 (t.kid i).num, .slice ai (t.kid i).cnt ci]] z fun e w' => Nk z.heap.size z (r i) e w') := fun i hi ai ci z _ hkz => by rw [hr]; exact ih i hi (hw.out.2 i hi) ai ci z hkz
  have HR : Hid (∀ i, i < t.cnt → (r i).cnt ≤ 9223372036854775807) := fun i hi => by rw [hr]; exact wf_big (hI i hi)
  have hc2 := wf_cnt hw
  obtain ⟨u, hu⟩ : ∃ y, y = (w.alloc (.cells #[.int .i64 t.kind, .int .i64 t.num, .slice a t.cnt cap] 24)).alloc (.cells #[.int .i64 0, .int .i64 0, .slice none 0 0] 24) := ⟨_, rfl⟩
  obtain ⟨hs, hB, hT1, hT2⟩ := two_new w _ _ _ _ hu
  have C := hid (leaf_g t.kind t.num u)
  have HU := hid hu
  have HX : Hid (u.heap.size = w.heap.size + 1 + 1 ∧ Below w.heap.size w u ∧ Tri u w.heap.size (.int .i64 t.kind) (.int .i64 t.num) (.slice a t.cnt cap) ∧ Tri u (w.heap.size + 1) (.int .i64 0) (.int .i64 0) (.slice none 0 0)) := ⟨hs, hB, hT1, hT2⟩
  clear hu hs hB hT1 hT2 ih hw hk ha hkid hI hf hi hz0 hz1 hz2 hSlr hr
  generalize t.kid = kid at *
  generalize t.kind = k at *
  generalize t.num = n at *
  generalize t.cnt = c at *
  go_enter Tryd.func14, Tryd.ntmps14
  go_wp2_with fail
  rw [← HU.out]
  refine C.out.mono ?_
  rintro e wl ⟨rfl, hbl⟩
  obtain ⟨U1, hU1⟩ : ∃ y, y = wl.alloc (.cells #[.int .i64 k, .int .i64 n, .slice none 0 0] 24) := ⟨_, rfl⟩
  have hb1 : Below wl.heap.size wl U1 := by rw [hU1]; exact box_below _ _
  have hx1 : Tri U1 wl.heap.size (.int .i64 k) (.int .i64 n) (.slice none 0 0) := by rw [hU1]; exact tri_new _ _ _ _
  have hbu1 := hbl.trans (hb1.mono hbl.size)
  have HSB : Hid (w.heap.size < wl.heap.size) := by have h1 := hbl.size; have h2 := HX.out.1; exact hid (by omega)
  have HRB : Hid (w.heap.size + 1 < wl.heap.size) := by have h1 := hbl.size; have h2 := HX.out.1; exact hid (by omega)
  have HWG : Hid (w.heap.size ≤ wl.heap.size) := by have h1 := hbl.size; have h2 := HX.out.1; exact hid (by omega)
  have HS : Hid (Below w.heap.size w U1 ∧ Tri U1 w.heap.size (.int .i64 k) (.int .i64 n) (.slice a c cap) ∧ Tri U1 (w.heap.size + 1) (.int .i64 0) (.int .i64 0) (.slice none 0 0) ∧ Tri U1 wl.heap.size (.int .i64 k) (.int .i64 n) (.slice none 0 0) ∧ Gk U1 wl.heap.size wl.heap.size 0 r (.slice none 0 0)) := ⟨HX.out.2.1.trans (hbu1.mono HX.out.2.1.size), HX.out.2.2.1.below hbu1, HX.out.2.2.2.below hbu1, hx1, Gk.start r (Nat.le_refl _) hx1.lt⟩
  have HU1 := hid hU1
  clear hU1 hb1 hx1 hbu1 hbl C HU
  go_wp2
  rw [← HU1.out]
  clear HU1
  go_loopw [4] (fun i wr => ∃ j : Nat, j ≤ c ∧ i = .int .i64 j ∧ ∃ v, Hid (Below w.heap.size w wr ∧ Tri wr w.heap.size (.int .i64 k) (.int .i64 n) (.slice a c cap) ∧ Tri wr (w.heap.size + 1) (.int .i64 0) (.int .i64 0) (.slice none 0 0) ∧ Tri wr wl.heap.size (.int .i64 k) (.int .i64 n) v ∧ Gk wr wl.heap.size wl.heap.size j r v)) (fun i _ => c - (intOf i).toNat)
  case atStart => exact ⟨0, Nat.zero_le _, rfl, _, HS⟩
  case round =>
    obtain ⟨j, hj, rfl, v, HJ⟩ := hrel
    clear HS
    obtain ⟨-, -, sv⟩ := (tri_cells HJ.out.2.1).1
    by_cases hlt : j < c
    · obtain rfl := HA.out (by omega)
      obtain ⟨ai, ci, p1, p2, p3, p4, p5⟩ := HK.out j hlt
      have y1 := below_cell HJ.out.1 (Nat.le_refl _) p1
      have y2 := below_cell HJ.out.1 (Nat.le_refl _) p2
      have y3 := below_cell HJ.out.1 (Nat.le_refl _) p3
      have hjz : (j : Int) < c := by omega
      have HB1 : Hid (b ≤ wl.heap.size) := by have h1 : b < w.heap.size := World.block_lt_of_cell? _ _ p1; have := HWG.out; exact hid (by omega)
      obtain ⟨kk, hkk⟩ : ∃ y, y = kid j := ⟨_, rfl⟩
      rw [← hkk] at y1 y2 y3 p4
      obtain ⟨rr, hrr⟩ : ∃ y, y = r j := ⟨_, rfl⟩
      have HRR := hid hrr
      have C : Hid (∀ z : World, Below w.heap.size w z → Calls Tryd.prog 14 #[.agg #[.int .i64 kk.kind, .int .i64 kk.num, .slice ai kk.cnt ci]] z fun e w' => Nk z.heap.size z rr e w') := fun z hz => by
        have := HF.out j hlt ai ci z hz (p5.below hz)
        rw [← hkk, ← hrr] at this
        exact this
      obtain ⟨-, -, kv⟩ := (tri_cells HJ.out.2.2.2.1).1
      clear hkk hrr p1 p2 p3 p4 p5
      go_wp2
      refine G_region (fun z => z.cell? ⟨wl.heap.size, 2, none⟩ = some v ∧ z.cell? ⟨w.heap.size, 2, none⟩ = some (.slice (some ⟨b, o, none⟩) c cap) ∧ z.cell? ⟨b, o + j * 3, none⟩ = some (.int .i64 kk.kind) ∧ z.cell? ⟨b, o + j * 3 + 1, none⟩ = some (.int .i64 kk.num) ∧ z.cell? ⟨b, o + j * 3 + 2, none⟩ = some (.slice ai kk.cnt ci)) (fun j => j == 11) (by kernel_rfl) ⟨kv, sv, y1, y2, y3⟩ (fun hHeld => ?_)
      refine G_take (i := 0) (oi := { dst := some 17, op := Op.fieldAddr 24 (Operand.tmp 3) 2, type := 0, pos := _, after := #[], guard := none }) (v := .pointer (some ⟨wl.heap.size, 2, none⟩)) rfl (by kernel_rfl) (by kernel_rfl) (by kernel_rfl) (by kernel_rfl) (fun _ _ _ h => h) (by rfl) (fun u hu => ?_) hHeld ?_
      · (try dsimp only at hu); go_simp
      (try simp only [Act.put, List.setIfInBounds_toArray, List.set_cons_zero, List.set_cons_succ])
      refine G_take (i := 1) (oi := { dst := some 18, op := Op.load 22 (Operand.tmp 17), type := 22, pos := _, after := #[{ on := 0, ground := Ground.data }], guard := none }) (v := v) rfl (by kernel_rfl) (by kernel_rfl) (by kernel_rfl) (by kernel_rfl) (fun _ _ _ h => h) (by rfl) (fun u hu => ?_) hHeld ?_
      · (try dsimp only at hu); go_simp
      (try simp only [Act.put, List.setIfInBounds_toArray, List.set_cons_zero, List.set_cons_succ])
      refine G_take (i := 2) (oi := { dst := some 19, op := Op.fieldAddr 24 (Operand.tmp 1) 2, type := 0, pos := _, after := #[], guard := none }) (v := .pointer (some ⟨w.heap.size, 2, none⟩)) rfl (by kernel_rfl) (by kernel_rfl) (by kernel_rfl) (by kernel_rfl) (fun _ _ _ h => h) (by rfl) (fun u hu => ?_) hHeld ?_
      · (try dsimp only at hu); go_simp
      (try simp only [Act.put, List.setIfInBounds_toArray, List.set_cons_zero, List.set_cons_succ])
      refine G_take (i := 3) (oi := { dst := some 20, op := Op.load 22 (Operand.tmp 19), type := 22, pos := _, after := #[{ on := 2, ground := Ground.data }], guard := none }) (v := .slice (some ⟨b, o, none⟩) c cap) rfl (by kernel_rfl) (by kernel_rfl) (by kernel_rfl) (by kernel_rfl) (fun _ _ _ h => h) (by rfl) (fun u hu => ?_) hHeld ?_
      · (try dsimp only at hu); go_simp
      (try simp only [Act.put, List.setIfInBounds_toArray, List.set_cons_zero, List.set_cons_succ])
      refine G_take (i := 4) (oi := { dst := some 21, op := Op.move (Operand.tmp 4), type := 3, pos := _, after := #[], guard := none }) (v := .int .i64 j) rfl (by kernel_rfl) (by kernel_rfl) (by kernel_rfl) (by kernel_rfl) (fun _ _ _ h => h) (by rfl) (fun u hu => ?_) hHeld ?_
      · (try dsimp only at hu); go_simp
      (try simp only [Act.put, List.setIfInBounds_toArray, List.set_cons_zero, List.set_cons_succ])
      refine G_take (i := 5) (oi := { dst := some 22, op := Op.indexAddr 22 (Operand.tmp 20) (Operand.tmp 21), type := 0, pos := _, after := #[{ on := 3, ground := Ground.data }, { on := 4, ground := Ground.data }], guard := none }) (v := .pointer (some ⟨b, o + j * 3, none⟩)) rfl (by kernel_rfl) (by kernel_rfl) (by kernel_rfl) (by kernel_rfl) (fun _ _ _ h => h) (by rfl) (fun u hu => ?_) hHeld ?_
      · (try dsimp only at hu); go_simp
      (try simp only [Act.put, List.setIfInBounds_toArray, List.set_cons_zero, List.set_cons_succ])
      refine G_take (i := 6) (oi := { dst := some 23, op := Op.load 24 (Operand.tmp 22), type := 24, pos := _, after := #[{ on := 5, ground := Ground.data }], guard := none }) (v := .agg #[.int .i64 kk.kind, .int .i64 kk.num, .slice ai kk.cnt ci]) rfl (by kernel_rfl) (by kernel_rfl) (by kernel_rfl) (by kernel_rfl) (fun _ _ _ h => h) (by rfl) (fun u hu => ?_) hHeld ?_
      · (try dsimp only at hu); go_simp
      (try simp only [Act.put, List.setIfInBounds_toArray, List.set_cons_zero, List.set_cons_succ])
      refine G_step (i := 7) (o := { dst := some 24, op := Op.call { callee := Callee.value (Operand.func 14), args := #[Operand.tmp 23], argTypes := #[24] }, type := 24, pos := _, after := #[{ on := 6, ground := Ground.data }], guard := none }) (by kernel_rfl) rfl (fun K' hK => ?_)
      go_simp
      go_at_call 14
      refine (C.out _ (below_drewN HJ.out.1 1)).mono ?_
      rintro e w2 ⟨a3, c3, rfl, hk3, hb3⟩
      dsimp only
      have hv4 := below_of_drew hb3
      have hk3' : Kn wr.heap.size w2 rr a3 := hk3
      have akv := below_cell hv4 (Nat.le_refl _) kv
      have asv := below_cell hv4 (Nat.le_refl _) sv
      have ay1 := below_cell hv4 (Nat.le_refl _) y1
      have ay2 := below_cell hv4 (Nat.le_refl _) y2
      have ay3 := below_cell hv4 (Nat.le_refl _) y3
      refine hK.out _ _ (fun _ => ?_) (fun hS2 => ?_)
      · exact ⟨akv, asv, ay1, ay2, ay3⟩
      have hHeld2 := hS2 rfl
      clear hK K' hS2 hHeld
      (try simp only [Act.put, List.setIfInBounds_toArray, List.set_cons_zero, List.set_cons_succ])
      have H2 : Hid (Below w.heap.size w w2 ∧ Tri w2 w.heap.size (.int .i64 k) (.int .i64 n) (.slice (some ⟨b, o, none⟩) c cap) ∧ Tri w2 (w.heap.size + 1) (.int .i64 0) (.int .i64 0) (.slice none 0 0) ∧ Tri w2 wl.heap.size (.int .i64 k) (.int .i64 n) v ∧ Gk w2 wl.heap.size wl.heap.size j r v ∧ Kn wr.heap.size w2 rr a3 ∧ (∀ g, v.ownBlock = some g → g < wr.heap.size) ∧ wl.heap.size < wr.heap.size) :=
        ⟨HJ.out.1.trans (hv4.mono HJ.out.1.size), HJ.out.2.1.below hv4, HJ.out.2.2.1.below hv4, HJ.out.2.2.2.1.below hv4, HJ.out.2.2.2.2.below hv4, hk3', fun g hg => (HJ.out.2.2.2.2.own g hg).2, HJ.out.2.2.2.2.lt⟩
      clear hk3 hk3' hb3 hv4 C
      refine G_step (i := 8) (o := { dst := some 25, op := Op.buildSlice 22 1 #[(0, Operand.tmp 24)], type := 22, pos := _, after := #[{ on := 7, ground := Ground.data }], guard := none }) (by kernel_rfl) rfl (fun K' hK => ?_)
      go_simp
      obtain ⟨U, hU⟩ : ∃ y, y = w2.alloc (.cells #[.int .i64 rr.kind, .int .i64 rr.num, .slice a3 rr.cnt c3] 24) := ⟨_, rfl⟩
      have hBU : Below w2.heap.size w2 U := by rw [hU]; exact box_below _ _
      have hUb : U.heap[w2.heap.size]? = some (.cells #[.int .i64 rr.kind, .int .i64 rr.num, .slice a3 rr.cnt c3] 24) := by rw [hU]; exact Go.Deep.blk_alloc_new _ _
      have HUs : Hid (U.heap.size = w2.heap.size + 1) := by rw [hU]; exact hid (by simp)
      rw [← hU]
      clear hU
      have bkv := below_cell hBU (Nat.le_refl _) akv
      have bsv := below_cell hBU (Nat.le_refl _) asv
      have by1 := below_cell hBU (Nat.le_refl _) ay1
      have by2 := below_cell hBU (Nat.le_refl _) ay2
      have by3 := below_cell hBU (Nat.le_refl _) ay3
      refine hK.out _ _ (fun _ => ?_) (fun hS2 => ?_)
      · exact ⟨bkv, bsv, by1, by2, by3⟩
      have hHeld3 := hS2 rfl
      clear hK K' hS2 hHeld2
      (try simp only [Act.put, List.setIfInBounds_toArray, List.set_cons_zero, List.set_cons_succ])
      have HGU : Hid (Gk U wl.heap.size wl.heap.size j r v ∧ Below w.heap.size w U ∧ Tri U w.heap.size (.int .i64 k) (.int .i64 n) (.slice (some ⟨b, o, none⟩) c cap) ∧ Tri U (w.heap.size + 1) (.int .i64 0) (.int .i64 0) (.slice none 0 0) ∧ Tri U wl.heap.size (.int .i64 k) (.int .i64 n) v ∧ Kn wr.heap.size U rr a3) := ⟨H2.out.2.2.2.2.1.below hBU, H2.out.1.trans (hBU.mono H2.out.1.size), H2.out.2.1.below hBU, H2.out.2.2.1.below hBU, H2.out.2.2.2.1.below hBU, H2.out.2.2.2.2.2.1.below hBU⟩
      obtain ⟨A, C, hown0, hA0⟩ := HGU.out.1.list
      have HO : Hid (U.ownsRow (wl.heap.size + 1) 24 3 v j (kvs r A C j) ∧ ∀ i, i < j → Kds (lim (okB wl.heap.size wl.heap.size v) U) (r i) (A i)) := ⟨hown0, hA0⟩
      have HKS : Hid (wl.heap.size + 1 ≤ U.heap.size) := HGU.out.1.lt
      have hj2 : j ≤ 2 := by omega
      clear hown0 hA0
      refine G_step (i := 9) (o := { dst := some 26, op := Op.call { callee := Callee.builtin Builtin.append, args := #[Operand.tmp 18, Operand.tmp 25], argTypes := #[22, 22] }, type := 22, pos := _, after := #[{ on := 1, ground := Ground.data }, { on := 8, ground := Ground.data }, { on := 7, ground := Ground.chain }], guard := none }) (by kernel_rfl) rfl (fun K' hK => ?_)
      refine step_append_lies _ (by rfl) _ _ _ (by rfl) (wl.heap.size + 1) 24 i0 _ 3 40 Tryd.underlying22 HI.out.1 HI.out.2.1 HI.out.2.2.1 HI.out.2.2.2 rfl (by omega) v j (kvs r A C j) (by rfl) HO.out.1 ⟨w2.heap.size, 0, none⟩ 1 1 [.int .i64 rr.kind, .int .i64 rr.num, .slice a3 rr.cnt c3] (by rfl) (by rfl) (World.news_of_block (cs := #[.int .i64 rr.kind, .int .i64 rr.num, .slice a3 rr.cnt c3]) (t := 24) (fr := (0, 0)) hUb) (trip_one _ _ _ _ _) (by omega) (by unfold maxLen; omega) (by omega) HKS.out (w2.heap.size + 1) HUs.out ?_
      intro gg gc w4 hown hgrow hat _
      have ckv := HGU.out.1.keep hgrow (Nat.le_refl _) bkv
      have csv := HGU.out.1.keep hgrow (Nat.le_of_lt HSB.out) bsv
      have cy1 := HGU.out.1.keep hgrow HB1.out by1
      have cy2 := HGU.out.1.keep hgrow HB1.out by2
      have cy3 := HGU.out.1.keep hgrow HB1.out by3
      have ct4 : Tri w4 wl.heap.size (.int .i64 k) (.int .i64 n) v := (HGU.out.1.keepb hgrow (Nat.le_refl _)).trans HGU.out.2.2.2.2.1
      obtain ⟨-, -, -, cfz⟩ := tri_cells ct4
      have cr4 : Tri w4 (w.heap.size + 1) (.int .i64 0) (.int .i64 0) (.slice none 0 0) := (HGU.out.1.keepb hgrow (Nat.le_of_lt HRB.out)).trans HGU.out.2.2.2.1
      have cs4 : Tri w4 w.heap.size (.int .i64 k) (.int .i64 n) (.slice (some ⟨b, o, none⟩) c cap) := (HGU.out.1.keepb hgrow (Nat.le_of_lt HSB.out)).trans HGU.out.2.2.1
      have H4 : Hid (Below w.heap.size w (w4.setCell ⟨wl.heap.size, 2, none⟩ (.slice (some ⟨gg, 0, none⟩) (j + 1) gc)) ∧ Tri (w4.setCell ⟨wl.heap.size, 2, none⟩ (.slice (some ⟨gg, 0, none⟩) (j + 1) gc)) w.heap.size (.int .i64 k) (.int .i64 n) (.slice (some ⟨b, o, none⟩) c cap) ∧ Tri (w4.setCell ⟨wl.heap.size, 2, none⟩ (.slice (some ⟨gg, 0, none⟩) (j + 1) gc)) (w.heap.size + 1) (.int .i64 0) (.int .i64 0) (.slice none 0 0) ∧ Tri (w4.setCell ⟨wl.heap.size, 2, none⟩ (.slice (some ⟨gg, 0, none⟩) (j + 1) gc)) wl.heap.size (.int .i64 k) (.int .i64 n) (.slice (some ⟨gg, 0, none⟩) (j + 1) gc) ∧ Gk (w4.setCell ⟨wl.heap.size, 2, none⟩ (.slice (some ⟨gg, 0, none⟩) (j + 1) gc)) wl.heap.size wl.heap.size (j + 1) r (.slice (some ⟨gg, 0, none⟩) (j + 1) gc)) := by
        have hrr := HRR.out
        rw [hrr] at hown
        have hkn := HGU.out.2.2.2.2.2
        rw [hrr] at hkn
        have hsb := HSB.out
        have hrb := HRB.out
        have hwg := HWG.out
        refine ⟨(HGU.out.2.1.trans ((HGU.out.1.low hgrow).mono (by omega))).setCell (show w.heap.size ≤ wl.heap.size by omega) _, (Go.Deep.blk_setCell_other _ _ _ _ (by show w.heap.size ≠ wl.heap.size; omega)).trans cs4, (Go.Deep.blk_setCell_other _ _ _ _ (by show w.heap.size + 1 ≠ wl.heap.size; omega)).trans cr4, tri_set2 ct4 _, ?_⟩
        exact (Gk.step HGU.out.1 HO.out.2 hkn H2.out.2.2.2.2.2.2.2 H2.out.2.2.2.2.2.2.1 hgrow (by rw [HUs.out]; exact hat) hown).set 2 _
      refine hK.out _ _ (fun _ => ?_) (fun hS2 => ?_)
      · exact ⟨ckv, csv, cy1, cy2, cy3⟩
      have hHeld4 := hS2 rfl
      clear hK K' hS2 hHeld3
      (try simp only [Act.put, List.setIfInBounds_toArray, List.set_cons_zero, List.set_cons_succ])
      refine G_take (i := 10) (oi := { dst := some 27, op := Op.fieldAddr 24 (Operand.tmp 3) 2, type := 0, pos := _, after := #[{ on := 0, ground := Ground.phase }, { on := 1, ground := Ground.phase }, { on := 2, ground := Ground.phase }, { on := 3, ground := Ground.phase }, { on := 4, ground := Ground.phase }, { on := 5, ground := Ground.phase }, { on := 6, ground := Ground.phase }, { on := 7, ground := Ground.phase }, { on := 8, ground := Ground.phase }, { on := 9, ground := Ground.phase }], guard := none }) (v := .pointer (some ⟨wl.heap.size, 2, none⟩)) rfl (by kernel_rfl) (by kernel_rfl) (by kernel_rfl) (by kernel_rfl) (fun _ _ _ h => h) (by rfl) (fun u hu => ?_) hHeld4 ?_
      · (try dsimp only at hu); go_simp
      (try simp only [Act.put, List.setIfInBounds_toArray, List.set_cons_zero, List.set_cons_succ])
      refine G_step (i := 11) (o := { dst := none, op := Op.store 22 (Operand.tmp 27) (Operand.tmp 26), type := 0, pos := _, after := #[{ on := 10, ground := Ground.data }, { on := 9, ground := Ground.data }, { on := 9, ground := Ground.chain }, { on := 0, ground := Ground.phase }, { on := 1, ground := Ground.phase }, { on := 2, ground := Ground.phase }, { on := 3, ground := Ground.phase }, { on := 4, ground := Ground.phase }, { on := 5, ground := Ground.phase }, { on := 6, ground := Ground.phase }, { on := 7, ground := Ground.phase }, { on := 8, ground := Ground.phase }, { on := 9, ground := Ground.phase }], guard := none }) (by kernel_rfl) rfl (fun K' hK => ?_)
      go_simp
      refine hK.out _ _ (fun h => absurd h (by decide)) (fun _ => ?_)
      clear hK K' hHeld4
      (try simp only [Act.put, List.setIfInBounds_toArray, List.set_cons_zero, List.set_cons_succ])
      refine G_done (by kernel_rfl) ?_ _
      clear H2 HGU HO HKS hBU hUb HUs hown hgrow hat akv asv ay1 ay2 ay3 bkv bsv by1 by2 by3 ckv csv cy1 cy2 cy3 cfz ct4 cr4 cs4 kv sv y1 y2 y3 HJ HRR HB1
      go_wp2
      go_roundw
      case rel => exact ⟨j + 1, by omega, by go_num, _, H4⟩
      case measure => simp [intOf]; omega
    · obtain rfl : c = j := by omega
      obtain ⟨ka, kc, rfl, hKn⟩ := HJ.out.2.2.2.2.done2 HR.out
      obtain ⟨⟨f0, f1, f2⟩, -⟩ := tri_cells HJ.out.2.2.2.1
      have C := hid (HSLR.out (mkn k n c r) (fun x => decide (wl.heap.size + 1 ≤ x)) ka kc wr HWM.out (hKn k n))
      have HT := hid HJ.out.2.2.1
      have HB := hid HJ.out.1
      have HG := hid HJ.out.2.2.2.2.lt
      have ek : (mkn k n c r).kind = k := rfl
      have en : (mkn k n c r).num = n := rfl
      have ec : (mkn k n c r).cnt = c := rfl
      rw [ek, en, ec] at C
      obtain ⟨g, hg⟩ : ∃ y, y = slm (mkn k n c r) := ⟨_, rfl⟩
      rw [← hg] at C
      have HGq := hid hg
      clear hg
      clear hKn HJ ek en ec
      go_wp2_with fail
      refine C.out.mono ?_
      rintro e w4 ⟨a4, c4, rfl, hk4, hb4⟩
      have hT4 := HT.out.below hb4
      have hk4' : Kn (wl.heap.size + 1) w4 g a4 := kl_keep hk4 (fun x h1 _ => ⟨by
        have hsz := HG.out
        simp only [nw, Bool.or_eq_true, decide_eq_true_eq] at h1 ⊢
        omega, rfl⟩)
      have H4 : Hid (Kn (wl.heap.size + 1) w4 g a4 ∧ Below w.heap.size w w4 ∧ Tri w4 (w.heap.size + 1) (.int .i64 0) (.int .i64 0) (.slice none 0 0)) := ⟨hk4', HB.out.trans (hb4.mono HB.out.size), hT4⟩
      obtain ⟨⟨r0, r1, r2⟩, z0, z1, z2⟩ := tri_cells hT4
      have hlt2 := hT4.lt
      clear hk4 hb4 hT4 hk4' C f0 f1 f2 sv
      go_wp2
      (try simp only [Exit.inBlock, Exit.then])
      refine bodyPost_ret (results_cell_row rfl _ _ (w.heap.size + 1) 24 #[.int .i64 g.kind, .int .i64 g.num, .slice a4 g.cnt c4] (0, 0) _ rfl (tri_set H4.out.2.2 _ _ _) Tryd.underlying24 rfl (by kernel_rfl)) rfl ?_
      rw [← HGq.out]
      have hwg := HWG.out
      have hrb := HRB.out
      exact ⟨a4, c4, rfl, kn_tri H4.out.1 (by omega) (by omega) _ _ _, below_tri H4.out.2.1 (by omega) _ _ _⟩

end Go.Proofs.YtinacgkiigbmjaaDoor
