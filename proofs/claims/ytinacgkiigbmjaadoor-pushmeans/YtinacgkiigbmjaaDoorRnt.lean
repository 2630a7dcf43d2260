/- The document's Nots. -/
import Derived.Test.YtinacgkiigbmjaaDoorRsl
namespace Go.Proofs.YtinacgkiigbmjaaDoor
open Go.RowKit

/-- What the document's Nots answers of a formula. -/
def Rn (t : Fml) : Prop := ∀ (a : Option Addr) (cap : Nat) (w : World), opA 0 w → Kds w t a → Calls Tryd.prog 11 #[.agg #[.int .i64 t.kind, .int .i64 t.num, .slice a t.cnt cap]] w fun e w' => Nk w.heap.size w (nt t false) e w'

theorem nt_on4 {t : Fml} (hw : Wf t) : nt (on 4 t) false = nt t true := by
  rw [nt_wfeq (wf_on (by omega) hw)]
  unfold ntF
  have e : (on 4 t).kind = 4 := rfl
  rw [if_pos e]
  show nt ((on 4 t).kid 0) true = _
  rw [on_kid]

set_option maxHeartbeats 4000000 in
theorem rn_other {t : Fml} (hw : Wf t) (h4 : t.kind ≠ 4) (ih : ∀ i, i < t.cnt → Rn (t.kid i)) : ∀ (a : Option Addr) (cap : Nat) (w : World), opA 0 w → Kds w t a → Calls Tryd.prog 11 #[.agg #[.int .i64 t.kind, .int .i64 t.num, .slice a t.cnt cap]] w fun e w' => Nk w.heap.size w (mkn t.kind t.num t.cnt (fun i => nt (t.kid i) false)) e w' := by
  intro a cap w ho hk
  obtain ⟨r, hr⟩ : ∃ r : Nat → Fml, r = fun i => nt (t.kid i) false := ⟨_, rfl⟩
  rw [← hr]
  obtain ⟨i0, hi, hz0, hz1, hz2⟩ := info_parts Tryd.info24
  have HI : Hid (Tryd.prog.info? 24 = some i0 ∧ i0.zero = some (.agg #[.int .i64 0, .int .i64 0, .slice none 0 0]) ∧ i0.size = 3 ∧ i0.bytes = 40) := ⟨hi, hz0, hz1, hz2⟩
  obtain ⟨b, o, ha, hkid⟩ := hk.out
  have HA := hid ha
  have HK : Hid (KidsAt w b o t.cnt t.kid) := hkid
  have HF : Hid (∀ i, i < t.cnt → ∀ (ai : Option Addr) (ci : Nat) (z : World), Below w.heap.size w z → Kds z (t.kid i) ai → Calls Tryd.prog 11 #[.agg #[.int .i64 (t.kid i).kind, .int .i64 (t.kid i).num, .slice ai (t.kid i).cnt ci]] z fun e w' => Nk z.heap.size z (r i) e w') := fun i hi ai ci z hz hkz => by rw [hr]; exact ih i hi ai ci z (ho.below hz) hkz
  have HR : Hid (∀ i, i < t.cnt → (r i).cnt ≤ 9223372036854775807) := fun i hi => by rw [hr]; exact wf_big (nt_shape _ (hw.out.2 i hi) false).1
  have hc2 := wf_cnt hw
  obtain ⟨u, hu⟩ : ∃ y, y = (w.alloc (.cells #[.int .i64 t.kind, .int .i64 t.num, .slice a t.cnt cap] 24)).alloc (.cells #[.int .i64 0, .int .i64 0, .slice none 0 0] 24) := ⟨_, rfl⟩
  obtain ⟨hs, hB, hT1, hT2⟩ := two_new w _ _ _ _ hu
  have C := hid (leaf_g t.kind t.num u)
  have HU := hid hu
  have h4b : (t.kind != 4) = true := by rw [bne_iff_ne]; exact h4
  have HX : Hid (u.heap.size = w.heap.size + 1 + 1 ∧ Below w.heap.size w u ∧ Tri u w.heap.size (.int .i64 t.kind) (.int .i64 t.num) (.slice a t.cnt cap) ∧ Tri u (w.heap.size + 1) (.int .i64 0) (.int .i64 0) (.slice none 0 0) ∧ True) := ⟨hs, hB, hT1, hT2, trivial⟩
  clear hu hs hB hT1 hT2 ih hw hk ha hkid hi hz0 hz1 hz2 hr ho h4
  generalize t.kid = kid at *
  generalize t.kind = k at *
  generalize t.num = n at *
  generalize t.cnt = c at *
  go_enter Tryd.func11, Tryd.ntmps11
  go_wp2_with fail
  rw [← HU.out]
  refine C.out.mono ?_
  rintro e wl ⟨rfl, hbl⟩
  obtain ⟨U1, hU1⟩ : ∃ y, y = wl.alloc (.cells #[.int .i64 k, .int .i64 n, .slice none 0 0] 24) := ⟨_, rfl⟩
  have hb1 : Below wl.heap.size wl U1 := by rw [hU1]; exact box_below _ _
  have hx1 : Tri U1 wl.heap.size (.int .i64 k) (.int .i64 n) (.slice none 0 0) := by rw [hU1]; exact tri_new _ _ _ _
  have hbu1 := hbl.trans (hb1.mono hbl.size)
  have HSB : Hid (w.heap.size < wl.heap.size) := by have h1 := hbl.size; have h2 := HX.out.1; exact hid (by omega)
  have HRB : Hid (w.heap.size + 1 < wl.heap.size) := by have h1 := hbl.size; have h2 := HX.out.1; exact hid (by omega)
  have HWG : Hid (w.heap.size ≤ wl.heap.size) := by have h1 := hbl.size; have h2 := HX.out.1; exact hid (by omega)
  have HS : Hid (Below w.heap.size w U1 ∧ Tri U1 w.heap.size (.int .i64 k) (.int .i64 n) (.slice a c cap) ∧ Tri U1 (w.heap.size + 1) (.int .i64 0) (.int .i64 0) (.slice none 0 0) ∧ Tri U1 wl.heap.size (.int .i64 k) (.int .i64 n) (.slice none 0 0) ∧ Gk U1 wl.heap.size wl.heap.size 0 r (.slice none 0 0)) := ⟨HX.out.2.1.trans (hbu1.mono HX.out.2.1.size), HX.out.2.2.1.below hbu1, HX.out.2.2.2.1.below hbu1, hx1, Gk.start r (Nat.le_refl _) hx1.lt⟩
  have HU1 := hid hU1
  clear hU1 hb1 hx1 hbu1 hbl C HU
  go_wp2
  rw [← HU1.out]
  clear HU1
  go_loopw [4] (fun i wr => ∃ j : Nat, j ≤ c ∧ i = .int .i64 j ∧ ∃ v, Hid (Below w.heap.size w wr ∧ Tri wr w.heap.size (.int .i64 k) (.int .i64 n) (.slice a c cap) ∧ Tri wr (w.heap.size + 1) (.int .i64 0) (.int .i64 0) (.slice none 0 0) ∧ Tri wr wl.heap.size (.int .i64 k) (.int .i64 n) v ∧ Gk wr wl.heap.size wl.heap.size j r v)) (fun i _ => c - (intOf i).toNat)
  case atStart => exact ⟨0, Nat.zero_le _, rfl, _, HS⟩
  case round =>
    obtain ⟨j, hj, rfl, v, HJ⟩ := hrel
    clear HS
    obtain ⟨-, -, sv⟩ := (tri_cells HJ.out.2.1).1
    by_cases hlt : j < c
    · obtain rfl := HA.out (by omega)
      obtain ⟨ai, ci, p1, p2, p3, p4, p5⟩ := HK.out j hlt
      have y1 := below_cell HJ.out.1 (Nat.le_refl _) p1
      have y2 := below_cell HJ.out.1 (Nat.le_refl _) p2
      have y3 := below_cell HJ.out.1 (Nat.le_refl _) p3
      have hjz : (j : Int) < c := by omega
      have HB1 : Hid (b ≤ wl.heap.size) := by have h1 : b < w.heap.size := World.block_lt_of_cell? _ _ p1; have := HWG.out; exact hid (by omega)
      obtain ⟨kk, hkk⟩ : ∃ y, y = kid j := ⟨_, rfl⟩
      rw [← hkk] at y1 y2 y3 p4
      obtain ⟨rr, hrr⟩ : ∃ y, y = r j := ⟨_, rfl⟩
      have HRR := hid hrr
      have C : Hid (∀ z : World, Below w.heap.size w z → Calls Tryd.prog 11 #[.agg #[.int .i64 kk.kind, .int .i64 kk.num, .slice ai kk.cnt ci]] z fun e w' => Nk z.heap.size z rr e w') := fun z hz => by
        have := HF.out j hlt ai ci z hz (p5.below hz)
        rw [← hkk, ← hrr] at this
        exact this
      obtain ⟨-, -, kv⟩ := (tri_cells HJ.out.2.2.2.1).1
      clear hkk hrr p1 p2 p3 p4 p5
      go_wp2
      refine G_region (fun z => z.cell? ⟨wl.heap.size, 2, none⟩ = some v ∧ z.cell? ⟨w.heap.size, 2, none⟩ = some (.slice (some ⟨b, o, none⟩) c cap) ∧ z.cell? ⟨b, o + j * 3, none⟩ = some (.int .i64 kk.kind) ∧ z.cell? ⟨b, o + j * 3 + 1, none⟩ = some (.int .i64 kk.num) ∧ z.cell? ⟨b, o + j * 3 + 2, none⟩ = some (.slice ai kk.cnt ci)) (fun j => j == 11) (by kernel_rfl) ⟨kv, sv, y1, y2, y3⟩ (fun hHeld => ?_)
      refine G_take (i := 0) (oi := { dst := some 23, op := Op.fieldAddr 24 (Operand.tmp 3) 2, type := 0, pos := _, after := #[], guard := none }) (v := .pointer (some ⟨wl.heap.size, 2, none⟩)) rfl (by kernel_rfl) (by kernel_rfl) (by kernel_rfl) (by kernel_rfl) (fun _ _ _ h => h) (by rfl) (fun u hu => ?_) hHeld ?_
      · (try dsimp only at hu); go_simp
      (try simp only [Act.put, List.setIfInBounds_toArray, List.set_cons_zero, List.set_cons_succ])
      refine G_take (i := 1) (oi := { dst := some 24, op := Op.load 22 (Operand.tmp 23), type := 22, pos := _, after := #[{ on := 0, ground := Ground.data }], guard := none }) (v := v) rfl (by kernel_rfl) (by kernel_rfl) (by kernel_rfl) (by kernel_rfl) (fun _ _ _ h => h) (by rfl) (fun u hu => ?_) hHeld ?_
      · (try dsimp only at hu); go_simp
      (try simp only [Act.put, List.setIfInBounds_toArray, List.set_cons_zero, List.set_cons_succ])
      refine G_take (i := 2) (oi := { dst := some 25, op := Op.fieldAddr 24 (Operand.tmp 1) 2, type := 0, pos := _, after := #[], guard := none }) (v := .pointer (some ⟨w.heap.size, 2, none⟩)) rfl (by kernel_rfl) (by kernel_rfl) (by kernel_rfl) (by kernel_rfl) (fun _ _ _ h => h) (by rfl) (fun u hu => ?_) hHeld ?_
      · (try dsimp only at hu); go_simp
      (try simp only [Act.put, List.setIfInBounds_toArray, List.set_cons_zero, List.set_cons_succ])
      refine G_take (i := 3) (oi := { dst := some 26, op := Op.load 22 (Operand.tmp 25), type := 22, pos := _, after := #[{ on := 2, ground := Ground.data }], guard := none }) (v := .slice (some ⟨b, o, none⟩) c cap) rfl (by kernel_rfl) (by kernel_rfl) (by kernel_rfl) (by kernel_rfl) (fun _ _ _ h => h) (by rfl) (fun u hu => ?_) hHeld ?_
      · (try dsimp only at hu); go_simp
      (try simp only [Act.put, List.setIfInBounds_toArray, List.set_cons_zero, List.set_cons_succ])
      refine G_take (i := 4) (oi := { dst := some 27, op := Op.move (Operand.tmp 4), type := 3, pos := _, after := #[], guard := none }) (v := .int .i64 j) rfl (by kernel_rfl) (by kernel_rfl) (by kernel_rfl) (by kernel_rfl) (fun _ _ _ h => h) (by rfl) (fun u hu => ?_) hHeld ?_
      · (try dsimp only at hu); go_simp
      (try simp only [Act.put, List.setIfInBounds_toArray, List.set_cons_zero, List.set_cons_succ])
      refine G_take (i := 5) (oi := { dst := some 28, op := Op.indexAddr 22 (Operand.tmp 26) (Operand.tmp 27), type := 0, pos := _, after := #[{ on := 3, ground := Ground.data }, { on := 4, ground := Ground.data }], guard := none }) (v := .pointer (some ⟨b, o + j * 3, none⟩)) rfl (by kernel_rfl) (by kernel_rfl) (by kernel_rfl) (by kernel_rfl) (fun _ _ _ h => h) (by rfl) (fun u hu => ?_) hHeld ?_
      · (try dsimp only at hu); go_simp
      (try simp only [Act.put, List.setIfInBounds_toArray, List.set_cons_zero, List.set_cons_succ])
      refine G_take (i := 6) (oi := { dst := some 29, op := Op.load 24 (Operand.tmp 28), type := 24, pos := _, after := #[{ on := 5, ground := Ground.data }], guard := none }) (v := .agg #[.int .i64 kk.kind, .int .i64 kk.num, .slice ai kk.cnt ci]) rfl (by kernel_rfl) (by kernel_rfl) (by kernel_rfl) (by kernel_rfl) (fun _ _ _ h => h) (by rfl) (fun u hu => ?_) hHeld ?_
      · (try dsimp only at hu); go_simp
      (try simp only [Act.put, List.setIfInBounds_toArray, List.set_cons_zero, List.set_cons_succ])
      refine G_step (i := 7) (o := { dst := some 30, op := Op.call { callee := Callee.value (Operand.func 11), args := #[Operand.tmp 29], argTypes := #[24] }, type := 24, pos := _, after := #[{ on := 6, ground := Ground.data }], guard := none }) (by kernel_rfl) rfl (fun K' hK => ?_)
      go_simp
      go_at_call 11
      refine (C.out _ (below_drewN HJ.out.1 1)).mono ?_
      rintro e w2 ⟨a3, c3, rfl, hk3, hb3⟩
      dsimp only
      have hv4 := below_of_drew hb3
      have hk3' : Kn wr.heap.size w2 rr a3 := hk3
      have akv := below_cell hv4 (Nat.le_refl _) kv
      have asv := below_cell hv4 (Nat.le_refl _) sv
      have ay1 := below_cell hv4 (Nat.le_refl _) y1
      have ay2 := below_cell hv4 (Nat.le_refl _) y2
      have ay3 := below_cell hv4 (Nat.le_refl _) y3
      refine hK.out _ _ (fun _ => ?_) (fun hS2 => ?_)
      · exact ⟨akv, asv, ay1, ay2, ay3⟩
      have hHeld2 := hS2 rfl
      clear hK K' hS2 hHeld
      (try simp only [Act.put, List.setIfInBounds_toArray, List.set_cons_zero, List.set_cons_succ])
      have H2 : Hid (Below w.heap.size w w2 ∧ Tri w2 w.heap.size (.int .i64 k) (.int .i64 n) (.slice (some ⟨b, o, none⟩) c cap) ∧ Tri w2 (w.heap.size + 1) (.int .i64 0) (.int .i64 0) (.slice none 0 0) ∧ Tri w2 wl.heap.size (.int .i64 k) (.int .i64 n) v ∧ Gk w2 wl.heap.size wl.heap.size j r v ∧ Kn wr.heap.size w2 rr a3 ∧ (∀ g, v.ownBlock = some g → g < wr.heap.size) ∧ wl.heap.size < wr.heap.size) :=
        ⟨HJ.out.1.trans (hv4.mono HJ.out.1.size), HJ.out.2.1.below hv4, HJ.out.2.2.1.below hv4, HJ.out.2.2.2.1.below hv4, HJ.out.2.2.2.2.below hv4, hk3', fun g hg => (HJ.out.2.2.2.2.own g hg).2, HJ.out.2.2.2.2.lt⟩
      clear hk3 hk3' hb3 hv4 C
      refine G_step (i := 8) (o := { dst := some 31, op := Op.buildSlice 22 1 #[(0, Operand.tmp 30)], type := 22, pos := _, after := #[{ on := 7, ground := Ground.data }], guard := none }) (by kernel_rfl) rfl (fun K' hK => ?_)
      go_simp
      obtain ⟨U, hU⟩ : ∃ y, y = w2.alloc (.cells #[.int .i64 rr.kind, .int .i64 rr.num, .slice a3 rr.cnt c3] 24) := ⟨_, rfl⟩
      have hBU : Below w2.heap.size w2 U := by rw [hU]; exact box_below _ _
      have hUb : U.heap[w2.heap.size]? = some (.cells #[.int .i64 rr.kind, .int .i64 rr.num, .slice a3 rr.cnt c3] 24) := by rw [hU]; exact Go.Deep.blk_alloc_new _ _
      have HUs : Hid (U.heap.size = w2.heap.size + 1) := by rw [hU]; exact hid (by simp)
      rw [← hU]
      clear hU
      have bkv := below_cell hBU (Nat.le_refl _) akv
      have bsv := below_cell hBU (Nat.le_refl _) asv
      have by1 := below_cell hBU (Nat.le_refl _) ay1
      have by2 := below_cell hBU (Nat.le_refl _) ay2
      have by3 := below_cell hBU (Nat.le_refl _) ay3
      refine hK.out _ _ (fun _ => ?_) (fun hS2 => ?_)
      · exact ⟨bkv, bsv, by1, by2, by3⟩
      have hHeld3 := hS2 rfl
      clear hK K' hS2 hHeld2
      (try simp only [Act.put, List.setIfInBounds_toArray, List.set_cons_zero, List.set_cons_succ])
      have HGU : Hid (Gk U wl.heap.size wl.heap.size j r v ∧ Below w.heap.size w U ∧ Tri U w.heap.size (.int .i64 k) (.int .i64 n) (.slice (some ⟨b, o, none⟩) c cap) ∧ Tri U (w.heap.size + 1) (.int .i64 0) (.int .i64 0) (.slice none 0 0) ∧ Tri U wl.heap.size (.int .i64 k) (.int .i64 n) v ∧ Kn wr.heap.size U rr a3) := ⟨H2.out.2.2.2.2.1.below hBU, H2.out.1.trans (hBU.mono H2.out.1.size), H2.out.2.1.below hBU, H2.out.2.2.1.below hBU, H2.out.2.2.2.1.below hBU, H2.out.2.2.2.2.2.1.below hBU⟩
      obtain ⟨A, C, hown0, hA0⟩ := HGU.out.1.list
      have HO : Hid (U.ownsRow (wl.heap.size + 1) 24 3 v j (kvs r A C j) ∧ ∀ i, i < j → Kds (lim (okB wl.heap.size wl.heap.size v) U) (r i) (A i)) := ⟨hown0, hA0⟩
      have HKS : Hid (wl.heap.size + 1 ≤ U.heap.size) := HGU.out.1.lt
      have hj2 : j ≤ 2 := by omega
      clear hown0 hA0
      refine G_step (i := 9) (o := { dst := some 32, op := Op.call { callee := Callee.builtin Builtin.append, args := #[Operand.tmp 24, Operand.tmp 31], argTypes := #[22, 22] }, type := 22, pos := _, after := #[{ on := 1, ground := Ground.data }, { on := 8, ground := Ground.data }, { on := 7, ground := Ground.chain }], guard := none }) (by kernel_rfl) rfl (fun K' hK => ?_)
      refine step_append_lies _ (by rfl) _ _ _ (by rfl) (wl.heap.size + 1) 24 i0 _ 3 40 Tryd.underlying22 HI.out.1 HI.out.2.1 HI.out.2.2.1 HI.out.2.2.2 rfl (by omega) v j (kvs r A C j) (by rfl) HO.out.1 ⟨w2.heap.size, 0, none⟩ 1 1 [.int .i64 rr.kind, .int .i64 rr.num, .slice a3 rr.cnt c3] (by rfl) (by rfl) (World.news_of_block (cs := #[.int .i64 rr.kind, .int .i64 rr.num, .slice a3 rr.cnt c3]) (t := 24) (fr := (0, 0)) hUb) (trip_one _ _ _ _ _) (by omega) (by unfold maxLen; omega) (by omega) HKS.out (w2.heap.size + 1) HUs.out ?_
      intro gg gc w4 hown hgrow hat _
      have ckv := HGU.out.1.keep hgrow (Nat.le_refl _) bkv
      have csv := HGU.out.1.keep hgrow (Nat.le_of_lt HSB.out) bsv
      have cy1 := HGU.out.1.keep hgrow HB1.out by1
      have cy2 := HGU.out.1.keep hgrow HB1.out by2
      have cy3 := HGU.out.1.keep hgrow HB1.out by3
      have ct4 : Tri w4 wl.heap.size (.int .i64 k) (.int .i64 n) v := (HGU.out.1.keepb hgrow (Nat.le_refl _)).trans HGU.out.2.2.2.2.1
      obtain ⟨-, -, -, cfz⟩ := tri_cells ct4
      have cr4 : Tri w4 (w.heap.size + 1) (.int .i64 0) (.int .i64 0) (.slice none 0 0) := (HGU.out.1.keepb hgrow (Nat.le_of_lt HRB.out)).trans HGU.out.2.2.2.1
      have cs4 : Tri w4 w.heap.size (.int .i64 k) (.int .i64 n) (.slice (some ⟨b, o, none⟩) c cap) := (HGU.out.1.keepb hgrow (Nat.le_of_lt HSB.out)).trans HGU.out.2.2.1
      have H4 : Hid (Below w.heap.size w (w4.setCell ⟨wl.heap.size, 2, none⟩ (.slice (some ⟨gg, 0, none⟩) (j + 1) gc)) ∧ Tri (w4.setCell ⟨wl.heap.size, 2, none⟩ (.slice (some ⟨gg, 0, none⟩) (j + 1) gc)) w.heap.size (.int .i64 k) (.int .i64 n) (.slice (some ⟨b, o, none⟩) c cap) ∧ Tri (w4.setCell ⟨wl.heap.size, 2, none⟩ (.slice (some ⟨gg, 0, none⟩) (j + 1) gc)) (w.heap.size + 1) (.int .i64 0) (.int .i64 0) (.slice none 0 0) ∧ Tri (w4.setCell ⟨wl.heap.size, 2, none⟩ (.slice (some ⟨gg, 0, none⟩) (j + 1) gc)) wl.heap.size (.int .i64 k) (.int .i64 n) (.slice (some ⟨gg, 0, none⟩) (j + 1) gc) ∧ Gk (w4.setCell ⟨wl.heap.size, 2, none⟩ (.slice (some ⟨gg, 0, none⟩) (j + 1) gc)) wl.heap.size wl.heap.size (j + 1) r (.slice (some ⟨gg, 0, none⟩) (j + 1) gc)) := by
        have hrr := HRR.out
        rw [hrr] at hown
        have hkn := HGU.out.2.2.2.2.2
        rw [hrr] at hkn
        have hsb := HSB.out
        have hrb := HRB.out
        have hwg := HWG.out
        refine ⟨(HGU.out.2.1.trans ((HGU.out.1.low hgrow).mono (by omega))).setCell (show w.heap.size ≤ wl.heap.size by omega) _, (Go.Deep.blk_setCell_other _ _ _ _ (by show w.heap.size ≠ wl.heap.size; omega)).trans cs4, (Go.Deep.blk_setCell_other _ _ _ _ (by show w.heap.size + 1 ≠ wl.heap.size; omega)).trans cr4, tri_set2 ct4 _, ?_⟩
        exact (Gk.step HGU.out.1 HO.out.2 hkn H2.out.2.2.2.2.2.2.2 H2.out.2.2.2.2.2.2.1 hgrow (by rw [HUs.out]; exact hat) hown).set 2 _
      refine hK.out _ _ (fun _ => ?_) (fun hS2 => ?_)
      · exact ⟨ckv, csv, cy1, cy2, cy3⟩
      have hHeld4 := hS2 rfl
      clear hK K' hS2 hHeld3
      (try simp only [Act.put, List.setIfInBounds_toArray, List.set_cons_zero, List.set_cons_succ])
      refine G_take (i := 10) (oi := { dst := some 33, op := Op.fieldAddr 24 (Operand.tmp 3) 2, type := 0, pos := _, after := #[{ on := 0, ground := Ground.phase }, { on := 1, ground := Ground.phase }, { on := 2, ground := Ground.phase }, { on := 3, ground := Ground.phase }, { on := 4, ground := Ground.phase }, { on := 5, ground := Ground.phase }, { on := 6, ground := Ground.phase }, { on := 7, ground := Ground.phase }, { on := 8, ground := Ground.phase }, { on := 9, ground := Ground.phase }], guard := none }) (v := .pointer (some ⟨wl.heap.size, 2, none⟩)) rfl (by kernel_rfl) (by kernel_rfl) (by kernel_rfl) (by kernel_rfl) (fun _ _ _ h => h) (by rfl) (fun u hu => ?_) hHeld4 ?_
      · (try dsimp only at hu); go_simp
      (try simp only [Act.put, List.setIfInBounds_toArray, List.set_cons_zero, List.set_cons_succ])
      refine G_step (i := 11) (o := { dst := none, op := Op.store 22 (Operand.tmp 33) (Operand.tmp 32), type := 0, pos := _, after := #[{ on := 10, ground := Ground.data }, { on := 9, ground := Ground.data }, { on := 9, ground := Ground.chain }, { on := 0, ground := Ground.phase }, { on := 1, ground := Ground.phase }, { on := 2, ground := Ground.phase }, { on := 3, ground := Ground.phase }, { on := 4, ground := Ground.phase }, { on := 5, ground := Ground.phase }, { on := 6, ground := Ground.phase }, { on := 7, ground := Ground.phase }, { on := 8, ground := Ground.phase }, { on := 9, ground := Ground.phase }], guard := none }) (by kernel_rfl) rfl (fun K' hK => ?_)
      go_simp
      refine hK.out _ _ (fun h => absurd h (by decide)) (fun _ => ?_)
      clear hK K' hHeld4
      (try simp only [Act.put, List.setIfInBounds_toArray, List.set_cons_zero, List.set_cons_succ])
      refine G_done (by kernel_rfl) ?_ _
      clear H2 HGU HO HKS hBU hUb HUs hown hgrow hat akv asv ay1 ay2 ay3 bkv bsv by1 by2 by3 ckv csv cy1 cy2 cy3 cfz ct4 cr4 cs4 kv sv y1 y2 y3 HJ HRR HB1
      go_wp2
      go_roundw
      case rel => exact ⟨j + 1, by omega, by go_num, _, H4⟩
      case measure => simp [intOf]; omega
    · obtain rfl : c = j := by omega
      obtain ⟨ka, kc, rfl, hKn⟩ := HJ.out.2.2.2.2.done2 HR.out
      obtain ⟨⟨f0, f1, f2⟩, -⟩ := tri_cells HJ.out.2.2.2.1
      have hT4 := HJ.out.2.2.1
      obtain ⟨⟨r0, r1, r2⟩, z0, z1, z2⟩ := tri_cells hT4
      have hlt2 := hT4.lt
      have H4 : Hid (Kn (wl.heap.size + 1) wr (mkn k n c r) ka ∧ Below w.heap.size w wr ∧ Tri wr (w.heap.size + 1) (.int .i64 0) (.int .i64 0) (.slice none 0 0)) := ⟨hKn k n, HJ.out.1, hT4⟩
      have hlt3 := HJ.out.2.2.2.2.lt
      clear hKn HJ hT4
      go_wp2
      (try simp only [Exit.inBlock, Exit.then])
      refine bodyPost_ret (results_cell_row rfl _ _ (w.heap.size + 1) 24 #[.int .i64 k, .int .i64 n, .slice ka c kc] (0, 0) _ rfl (tri_set H4.out.2.2 _ _ _) Tryd.underlying24 rfl (by kernel_rfl)) rfl ?_
      have hwg := HWG.out
      have hrb := HRB.out
      exact ⟨ka, kc, rfl, kn_tri H4.out.1 (by omega) (by omega) _ _ _, below_tri H4.out.2.1 (by omega) _ _ _⟩

set_option maxHeartbeats 4000000 in
theorem rn_notnot {t : Fml} (hw : Wf t) (h4 : t.kind = 4) (hK : (t.kid 0).kind = 4) (ih : Rn ((t.kid 0).kid 0)) : ∀ (s : Option Addr) (cap : Nat) (w : World), opA 0 w → Kds w t s → Calls Tryd.prog 11 #[.agg #[.int .i64 t.kind, .int .i64 t.num, .slice s t.cnt cap]] w fun e w' => Nk w.heap.size w (nt ((t.kid 0).kid 0) false) e w' := by
  intro s cap w ho hk
  have hq := fit_cases hw.out.1
  have hc1 : t.cnt = 1 := by omega
  obtain ⟨b0, o0, ha0, hkid0⟩ := hk.out
  obtain rfl := ha0 (by omega)
  obtain ⟨a, cap2, e1, e2, e3, e4, e5⟩ := hkid0 0 (by omega)
  simp only [Nat.zero_mul, Nat.add_zero] at e1 e2 e3
  have hwg0 := hw.out.2 0 (by omega)
  obtain ⟨g, hg⟩ : ∃ y, y = t.kid 0 := ⟨_, rfl⟩
  rw [← hg] at e1 e2 e3 e4 e5 hwg0 hK ⊢
  have hq2 := fit_cases hwg0.out.1
  obtain ⟨u, hu⟩ : ∃ y, y = ((w.alloc (.cells #[.int .i64 t.kind, .int .i64 t.num, .slice (some ⟨b0, o0, none⟩) t.cnt cap] 24)).alloc (.cells #[.int .i64 0, .int .i64 0, .slice none 0 0] 24)).alloc (.cells #[.int .i64 g.kind, .int .i64 g.num, .slice a g.cnt cap2] 24) := ⟨_, rfl⟩
  obtain ⟨hs, hB, hT1, hT2, hT3⟩ := three_new w _ _ _ _ _ _ hu
  have HX : Hid (u.heap.size = w.heap.size + 1 + 1 + 1 ∧ Below w.heap.size w u ∧ Tri u w.heap.size (.int .i64 t.kind) (.int .i64 t.num) (.slice (some ⟨b0, o0, none⟩) t.cnt cap) ∧ Tri u (w.heap.size + 1) (.int .i64 0) (.int .i64 0) (.slice none 0 0) ∧ Tri u (w.heap.size + 1 + 1) (.int .i64 g.kind) (.int .i64 g.num) (.slice a g.cnt cap2)) := ⟨hs, hB, hT1, hT2, hT3⟩
  have h4b : (t.kind != 4) = false := by rw [h4]; rfl
  have hcz : (0 : Int) < t.cnt := by omega
  have hcn : 0 < t.cnt := by omega
  have hb0 : b0 < w.heap.size := World.block_lt_of_cell? _ _ e1
  rw [← hg] at ih
  obtain ⟨b2, o2, ha2, hkid2⟩ := e5.out
  obtain rfl := ha2 (by omega)
  obtain ⟨ai, ci, g1, g2, g3, g4, g5⟩ := hkid2 0 (by omega)
  simp only [Nat.zero_mul, Nat.add_zero] at g1 g2 g3
  have x1 := below_cell hB (Nat.le_refl _) g1
  have x2 := below_cell hB (Nat.le_refl _) g2
  have x3 := below_cell hB (Nat.le_refl _) g3
  have C := hid (ih ai ci u (ho.below hB) (g5.below hB))
  rw [hu] at x1 x2 x3
  have HU := hid hu
  have g4b : (g.kind == 4) = true := beq_iff_eq.2 hK
  have hkz : (0 : Int) < g.cnt := by omega
  have hkn : 0 < g.cnt := by omega
  generalize nt (g.kid 0) false = m at *
  generalize g.kid 0 = kk at *
  clear hu hs hB hT1 hT2 hT3 ih hw hk ha0 hkid0 ho hg hq hq2 h4 hK hwg0 e4 e5 ha2 hkid2 g4 g5 hc1
  go_enter Tryd.func11, Tryd.ntmps11
  go_wp2_with fail
  rw [← HU.out]
  refine C.out.mono ?_
  rintro e w3 ⟨a3, c3, rfl, hk3, hb3⟩
  have hT3 := HX.out.2.2.2.1.below hb3
  have H3 : Hid (Kn u.heap.size w3 m a3 ∧ Below w.heap.size w w3 ∧ Tri w3 (w.heap.size + 1) (.int .i64 0) (.int .i64 0) (.slice none 0 0)) := ⟨hk3, HX.out.2.1.trans (hb3.mono HX.out.2.1.size), hT3⟩
  obtain ⟨⟨r0, r1, r2⟩, z0, z1, z2⟩ := tri_cells hT3
  have hlt := hT3.lt
  clear hk3 hb3 hT3 C HU
  go_wp2
  (try simp only [Exit.inBlock, Exit.then])
  refine bodyPost_ret (results_cell_row rfl _ _ (w.heap.size + 1) 24 #[.int .i64 m.kind, .int .i64 m.num, .slice a3 m.cnt c3] (0, 0) _ rfl (tri_set H3.out.2.2 _ _ _) Tryd.underlying24 rfl (by kernel_rfl)) rfl ?_
  exact ⟨a3, c3, rfl, kn_tri H3.out.1 (by have := HX.out.1; omega) (by have := HX.out.1; omega) _ _ _, below_tri H3.out.2.1 (by omega) _ _ _⟩

set_option maxHeartbeats 4000000 in
theorem rn_atom {t : Fml} (hw : Wf t) (h4 : t.kind = 4) (hK : (t.kid 0).kind = 3) : ∀ (s : Option Addr) (cap : Nat) (w : World), opA 0 w → Kds w t s → Calls Tryd.prog 11 #[.agg #[.int .i64 t.kind, .int .i64 t.num, .slice s t.cnt cap]] w fun e w' => Nk w.heap.size w (on 4 (nd 3 (t.kid 0).num)) e w' := by
  intro s cap w ho hk
  have hq := fit_cases hw.out.1
  have hc1 : t.cnt = 1 := by omega
  obtain ⟨b0, o0, ha0, hkid0⟩ := hk.out
  obtain rfl := ha0 (by omega)
  obtain ⟨a, cap2, e1, e2, e3, e4, e5⟩ := hkid0 0 (by omega)
  simp only [Nat.zero_mul, Nat.add_zero] at e1 e2 e3
  have hwg0 := hw.out.2 0 (by omega)
  obtain ⟨g, hg⟩ : ∃ y, y = t.kid 0 := ⟨_, rfl⟩
  rw [← hg] at e1 e2 e3 e4 e5 hwg0 hK ⊢
  have hq2 := fit_cases hwg0.out.1
  obtain ⟨u, hu⟩ : ∃ y, y = ((w.alloc (.cells #[.int .i64 t.kind, .int .i64 t.num, .slice (some ⟨b0, o0, none⟩) t.cnt cap] 24)).alloc (.cells #[.int .i64 0, .int .i64 0, .slice none 0 0] 24)).alloc (.cells #[.int .i64 g.kind, .int .i64 g.num, .slice a g.cnt cap2] 24) := ⟨_, rfl⟩
  obtain ⟨hs, hB, hT1, hT2, hT3⟩ := three_new w _ _ _ _ _ _ hu
  have HX : Hid (u.heap.size = w.heap.size + 1 + 1 + 1 ∧ Below w.heap.size w u ∧ Tri u w.heap.size (.int .i64 t.kind) (.int .i64 t.num) (.slice (some ⟨b0, o0, none⟩) t.cnt cap) ∧ Tri u (w.heap.size + 1) (.int .i64 0) (.int .i64 0) (.slice none 0 0) ∧ Tri u (w.heap.size + 1 + 1) (.int .i64 g.kind) (.int .i64 g.num) (.slice a g.cnt cap2)) := ⟨hs, hB, hT1, hT2, hT3⟩
  have h4b : (t.kind != 4) = false := by rw [h4]; rfl
  have hcz : (0 : Int) < t.cnt := by omega
  have hcn : 0 < t.cnt := by omega
  have hb0 : b0 < w.heap.size := World.block_lt_of_cell? _ _ e1
  have C := hid (leaf_g 3 g.num u)
  have HU := hid hu
  have g4b : (g.kind == 4) = false := by rw [hK]; rfl
  have g3b : (g.kind == 3) = true := beq_iff_eq.2 hK
  clear hu hs hB hT1 hT2 hT3 hw hk ha0 hkid0 ho hg hq hq2 h4 hK hwg0 e4 e5 hc1
  go_enter Tryd.func11, Tryd.ntmps11
  go_wp2_with fail
  rw [← HU.out]
  refine C.out.mono ?_
  rintro e w2 ⟨rfl, hb2⟩
  have C2 : Hid (Calls Tryd.prog 31 #[.int .i64 4, .agg #[.int .i64 3, .int .i64 g.num, .slice none 0 0]] w2 fun e w' => Nk u.heap.size w2 (on 4 (nd 3 g.num)) e w') := one31_f (B := u.heap.size) 4 (nd 3 g.num) none 0 w2 hb2.size (Kn.nd _ _ _) (Nat.zero_le _)
  have HB2 := hid hb2
  obtain ⟨m, hm⟩ : ∃ y, y = on 4 (nd 3 g.num) := ⟨_, rfl⟩
  have HM := hid hm
  rw [← hm] at C2
  clear hb2 C HU hm
  go_wp2_with fail
  refine C2.out.mono ?_
  rintro e w3 ⟨a3, c3, rfl, hk3, hb3⟩
  have hbu3 := HB2.out.trans (hb3.mono HB2.out.size)
  have hT3 := HX.out.2.2.2.1.below hbu3
  have H3 : Hid (Kn u.heap.size w3 m a3 ∧ Below w.heap.size w w3 ∧ Tri w3 (w.heap.size + 1) (.int .i64 0) (.int .i64 0) (.slice none 0 0)) := ⟨hk3, HX.out.2.1.trans (hbu3.mono HX.out.2.1.size), hT3⟩
  obtain ⟨⟨r0, r1, r2⟩, z0, z1, z2⟩ := tri_cells hT3
  have hlt := hT3.lt
  clear hk3 hb3 hT3 hbu3 C2
  go_wp2
  (try simp only [Exit.inBlock, Exit.then])
  refine bodyPost_ret (results_cell_row rfl _ _ (w.heap.size + 1) 24 #[.int .i64 m.kind, .int .i64 m.num, .slice a3 m.cnt c3] (0, 0) _ rfl (tri_set H3.out.2.2 _ _ _) Tryd.underlying24 rfl (by kernel_rfl)) rfl ?_
  rw [← HM.out]
  exact ⟨a3, c3, rfl, kn_tri H3.out.1 (by have := HX.out.1; omega) (by have := HX.out.1; omega) _ _ _, below_tri H3.out.2.1 (by omega) _ _ _⟩

set_option maxHeartbeats 4000000 in
theorem rn_not {t : Fml} (hw : Wf t) (h4 : t.kind = 4) (hK : (t.kid 0).kind ≠ 3 ∧ (t.kid 0).kind ≠ 4) (ih : ∀ i, i < (t.kid 0).cnt → Rn (on 4 ((t.kid 0).kid i))) : ∀ (s : Option Addr) (cap : Nat) (w : World), opA 0 w → Kds w t s → Calls Tryd.prog 11 #[.agg #[.int .i64 t.kind, .int .i64 t.num, .slice s t.cnt cap]] w fun e w' => Nk w.heap.size w (mkn (opp (t.kid 0).kind) 0 (t.kid 0).cnt (fun i => nt ((t.kid 0).kid i) true)) e w' := by
  intro s cap w ho hk
  have hq := fit_cases hw.out.1
  have hc1 : t.cnt = 1 := by omega
  obtain ⟨b0, o0, ha0, hkid0⟩ := hk.out
  obtain rfl := ha0 (by omega)
  obtain ⟨a, cap2, e1, e2, e3, e4, e5⟩ := hkid0 0 (by omega)
  simp only [Nat.zero_mul, Nat.add_zero] at e1 e2 e3
  have hwg0 := hw.out.2 0 (by omega)
  obtain ⟨g, hg⟩ : ∃ y, y = t.kid 0 := ⟨_, rfl⟩
  rw [← hg] at e1 e2 e3 e4 e5 hwg0 hK ⊢
  have hq2 := fit_cases hwg0.out.1
  obtain ⟨u, hu⟩ : ∃ y, y = ((w.alloc (.cells #[.int .i64 t.kind, .int .i64 t.num, .slice (some ⟨b0, o0, none⟩) t.cnt cap] 24)).alloc (.cells #[.int .i64 0, .int .i64 0, .slice none 0 0] 24)).alloc (.cells #[.int .i64 g.kind, .int .i64 g.num, .slice a g.cnt cap2] 24) := ⟨_, rfl⟩
  obtain ⟨hs, hB, hT1, hT2, hT3⟩ := three_new w _ _ _ _ _ _ hu
  have HX : Hid (u.heap.size = w.heap.size + 1 + 1 + 1 ∧ Below w.heap.size w u ∧ Tri u w.heap.size (.int .i64 t.kind) (.int .i64 t.num) (.slice (some ⟨b0, o0, none⟩) t.cnt cap) ∧ Tri u (w.heap.size + 1) (.int .i64 0) (.int .i64 0) (.slice none 0 0) ∧ Tri u (w.heap.size + 1 + 1) (.int .i64 g.kind) (.int .i64 g.num) (.slice a g.cnt cap2)) := ⟨hs, hB, hT1, hT2, hT3⟩
  have h4b : (t.kind != 4) = false := by rw [h4]; rfl
  have hcz : (0 : Int) < t.cnt := by omega
  have hcn : 0 < t.cnt := by omega
  have hb0 : b0 < w.heap.size := World.block_lt_of_cell? _ _ e1
  rw [← hg] at ih
  obtain ⟨r, hr⟩ : ∃ r : Nat → Fml, r = fun i => nt (g.kid i) true := ⟨_, rfl⟩
  rw [← hr]
  obtain ⟨i0, hi, hz0, hz1, hz2⟩ := info_parts Tryd.info24
  have HI : Hid (Tryd.prog.info? 24 = some i0 ∧ i0.zero = some (.agg #[.int .i64 0, .int .i64 0, .slice none 0 0]) ∧ i0.size = 3 ∧ i0.bytes = 40) := ⟨hi, hz0, hz1, hz2⟩
  obtain ⟨q, hq1⟩ : ∃ q : Nat, g.kind = q := ⟨g.kind.toNat, by omega⟩
  have hqc := ho q (by omega) (by omega)
  obtain ⟨oq, hoq⟩ : ∃ y, y = opp g.kind := ⟨_, rfl⟩
  rw [← hq1, ← hoq] at hqc
  rw [← hoq]
  have hq12 : (q : Int) < 12 := by omega
  have hq0 : (0 : Int) ≤ q := by omega
  have hg0 : 0 < w.heap.size := ho.lt
  have xq := below_cell hB (Nat.le_refl _) hqc
  rw [hu, hq1] at xq
  obtain ⟨b, o, ha, hkid⟩ := e5.out
  have HA := hid ha
  have HK : Hid (KidsAt w b o g.cnt g.kid) := hkid
  have HF : Hid (∀ i, i < g.cnt → ∀ (aa : Option Addr) (cc : Nat) (z : World), Below w.heap.size w z → Kds z (on 4 (g.kid i)) aa → Calls Tryd.prog 11 #[.agg #[.int .i64 4, .int .i64 0, .slice aa 1 cc]] z fun e w' => Nk z.heap.size z (r i) e w') := fun i hi aa cc z hz hkz => by
    have := ih i hi aa cc z (ho.below hz) hkz
    rw [nt_on4 (hwg0.out.2 i hi)] at this
    rw [hr]
    exact this
  have HR : Hid (∀ i, i < g.cnt → (r i).cnt ≤ 9223372036854775807) := fun i hi => by rw [hr]; exact wf_big (nt_shape _ (hwg0.out.2 i hi) true).1
  have hc2 := wf_cnt hwg0
  have C := hid (leaf_g oq 0 u)
  have HU := hid hu
  have g4b : ((q : Int) == 4) = false := beq_eq_false_iff_ne.2 (by omega)
  have g3b : ((q : Int) == 3) = false := beq_eq_false_iff_ne.2 (by omega)
  rw [hq1] at HX HU e1
  generalize g.kid = kid at *
  generalize g.num = n at *
  generalize g.cnt = c at *
  clear hu hs hB hT1 hT2 hT3 ih hw hk ha0 hkid0 ho hg hq hq2 h4 hK hwg0 e4 e5 ha hkid hi hz0 hz1 hz2 hr hqc hoq hq1 hc1
  obtain ⟨k, hkq⟩ : ∃ y : Int, y = q := ⟨_, rfl⟩
  go_enter Tryd.func11, Tryd.ntmps11
  go_wp2_with fail
  rw [← HU.out]
  refine C.out.mono ?_
  rintro e wl ⟨rfl, hbl⟩
  rw [← hkq] at HX g4b g3b HU e1 hq12 hq0 ⊢
  clear hkq
  obtain ⟨U1, hU1⟩ : ∃ y, y = wl.alloc (.cells #[.int .i64 oq, .int .i64 0, .slice none 0 0] 24) := ⟨_, rfl⟩
  have hb1 : Below wl.heap.size wl U1 := by rw [hU1]; exact box_below _ _
  have hx1 : Tri U1 wl.heap.size (.int .i64 oq) (.int .i64 0) (.slice none 0 0) := by rw [hU1]; exact tri_new _ _ _ _
  have hbu1 := hbl.trans (hb1.mono hbl.size)
  have HSB : Hid ((w.heap.size + 1 + 1) < wl.heap.size) := by have h1 := hbl.size; have h2 := HX.out.1; exact hid (by omega)
  have HRB : Hid (w.heap.size + 1 < wl.heap.size) := by have h1 := hbl.size; have h2 := HX.out.1; exact hid (by omega)
  have HWG : Hid (w.heap.size ≤ wl.heap.size) := by have h1 := hbl.size; have h2 := HX.out.1; exact hid (by omega)
  have HS : Hid (Below w.heap.size w U1 ∧ Tri U1 (w.heap.size + 1 + 1) (.int .i64 k) (.int .i64 n) (.slice a c cap2) ∧ Tri U1 (w.heap.size + 1) (.int .i64 0) (.int .i64 0) (.slice none 0 0) ∧ Tri U1 wl.heap.size (.int .i64 oq) (.int .i64 0) (.slice none 0 0) ∧ Gk U1 wl.heap.size wl.heap.size 0 r (.slice none 0 0)) := ⟨HX.out.2.1.trans (hbu1.mono HX.out.2.1.size), HX.out.2.2.2.2.below hbu1, HX.out.2.2.2.1.below hbu1, hx1, Gk.start r (Nat.le_refl _) hx1.lt⟩
  have HU1 := hid hU1
  clear hU1 hb1 hx1 hbu1 hbl C HU
  go_wp2
  rw [← HU1.out]
  clear HU1
  go_loopw [7] (fun i wr => ∃ j : Nat, j ≤ c ∧ i = .int .i64 j ∧ ∃ v, Hid (Below w.heap.size w wr ∧ Tri wr (w.heap.size + 1 + 1) (.int .i64 k) (.int .i64 n) (.slice a c cap2) ∧ Tri wr (w.heap.size + 1) (.int .i64 0) (.int .i64 0) (.slice none 0 0) ∧ Tri wr wl.heap.size (.int .i64 oq) (.int .i64 (0 : Int)) v ∧ Gk wr wl.heap.size wl.heap.size j r v)) (fun i _ => c - (intOf i).toNat)
  case atStart => exact ⟨0, Nat.zero_le _, rfl, _, HS⟩
  case round =>
    obtain ⟨j, hj, rfl, v, HJ⟩ := hrel
    clear HS
    obtain ⟨-, -, sv⟩ := (tri_cells HJ.out.2.1).1
    by_cases hlt : j < c
    · obtain rfl := HA.out (by omega)
      obtain ⟨ai, ci, p1, p2, p3, p4, p5⟩ := HK.out j hlt
      have y1 := below_cell HJ.out.1 (Nat.le_refl _) p1
      have y2 := below_cell HJ.out.1 (Nat.le_refl _) p2
      have y3 := below_cell HJ.out.1 (Nat.le_refl _) p3
      have hjz : (j : Int) < c := by omega
      have HB1 : Hid (b ≤ wl.heap.size) := by have h1 : b < w.heap.size := World.block_lt_of_cell? _ _ p1; have := HWG.out; exact hid (by omega)
      obtain ⟨kk, hkk⟩ : ∃ y, y = kid j := ⟨_, rfl⟩
      rw [← hkk] at y1 y2 y3 p4
      obtain ⟨rr, hrr⟩ : ∃ y, y = r j := ⟨_, rfl⟩
      have HRR := hid hrr
      have HKJ : Hid (Kds w kk ai ∧ kk.cnt ≤ 9223372036854775807) := ⟨by rw [hkk]; exact p5, p4⟩
      have C : Hid (∀ (z : World) (aa : Option Addr) (cc : Nat), Below w.heap.size w z → Kds z (on 4 kk) aa → Calls Tryd.prog 11 #[.agg #[.int .i64 4, .int .i64 0, .slice aa 1 cc]] z fun e w' => Nk z.heap.size z rr e w') := fun z aa cc hz hkz => by
        rw [hkk] at hkz
        have := HF.out j hlt aa cc z hz hkz
        rw [← hrr] at this
        exact this
      obtain ⟨-, -, kv⟩ := (tri_cells HJ.out.2.2.2.1).1
      clear hkk hrr p1 p2 p3 p4 p5
      go_wp2
      refine G_region (fun z => z.cell? ⟨wl.heap.size, 2, none⟩ = some v ∧ z.cell? ⟨w.heap.size + 1 + 1, 2, none⟩ = some (.slice (some ⟨b, o, none⟩) c cap2) ∧ z.cell? ⟨b, o + j * 3, none⟩ = some (.int .i64 kk.kind) ∧ z.cell? ⟨b, o + j * 3 + 1, none⟩ = some (.int .i64 kk.num) ∧ z.cell? ⟨b, o + j * 3 + 2, none⟩ = some (.slice ai kk.cnt ci)) (fun j => j == 12) (by kernel_rfl) ⟨kv, sv, y1, y2, y3⟩ (fun hHeld => ?_)
      refine G_take (i := 0) (oi := { dst := some 66, op := Op.fieldAddr 24 (Operand.tmp 6) 2, type := 0, pos := _, after := #[], guard := none }) (v := .pointer (some ⟨wl.heap.size, 2, none⟩)) rfl (by kernel_rfl) (by kernel_rfl) (by kernel_rfl) (by kernel_rfl) (fun _ _ _ h => h) (by rfl) (fun u hu => ?_) hHeld ?_
      · (try dsimp only at hu); go_simp
      (try simp only [Act.put, List.setIfInBounds_toArray, List.set_cons_zero, List.set_cons_succ])
      refine G_take (i := 1) (oi := { dst := some 67, op := Op.load 22 (Operand.tmp 66), type := 22, pos := _, after := #[{ on := 0, ground := Ground.data }], guard := none }) (v := v) rfl (by kernel_rfl) (by kernel_rfl) (by kernel_rfl) (by kernel_rfl) (fun _ _ _ h => h) (by rfl) (fun u hu => ?_) hHeld ?_
      · (try dsimp only at hu); go_simp
      (try simp only [Act.put, List.setIfInBounds_toArray, List.set_cons_zero, List.set_cons_succ])
      refine G_take (i := 2) (oi := { dst := some 68, op := Op.fieldAddr 24 (Operand.tmp 5) 2, type := 0, pos := _, after := #[], guard := none }) (v := .pointer (some ⟨w.heap.size + 1 + 1, 2, none⟩)) rfl (by kernel_rfl) (by kernel_rfl) (by kernel_rfl) (by kernel_rfl) (fun _ _ _ h => h) (by rfl) (fun u hu => ?_) hHeld ?_
      · (try dsimp only at hu); go_simp
      (try simp only [Act.put, List.setIfInBounds_toArray, List.set_cons_zero, List.set_cons_succ])
      refine G_take (i := 3) (oi := { dst := some 69, op := Op.load 22 (Operand.tmp 68), type := 22, pos := _, after := #[{ on := 2, ground := Ground.data }], guard := none }) (v := .slice (some ⟨b, o, none⟩) c cap2) rfl (by kernel_rfl) (by kernel_rfl) (by kernel_rfl) (by kernel_rfl) (fun _ _ _ h => h) (by rfl) (fun u hu => ?_) hHeld ?_
      · (try dsimp only at hu); go_simp
      (try simp only [Act.put, List.setIfInBounds_toArray, List.set_cons_zero, List.set_cons_succ])
      refine G_take (i := 4) (oi := { dst := some 70, op := Op.move (Operand.tmp 7), type := 3, pos := _, after := #[], guard := none }) (v := .int .i64 j) rfl (by kernel_rfl) (by kernel_rfl) (by kernel_rfl) (by kernel_rfl) (fun _ _ _ h => h) (by rfl) (fun u hu => ?_) hHeld ?_
      · (try dsimp only at hu); go_simp
      (try simp only [Act.put, List.setIfInBounds_toArray, List.set_cons_zero, List.set_cons_succ])
      refine G_take (i := 5) (oi := { dst := some 71, op := Op.indexAddr 22 (Operand.tmp 69) (Operand.tmp 70), type := 0, pos := _, after := #[{ on := 3, ground := Ground.data }, { on := 4, ground := Ground.data }], guard := none }) (v := .pointer (some ⟨b, o + j * 3, none⟩)) rfl (by kernel_rfl) (by kernel_rfl) (by kernel_rfl) (by kernel_rfl) (fun _ _ _ h => h) (by rfl) (fun u hu => ?_) hHeld ?_
      · (try dsimp only at hu); go_simp
      (try simp only [Act.put, List.setIfInBounds_toArray, List.set_cons_zero, List.set_cons_succ])
      refine G_take (i := 6) (oi := { dst := some 72, op := Op.load 24 (Operand.tmp 71), type := 24, pos := _, after := #[{ on := 5, ground := Ground.data }], guard := none }) (v := .agg #[.int .i64 kk.kind, .int .i64 kk.num, .slice ai kk.cnt ci]) rfl (by kernel_rfl) (by kernel_rfl) (by kernel_rfl) (by kernel_rfl) (fun _ _ _ h => h) (by rfl) (fun u hu => ?_) hHeld ?_
      · (try dsimp only at hu); go_simp
      (try simp only [Act.put, List.setIfInBounds_toArray, List.set_cons_zero, List.set_cons_succ])
      refine G_step (i := 7) (o := { dst := some 73, op := Op.call { callee := Callee.value (Operand.func 31), args := #[Operand.const (Value.int IntKind.i64 4), Operand.tmp 72], argTypes := #[3, 24] }, type := 24, pos := _, after := #[{ on := 6, ground := Ground.data }], guard := none }) (by kernel_rfl) rfl (fun K' hK => ?_)
      go_simp
      go_at_call 31
      refine (one31_f (B := 0) 4 kk ai ci _ (Nat.zero_le _) (Kn.zero (HKJ.out.1.below (below_drewN HJ.out.1 1))) HKJ.out.2).mono ?_
      rintro e wq ⟨a1, c1, rfl, hk1, hb1⟩
      dsimp only
      have hb1 := below_of_drew hb1
      have okv := below_cell hb1 (Nat.le_refl _) kv
      have osv := below_cell hb1 (Nat.le_refl _) sv
      have oy1 := below_cell hb1 (Nat.le_refl _) y1
      have oy2 := below_cell hb1 (Nat.le_refl _) y2
      have oy3 := below_cell hb1 (Nat.le_refl _) y3
      refine hK.out _ _ (fun _ => ?_) (fun hS2 => ?_)
      · exact ⟨okv, osv, oy1, oy2, oy3⟩
      have hHeld0 := hS2 rfl
      clear hK K' hS2 hHeld
      (try simp only [Act.put, List.setIfInBounds_toArray, List.set_cons_zero, List.set_cons_succ])
      have HJ1 : Hid (Below w.heap.size w wq ∧ Tri wq (w.heap.size + 1 + 1) (.int .i64 k) (.int .i64 n) (.slice (some ⟨b, o, none⟩) c cap2) ∧ Tri wq (w.heap.size + 1) (.int .i64 0) (.int .i64 0) (.slice none 0 0) ∧ Tri wq wl.heap.size (.int .i64 oq) (.int .i64 (0 : Int)) v ∧ (Gk wq wl.heap.size wl.heap.size j r v) ∧ Kds wq (on 4 kk) a1) := ⟨HJ.out.1.trans (hb1.mono HJ.out.1.size), HJ.out.2.1.below hb1, HJ.out.2.2.1.below hb1, HJ.out.2.2.2.1.below hb1, HJ.out.2.2.2.2.below hb1, hk1.out⟩
      have ek : (on 4 kk).kind = 4 := rfl
      have en : (on 4 kk).num = 0 := rfl
      have ec : (on 4 kk).cnt = 1 := rfl
      simp only [ek, en, ec]
      clear hk1 hb1 kv sv y1 y2 y3 ek en ec HKJ
      refine G_step (i := 8) (o := { dst := some 74, op := Op.call { callee := Callee.value (Operand.func 11), args := #[Operand.tmp 73], argTypes := #[24] }, type := 24, pos := _, after := #[{ on := 7, ground := Ground.data }, { on := 7, ground := Ground.chain }], guard := none }) (by kernel_rfl) rfl (fun K' hK => ?_)
      go_simp
      go_at_call 11
      refine (C.out wq a1 c1 HJ1.out.1 HJ1.out.2.2.2.2.2).mono ?_
      rintro e w2 ⟨a3, c3, rfl, hk3, hb3⟩
      dsimp only
      have hv4 := hb3
      have hk3' : Kn wq.heap.size w2 rr a3 := hk3
      have akv := below_cell hv4 (Nat.le_refl _) okv
      have asv := below_cell hv4 (Nat.le_refl _) osv
      have ay1 := below_cell hv4 (Nat.le_refl _) oy1
      have ay2 := below_cell hv4 (Nat.le_refl _) oy2
      have ay3 := below_cell hv4 (Nat.le_refl _) oy3
      refine hK.out _ _ (fun _ => ?_) (fun hS2 => ?_)
      · exact ⟨akv, asv, ay1, ay2, ay3⟩
      have hHeld2 := hS2 rfl
      clear hK K' hS2 hHeld0
      (try simp only [Act.put, List.setIfInBounds_toArray, List.set_cons_zero, List.set_cons_succ])
      have H2 : Hid (Below w.heap.size w w2 ∧ Tri w2 (w.heap.size + 1 + 1) (.int .i64 k) (.int .i64 n) (.slice (some ⟨b, o, none⟩) c cap2) ∧ Tri w2 (w.heap.size + 1) (.int .i64 0) (.int .i64 0) (.slice none 0 0) ∧ Tri w2 wl.heap.size (.int .i64 oq) (.int .i64 (0 : Int)) v ∧ Gk w2 wl.heap.size wl.heap.size j r v ∧ Kn wq.heap.size w2 rr a3 ∧ (∀ g, v.ownBlock = some g → g < wq.heap.size) ∧ wl.heap.size < wq.heap.size) :=
        ⟨HJ1.out.1.trans (hv4.mono HJ1.out.1.size), HJ1.out.2.1.below hv4, HJ1.out.2.2.1.below hv4, HJ1.out.2.2.2.1.below hv4, HJ1.out.2.2.2.2.1.below hv4, hk3', fun g hg => (HJ1.out.2.2.2.2.1.own g hg).2, HJ1.out.2.2.2.2.1.lt⟩
      clear hk3 hk3' hb3 hv4 C
      refine G_step (i := 9) (o := { dst := some 75, op := Op.buildSlice 22 1 #[(0, Operand.tmp 74)], type := 22, pos := _, after := #[{ on := 8, ground := Ground.data }], guard := none }) (by kernel_rfl) rfl (fun K' hK => ?_)
      go_simp
      obtain ⟨U, hU⟩ : ∃ y, y = w2.alloc (.cells #[.int .i64 rr.kind, .int .i64 rr.num, .slice a3 rr.cnt c3] 24) := ⟨_, rfl⟩
      have hBU : Below w2.heap.size w2 U := by rw [hU]; exact box_below _ _
      have hUb : U.heap[w2.heap.size]? = some (.cells #[.int .i64 rr.kind, .int .i64 rr.num, .slice a3 rr.cnt c3] 24) := by rw [hU]; exact Go.Deep.blk_alloc_new _ _
      have HUs : Hid (U.heap.size = w2.heap.size + 1) := by rw [hU]; exact hid (by simp)
      rw [← hU]
      clear hU
      have bkv := below_cell hBU (Nat.le_refl _) akv
      have bsv := below_cell hBU (Nat.le_refl _) asv
      have by1 := below_cell hBU (Nat.le_refl _) ay1
      have by2 := below_cell hBU (Nat.le_refl _) ay2
      have by3 := below_cell hBU (Nat.le_refl _) ay3
      refine hK.out _ _ (fun _ => ?_) (fun hS2 => ?_)
      · exact ⟨bkv, bsv, by1, by2, by3⟩
      have hHeld3 := hS2 rfl
      clear hK K' hS2 hHeld2
      (try simp only [Act.put, List.setIfInBounds_toArray, List.set_cons_zero, List.set_cons_succ])
      have HGU : Hid (Gk U wl.heap.size wl.heap.size j r v ∧ Below w.heap.size w U ∧ Tri U (w.heap.size + 1 + 1) (.int .i64 k) (.int .i64 n) (.slice (some ⟨b, o, none⟩) c cap2) ∧ Tri U (w.heap.size + 1) (.int .i64 0) (.int .i64 0) (.slice none 0 0) ∧ Tri U wl.heap.size (.int .i64 oq) (.int .i64 (0 : Int)) v ∧ Kn wq.heap.size U rr a3) := ⟨H2.out.2.2.2.2.1.below hBU, H2.out.1.trans (hBU.mono H2.out.1.size), H2.out.2.1.below hBU, H2.out.2.2.1.below hBU, H2.out.2.2.2.1.below hBU, H2.out.2.2.2.2.2.1.below hBU⟩
      obtain ⟨A, C, hown0, hA0⟩ := HGU.out.1.list
      have HO : Hid (U.ownsRow (wl.heap.size + 1) 24 3 v j (kvs r A C j) ∧ ∀ i, i < j → Kds (lim (okB wl.heap.size wl.heap.size v) U) (r i) (A i)) := ⟨hown0, hA0⟩
      have HKS : Hid (wl.heap.size + 1 ≤ U.heap.size) := HGU.out.1.lt
      have hj2 : j ≤ 2 := by omega
      clear hown0 hA0
      refine G_step (i := 10) (o := { dst := some 76, op := Op.call { callee := Callee.builtin Builtin.append, args := #[Operand.tmp 67, Operand.tmp 75], argTypes := #[22, 22] }, type := 22, pos := _, after := #[{ on := 1, ground := Ground.data }, { on := 9, ground := Ground.data }, { on := 8, ground := Ground.chain }], guard := none }) (by kernel_rfl) rfl (fun K' hK => ?_)
      refine step_append_lies _ (by rfl) _ _ _ (by rfl) (wl.heap.size + 1) 24 i0 _ 3 40 Tryd.underlying22 HI.out.1 HI.out.2.1 HI.out.2.2.1 HI.out.2.2.2 rfl (by omega) v j (kvs r A C j) (by rfl) HO.out.1 ⟨w2.heap.size, 0, none⟩ 1 1 [.int .i64 rr.kind, .int .i64 rr.num, .slice a3 rr.cnt c3] (by rfl) (by rfl) (World.news_of_block (cs := #[.int .i64 rr.kind, .int .i64 rr.num, .slice a3 rr.cnt c3]) (t := 24) (fr := (0, 0)) hUb) (trip_one _ _ _ _ _) (by omega) (by unfold maxLen; omega) (by omega) HKS.out (w2.heap.size + 1) HUs.out ?_
      intro gg gc w4 hown hgrow hat _
      have ckv := HGU.out.1.keep hgrow (Nat.le_refl _) bkv
      have csv := HGU.out.1.keep hgrow (Nat.le_of_lt HSB.out) bsv
      have cy1 := HGU.out.1.keep hgrow HB1.out by1
      have cy2 := HGU.out.1.keep hgrow HB1.out by2
      have cy3 := HGU.out.1.keep hgrow HB1.out by3
      have ct4 : Tri w4 wl.heap.size (.int .i64 oq) (.int .i64 (0 : Int)) v := (HGU.out.1.keepb hgrow (Nat.le_refl _)).trans HGU.out.2.2.2.2.1
      obtain ⟨-, -, -, cfz⟩ := tri_cells ct4
      have cr4 : Tri w4 (w.heap.size + 1) (.int .i64 0) (.int .i64 0) (.slice none 0 0) := (HGU.out.1.keepb hgrow (Nat.le_of_lt HRB.out)).trans HGU.out.2.2.2.1
      have cs4 : Tri w4 (w.heap.size + 1 + 1) (.int .i64 k) (.int .i64 n) (.slice (some ⟨b, o, none⟩) c cap2) := (HGU.out.1.keepb hgrow (Nat.le_of_lt HSB.out)).trans HGU.out.2.2.1
      have H4 : Hid (Below w.heap.size w (w4.setCell ⟨wl.heap.size, 2, none⟩ (.slice (some ⟨gg, 0, none⟩) (j + 1) gc)) ∧ Tri (w4.setCell ⟨wl.heap.size, 2, none⟩ (.slice (some ⟨gg, 0, none⟩) (j + 1) gc)) (w.heap.size + 1 + 1) (.int .i64 k) (.int .i64 n) (.slice (some ⟨b, o, none⟩) c cap2) ∧ Tri (w4.setCell ⟨wl.heap.size, 2, none⟩ (.slice (some ⟨gg, 0, none⟩) (j + 1) gc)) (w.heap.size + 1) (.int .i64 0) (.int .i64 0) (.slice none 0 0) ∧ Tri (w4.setCell ⟨wl.heap.size, 2, none⟩ (.slice (some ⟨gg, 0, none⟩) (j + 1) gc)) wl.heap.size (.int .i64 oq) (.int .i64 (0 : Int)) (.slice (some ⟨gg, 0, none⟩) (j + 1) gc) ∧ Gk (w4.setCell ⟨wl.heap.size, 2, none⟩ (.slice (some ⟨gg, 0, none⟩) (j + 1) gc)) wl.heap.size wl.heap.size (j + 1) r (.slice (some ⟨gg, 0, none⟩) (j + 1) gc)) := by
        have hrr := HRR.out
        rw [hrr] at hown
        have hkn := HGU.out.2.2.2.2.2
        rw [hrr] at hkn
        have hsb := HSB.out
        have hrb := HRB.out
        have hwg := HWG.out
        refine ⟨(HGU.out.2.1.trans ((HGU.out.1.low hgrow).mono (by omega))).setCell (show w.heap.size ≤ wl.heap.size by omega) _, (Go.Deep.blk_setCell_other _ _ _ _ (by show (w.heap.size + 1 + 1) ≠ wl.heap.size; omega)).trans cs4, (Go.Deep.blk_setCell_other _ _ _ _ (by show w.heap.size + 1 ≠ wl.heap.size; omega)).trans cr4, tri_set2 ct4 _, ?_⟩
        exact (Gk.step HGU.out.1 HO.out.2 hkn H2.out.2.2.2.2.2.2.2 H2.out.2.2.2.2.2.2.1 hgrow (by rw [HUs.out]; exact hat) hown).set 2 _
      refine hK.out _ _ (fun _ => ?_) (fun hS2 => ?_)
      · exact ⟨ckv, csv, cy1, cy2, cy3⟩
      have hHeld4 := hS2 rfl
      clear hK K' hS2 hHeld3
      (try simp only [Act.put, List.setIfInBounds_toArray, List.set_cons_zero, List.set_cons_succ])
      refine G_take (i := 11) (oi := { dst := some 77, op := Op.fieldAddr 24 (Operand.tmp 6) 2, type := 0, pos := _, after := #[{ on := 0, ground := Ground.phase }, { on := 1, ground := Ground.phase }, { on := 2, ground := Ground.phase }, { on := 3, ground := Ground.phase }, { on := 4, ground := Ground.phase }, { on := 5, ground := Ground.phase }, { on := 6, ground := Ground.phase }, { on := 7, ground := Ground.phase }, { on := 8, ground := Ground.phase }, { on := 9, ground := Ground.phase }, { on := 10, ground := Ground.phase }], guard := none }) (v := .pointer (some ⟨wl.heap.size, 2, none⟩)) rfl (by kernel_rfl) (by kernel_rfl) (by kernel_rfl) (by kernel_rfl) (fun _ _ _ h => h) (by rfl) (fun u hu => ?_) hHeld4 ?_
      · (try dsimp only at hu); go_simp
      (try simp only [Act.put, List.setIfInBounds_toArray, List.set_cons_zero, List.set_cons_succ])
      refine G_step (i := 12) (o := { dst := none, op := Op.store 22 (Operand.tmp 77) (Operand.tmp 76), type := 0, pos := _, after := #[{ on := 11, ground := Ground.data }, { on := 10, ground := Ground.data }, { on := 10, ground := Ground.chain }, { on := 0, ground := Ground.phase }, { on := 1, ground := Ground.phase }, { on := 2, ground := Ground.phase }, { on := 3, ground := Ground.phase }, { on := 4, ground := Ground.phase }, { on := 5, ground := Ground.phase }, { on := 6, ground := Ground.phase }, { on := 7, ground := Ground.phase }, { on := 8, ground := Ground.phase }, { on := 9, ground := Ground.phase }, { on := 10, ground := Ground.phase }], guard := none }) (by kernel_rfl) rfl (fun K' hK => ?_)
      go_simp
      refine hK.out _ _ (fun h => absurd h (by decide)) (fun _ => ?_)
      clear hK K' hHeld4
      (try simp only [Act.put, List.setIfInBounds_toArray, List.set_cons_zero, List.set_cons_succ])
      refine G_done (by kernel_rfl) ?_ _
      clear H2 HGU HO HKS hBU hUb HUs hown hgrow hat akv asv ay1 ay2 ay3 bkv bsv by1 by2 by3 ckv csv cy1 cy2 cy3 okv osv oy1 oy2 oy3 cfz ct4 cr4 cs4 HJ1 HJ HRR HB1
      go_wp2
      go_roundw
      case rel => exact ⟨j + 1, by omega, by go_num, _, H4⟩
      case measure => simp [intOf]; omega
    · obtain rfl : c = j := by omega
      obtain ⟨ka, kc, rfl, hKn⟩ := HJ.out.2.2.2.2.done2 HR.out
      obtain ⟨⟨f0, f1, f2⟩, -⟩ := tri_cells HJ.out.2.2.2.1
      have hT4 := HJ.out.2.2.1
      obtain ⟨⟨r0, r1, r2⟩, z0, z1, z2⟩ := tri_cells hT4
      have hlt2 := hT4.lt
      have H4 : Hid (Kn (wl.heap.size + 1) wr (mkn oq (0 : Int) c r) ka ∧ Below w.heap.size w wr ∧ Tri wr (w.heap.size + 1) (.int .i64 0) (.int .i64 0) (.slice none 0 0)) := ⟨hKn oq (0 : Int), HJ.out.1, hT4⟩
      have hlt3 := HJ.out.2.2.2.2.lt
      clear hKn HJ hT4
      go_wp2
      (try simp only [Exit.inBlock, Exit.then])
      refine bodyPost_ret (results_cell_row rfl _ _ (w.heap.size + 1) 24 #[.int .i64 oq, .int .i64 (0 : Int), .slice ka c kc] (0, 0) _ rfl (tri_set H4.out.2.2 _ _ _) Tryd.underlying24 rfl (by kernel_rfl)) rfl ?_
      have hwg := HWG.out
      have hrb := HRB.out
      exact ⟨ka, kc, rfl, kn_tri H4.out.1 (by omega) (by omega) _ _ _, below_tri H4.out.2.1 (by omega) _ _ _⟩

theorem refNots_any : ∀ (N : Nat) (t : Fml), sz t ≤ N → Wf t → Rn t := by
  intro N
  induction N with
  | zero =>
    intro t h
    have := sz_pos t
    omega
  | succ N ihN =>
    intro t hs hw a cap w ho hk
    have hq := fit_cases hw.out.1
    rw [nt_wfeq hw]
    unfold ntF
    by_cases h4 : t.kind = 4
    · rw [if_pos h4]
      have hw0 := hw.out.2 0 (by omega)
      have hq0 := fit_cases hw0.out.1
      have hs0 := sz_kid (t := t) (i := 0) (by omega)
      show Calls _ _ _ _ fun e w' => Nk w.heap.size w (nt (t.kid 0) true) e w'
      rw [nt_wfeq hw0]
      unfold ntF
      by_cases k4 : (t.kid 0).kind = 4
      · rw [if_pos k4]
        have hs1 := sz_kid (t := t.kid 0) (i := 0) (by omega)
        exact rn_notnot hw h4 k4 (ihN _ (by omega) (hw0.out.2 0 (by omega))) a cap w ho hk
      rw [if_neg k4, if_neg (by decide)]
      by_cases k3 : (t.kid 0).kind = 3
      · rw [if_pos k3]
        exact rn_atom hw h4 k3 a cap w ho hk
      · rw [if_neg k3]
        refine rn_not hw h4 ⟨k3, k4⟩ (fun i hi => ihN _ ?_ (wf_on (by omega) (hw0.out.2 i hi))) a cap w ho hk
        have := sz_kid (t := t.kid 0) (i := i) hi
        rw [sz_on]
        omega
    · rw [if_neg h4, if_pos rfl]
      exact rn_other hw h4 (fun i hi => ihN _ (by have := sz_kid (t := t) hi; omega) (hw.out.2 i hi)) a cap w ho hk

end Go.Proofs.YtinacgkiigbmjaaDoor
