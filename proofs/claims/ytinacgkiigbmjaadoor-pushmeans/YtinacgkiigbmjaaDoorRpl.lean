/- The document's Plain. -/
import Derived.Test.YtinacgkiigbmjaaDoorRnt
namespace Go.Proofs.YtinacgkiigbmjaaDoor
open Go.RowKit

/-- What the document's Plain answers of a formula. -/
def Rp (t : Fml) : Prop := ∀ (a : Option Addr) (cap : Nat) (w : World), Kds w t a → Calls Tryd.prog 12 #[.agg #[.int .i64 t.kind, .int .i64 t.num, .slice a t.cnt cap]] w fun e w' => Nk w.heap.size w (pn t) e w'

set_option maxHeartbeats 4000000 in
theorem rp_fin {t : Fml} (ih : ∀ i, i < t.cnt → Rp (t.kid i)) (hw : Wf t) (hK : t.kind = 10) (a : Option Addr) (cap : Nat) (w : World) (hk : Kds w t a) :
    Calls Tryd.prog 12 #[.agg #[.int .i64 t.kind, .int .i64 t.num, .slice a t.cnt cap]] w fun e w' => Nk w.heap.size w (tw 8 (nd 1 0) (pn (t.kid 0))) e w' := by
  have hq := fit_cases hw.out.1
  have t10 : (t.kind == 10) = true := by rw [hK]; rfl
  have t11 : (t.kind == 11) = false := by rw [hK]; rfl
  have hcc : t.cnt = 1 := by omega
  have HC1 := hid hcc
  obtain ⟨i0, hi, hz0, hz1, hz2⟩ := info_parts Tryd.info24
  have HI : Hid (Tryd.prog.info? 24 = some i0 ∧ i0.zero = some (.agg #[.int .i64 0, .int .i64 0, .slice none 0 0]) ∧ i0.size = 3 ∧ i0.bytes = 40) := ⟨hi, hz0, hz1, hz2⟩
  obtain ⟨r, hr⟩ : ∃ r : Nat → Fml, r = fun i => pn (t.kid i) := ⟨_, rfl⟩
  have hr0 : pn (t.kid 0) = r 0 := by rw [hr]
  rw [hr0]
  obtain ⟨b, o, ha, hkid⟩ := hk.out
  have HA := hid ha
  have HK : Hid (KidsAt w b o t.cnt t.kid) := hkid
  have HF : Hid (∀ i, i < t.cnt → ∀ (ai : Option Addr) (ci : Nat) (z : World), Below w.heap.size w z → Kds z (t.kid i) ai → Calls Tryd.prog 12 #[.agg #[.int .i64 (t.kid i).kind, .int .i64 (t.kid i).num, .slice ai (t.kid i).cnt ci]] z fun e w' => Nk z.heap.size z (r i) e w') := fun i hi ai ci z hz hkz => by rw [hr]; exact ih i hi ai ci z hkz
  have HR : Hid (∀ i, i < t.cnt → (r i).cnt ≤ 9223372036854775807) := fun i hi => by rw [hr]; exact wf_big (pn_wf _ (hw.out.2 i hi))
  have hc2 := wf_cnt hw
  obtain ⟨u, hu⟩ : ∃ y, y = (w.alloc (.cells #[.int .i64 t.kind, .int .i64 t.num, .slice a t.cnt cap] 24)).alloc (.cells #[.int .i64 0, .int .i64 0, .slice none 0 0] 24) := ⟨_, rfl⟩
  obtain ⟨hs, hB, hT1, hT2⟩ := two_new w _ _ _ _ hu
  have HU := hid hu
  clear ih hw hk ha hkid hi hz0 hz1 hz2 hr hr0 hq hK hcc
  generalize t.kid = kid at *
  generalize t.kind = k at *
  generalize t.num = n at *
  generalize t.cnt = c at *
  have HS : Hid (Below w.heap.size w u ∧ Tri u w.heap.size (.int .i64 k) (.int .i64 n) (.slice a c cap) ∧ Tri u (w.heap.size + 1) (.int .i64 0) (.int .i64 0) (.slice none 0 0) ∧ Gk u (w.heap.size + 1) (w.heap.size + 1) 0 r (.slice none 0 0)) := ⟨hB, hT1, hT2, Gk.start r (Nat.le_refl _) (by omega)⟩
  clear hu hs hB hT1 hT2
  go_enter Tryd.func12, Tryd.ntmps12
  go_wp2
  rw [← HU.out]
  clear HU
  go_loopw [3, 4] (fun v i wr => ∃ (j : Nat) (va : Option Addr) (vc : Nat), j ≤ c ∧ i = .int .i64 j ∧ v = .slice va j vc ∧ Hid (Below w.heap.size w wr ∧ Tri wr w.heap.size (.int .i64 k) (.int .i64 n) (.slice a c cap) ∧ Tri wr (w.heap.size + 1) (.int .i64 0) (.int .i64 0) (.slice none 0 0) ∧ Gk wr (w.heap.size + 1) (w.heap.size + 1) j r (.slice va j vc))) (fun _ i _ => c - (intOf i).toNat)
  case atStart => exact ⟨0, none, 0, Nat.zero_le _, rfl, rfl, HS⟩
  case round =>
    obtain ⟨j, va, vc, hj, rfl, rfl, HJ⟩ := hrel
    clear HS
    obtain ⟨sv0, sv1, sv⟩ := (tri_cells HJ.out.2.1).1
    by_cases hlt : j < c
    · obtain rfl := HA.out (by omega)
      obtain ⟨ai, ci, p1, p2, p3, p4, p5⟩ := HK.out j hlt
      have y1 := below_cell HJ.out.1 (Nat.le_refl _) p1
      have y2 := below_cell HJ.out.1 (Nat.le_refl _) p2
      have y3 := below_cell HJ.out.1 (Nat.le_refl _) p3
      have hjz : (j : Int) < c := by omega
      obtain ⟨kk, hkk⟩ : ∃ y, y = kid j := ⟨_, rfl⟩
      rw [← hkk] at y1 y2 y3
      obtain ⟨rr, hrr⟩ : ∃ y, y = r j := ⟨_, rfl⟩
      have HRR := hid hrr
      have C : Hid (Calls Tryd.prog 12 #[.agg #[.int .i64 kk.kind, .int .i64 kk.num, .slice ai kk.cnt ci]] wr fun e w' => Nk wr.heap.size wr rr e w') := by
        have := HF.out j hlt ai ci wr HJ.out.1 (p5.below HJ.out.1)
        rw [← hkk, ← hrr] at this
        exact this
      clear hkk hrr p1 p2 p3 p4 p5
      go_wp2_with fail
      refine C.out.mono ?_
      rintro e w2 ⟨a3, c3, rfl, hk3, hb3⟩
      obtain ⟨U, hU⟩ : ∃ y, y = w2.alloc (.cells #[.int .i64 rr.kind, .int .i64 rr.num, .slice a3 rr.cnt c3] 24) := ⟨_, rfl⟩
      have hBU : Below w2.heap.size w2 U := by rw [hU]; exact box_below _ _
      have hUb : U.heap[w2.heap.size]? = some (.cells #[.int .i64 rr.kind, .int .i64 rr.num, .slice a3 rr.cnt c3] 24) := by rw [hU]; exact Go.Deep.blk_alloc_new _ _
      have hbu := hb3.trans (hBU.mono hb3.size)
      have HGU : Hid (Gk U (w.heap.size + 1) (w.heap.size + 1) j r (.slice va j vc) ∧ Below w.heap.size w U ∧ Tri U w.heap.size (.int .i64 k) (.int .i64 n) (.slice (some ⟨b, o, none⟩) c cap) ∧ Tri U (w.heap.size + 1) (.int .i64 0) (.int .i64 0) (.slice none 0 0) ∧ Kn wr.heap.size U rr a3 ∧ (∀ g, (Value.slice va j vc).ownBlock = some g → g < wr.heap.size) ∧ w.heap.size + 1 < wr.heap.size) := ⟨HJ.out.2.2.2.below hbu, HJ.out.1.trans (hbu.mono HJ.out.1.size), HJ.out.2.1.below hbu, HJ.out.2.2.1.below hbu, hk3.below hBU, fun g hg => (HJ.out.2.2.2.own g hg).2, HJ.out.2.2.2.lt⟩
      obtain ⟨A, C, hown0, hA0⟩ := HGU.out.1.list
      have HO : Hid (U.ownsRow (w.heap.size + 1 + 1) 24 3 (.slice va j vc) j (kvs r A C j) ∧ ∀ i, i < j → Kds (lim (okB (w.heap.size + 1) (w.heap.size + 1) (.slice va j vc)) U) (r i) (A i)) := ⟨hown0, hA0⟩
      have HKS : Hid (w.heap.size + 1 + 1 ≤ U.heap.size) := HGU.out.1.lt
      have HUB := hid hUb
      have HUE := hid hU
      have hj2 : j ≤ 2 := by omega
      clear hown0 hA0 hU hBU hUb hbu hk3 hb3 y1 y2 y3
      clear HJ
      go_wp2_with (at_builtin; rw [← HUE.out]; refine wpList_append_own_at _ rfl _ _ 22 rfl (w.heap.size + 1 + 1) 24 i0 (.agg #[.int .i64 0, .int .i64 0, .slice none 0 0]) 3 40 Tryd.underlying22 HI.out.1 HI.out.2.1 HI.out.2.2.1 HI.out.2.2.2 rfl (by decide) (.slice va j vc) j (kvs r A C j) rfl HO.out.1 ⟨w2.heap.size, 0, none⟩ 1 1 [.int .i64 rr.kind, .int .i64 rr.num, .slice a3 rr.cnt c3] rfl rfl (World.news_of_block (cs := #[.int .i64 rr.kind, .int .i64 rr.num, .slice a3 rr.cnt c3]) (t := 24) (fr := (0, 0)) HUB.out) (trip_one _ _ _ _ _) (by unfold maxLen; omega) (by omega) HKS.out ?_; intro v' w4 hown hgrow _ hat)
      obtain ⟨gg, gc, rfl⟩ : ∃ gg gc, v' = .slice (some ⟨gg, 0, none⟩) (j + 1) gc := by
        rcases hown.2 with ⟨_, h0⟩ | ⟨g, cc, cur, h0, _⟩
        · omega
        · exact ⟨g, cc, h0⟩
      have H4 : Hid (Below w.heap.size w w4 ∧ Tri w4 w.heap.size (.int .i64 k) (.int .i64 n) (.slice (some ⟨b, o, none⟩) c cap) ∧ Tri w4 (w.heap.size + 1) (.int .i64 0) (.int .i64 0) (.slice none 0 0) ∧ Gk w4 (w.heap.size + 1) (w.heap.size + 1) (j + 1) r (.slice (some ⟨gg, 0, none⟩) (j + 1) gc)) := by
        have hrr := HRR.out
        rw [hrr] at hown
        have hkn := HGU.out.2.2.2.2.1
        rw [hrr] at hkn
        have hat2 : (Value.slice va j vc).ownBlock = some gg ∨ gg = U.heap.size := by
          rcases hat with hat | hat
          · exact Or.inl (by rw [← hat]; rfl)
          · exact Or.inr (by simpa [Value.ownBlock] using hat)
        exact ⟨HGU.out.2.1.trans ((HGU.out.1.low hgrow).mono (by omega)), (HGU.out.1.keepb hgrow (Nat.le_succ _)).trans HGU.out.2.2.1, (HGU.out.1.keepb hgrow (Nat.le_refl _)).trans HGU.out.2.2.2.1, Gk.step HGU.out.1 HO.out.2 hkn HGU.out.2.2.2.2.2.2 HGU.out.2.2.2.2.2.1 hgrow hat2 hown⟩
      clear hown hgrow hat HGU HO HKS HUB HUE HRR sv sv0 sv1
      (try go_wp2)
      go_roundw
      case rel => exact ⟨j + 1, some ⟨gg, 0, none⟩, gc, by omega, by go_num, rfl, H4⟩
      case measure => simp [intOf]; omega
    · obtain rfl : c = j := by omega
      obtain ⟨ka, kc, hv3, hKn⟩ := HJ.out.2.2.2.done2 HR.out
      cases hv3
      have hT4 := HJ.out.2.2.1
      obtain ⟨⟨r0, r1, r2⟩, z0, z1, z2⟩ := tri_cells hT4
      have hlt2 := hT4.lt
      have hlt3 := HJ.out.2.2.2.lt
      have hc1 := HC1.out
      obtain ⟨b3, o3, ha3, hkid3⟩ := (hKn 0 0).kid
      obtain rfl := ha3 (by show 0 < c; omega)
      obtain ⟨ai, ci, e1, e2, e3, e4, e5⟩ := hkid3 0 (by show 0 < c; omega)
      have h0c : 0 < c := by omega
      rw [mkn_kid h0c] at e1 e2 e3 e4 e5
      simp only [Nat.zero_mul, Nat.add_zero] at e1 e2 e3
      have hcz : (0 : Int) < c := by omega
      obtain ⟨p, hp⟩ : ∃ y, y = r 0 := ⟨_, rfl⟩
      rw [← hp] at e1 e2 e3 e4 e5
      have HP := hid hp
      have H4 : Hid (Kn (w.heap.size + 1 + 1) wr p ai ∧ Below w.heap.size w wr ∧ Tri wr (w.heap.size + 1) (.int .i64 0) (.int .i64 0) (.slice none 0 0) ∧ p.cnt ≤ 9223372036854775807) := ⟨e5, HJ.out.1, hT4, e4⟩
      clear hKn HJ hT4 ha3 hkid3 e4 e5 hp hc1 r0 r1 r2 z0 z1 z2
      go_wp2
      refine G_region (fun z => z.cell? ⟨b3, o3, none⟩ = some (.int .i64 p.kind) ∧ z.cell? ⟨b3, o3 + 1, none⟩ = some (.int .i64 p.num) ∧ z.cell? ⟨b3, o3 + 2, none⟩ = some (.slice ai p.cnt ci)) (fun j => j == 5) (by kernel_rfl) ⟨e1, e2, e3⟩ (fun hHeld => ?_)
      refine G_take (i := 1) (oi := { dst := some 25, op := Op.move (Operand.tmp 3), type := 22, pos := _, after := #[], guard := none }) (v := .slice (some ⟨b3, o3, none⟩) c vc) rfl (by kernel_rfl) (by kernel_rfl) (by kernel_rfl) (by kernel_rfl) (fun _ _ _ h => h) (by rfl) (fun u hu => ?_) hHeld ?_
      · (try dsimp only at hu); go_simp
      (try simp only [Act.put, List.setIfInBounds_toArray, List.set_cons_zero, List.set_cons_succ])
      refine G_take (i := 2) (oi := { dst := some 26, op := Op.indexAddr 22 (Operand.tmp 25) (Operand.const (Value.int IntKind.i64 0)), type := 0, pos := _, after := #[{ on := 1, ground := Ground.data }], guard := none }) (v := .pointer (some ⟨b3, o3, none⟩)) rfl (by kernel_rfl) (by kernel_rfl) (by kernel_rfl) (by kernel_rfl) (fun _ _ _ h => h) (by rfl) (fun u hu => ?_) hHeld ?_
      · (try dsimp only at hu); go_simp
      (try simp only [Act.put, List.setIfInBounds_toArray, List.set_cons_zero, List.set_cons_succ])
      refine G_take (i := 3) (oi := { dst := some 27, op := Op.load 24 (Operand.tmp 26), type := 24, pos := _, after := #[{ on := 2, ground := Ground.data }], guard := none }) (v := .agg #[.int .i64 p.kind, .int .i64 p.num, .slice ai p.cnt ci]) rfl (by kernel_rfl) (by kernel_rfl) (by kernel_rfl) (by kernel_rfl) (fun _ _ _ h => h) (by rfl) (fun u hu => ?_) hHeld ?_
      · (try dsimp only at hu); go_simp
      (try simp only [Act.put, List.setIfInBounds_toArray, List.set_cons_zero, List.set_cons_succ])
      refine G_step (i := 0) (o := { dst := some 24, op := Op.call { callee := Callee.value (Operand.func 30), args := #[Operand.const (Value.int IntKind.i64 1), Operand.const (Value.int IntKind.i64 0)], argTypes := #[3, 3] }, type := 24, pos := _, after := #[], guard := none }) (by kernel_rfl) rfl (fun K' hK => ?_)
      go_simp
      go_at_call 30
      refine (leaf_g 1 0 _).mono ?_
      rintro e w5 ⟨rfl, hb5⟩
      dsimp only
      have hb5 := below_of_drew hb5
      refine hK.out _ _ (fun _ => ?_) (fun hS2 => ?_)
      · exact ⟨below_cell hb5 (Nat.le_refl _) e1, below_cell hb5 (Nat.le_refl _) e2, below_cell hb5 (Nat.le_refl _) e3⟩
      have hHeld2 := hS2 rfl
      clear hK K' hS2 hHeld
      (try simp only [Act.put, List.setIfInBounds_toArray, List.set_cons_zero, List.set_cons_succ])
      have C5 : Hid (Calls Tryd.prog 32 #[.int .i64 8, .agg #[.int .i64 1, .int .i64 0, .slice none 0 0], .agg #[.int .i64 p.kind, .int .i64 p.num, .slice ai p.cnt ci]] w5 fun e w' => Nk (w.heap.size + 1 + 1) w5 (tw 8 (nd 1 0) p) e w') := two32_f (B := w.heap.size + 1 + 1) 8 (nd 1 0) none 0 p ai ci w5 (by have := hb5.size; omega) (Kn.nd _ _ _) (Nat.zero_le _) (H4.out.1.below hb5) H4.out.2.2.2
      obtain ⟨m, hm⟩ : ∃ y, y = tw 8 (nd 1 0) p := ⟨_, rfl⟩
      have HM := hid hm
      rw [← hm] at C5
      have HB5 := hid hb5
      clear hm hb5
      refine G_step (i := 4) (o := { dst := some 28, op := Op.call { callee := Callee.value (Operand.func 32), args := #[Operand.const (Value.int IntKind.i64 8), Operand.tmp 24, Operand.tmp 27], argTypes := #[3, 24, 24] }, type := 24, pos := _, after := #[{ on := 0, ground := Ground.data }, { on := 3, ground := Ground.data }, { on := 0, ground := Ground.chain }], guard := none }) (by kernel_rfl) rfl (fun K' hK => ?_)
      go_simp
      go_at_call 32
      refine C5.out.mono ?_
      rintro e w6 ⟨a3, c3, rfl, hk3, hb6⟩
      dsimp only
      have hb6u := HB5.out.trans (hb6.mono HB5.out.size)
      refine hK.out _ _ (fun _ => ?_) (fun hS2 => ?_)
      · exact ⟨below_cell hb6u (Nat.le_refl _) e1, below_cell hb6u (Nat.le_refl _) e2, below_cell hb6u (Nat.le_refl _) e3⟩
      clear hK K' hS2 hHeld2
      (try simp only [Act.put, List.setIfInBounds_toArray, List.set_cons_zero, List.set_cons_succ])
      have hT6 := H4.out.2.2.1.below hb6u
      have H3 : Hid (Kn (w.heap.size + 1 + 1) w6 m a3 ∧ Below w.heap.size w w6 ∧ Tri w6 (w.heap.size + 1) (.int .i64 0) (.int .i64 0) (.slice none 0 0)) := ⟨hk3, H4.out.2.1.trans (hb6u.mono H4.out.2.1.size), hT6⟩
      obtain ⟨⟨r0, r1, r2⟩, z0, z1, z2⟩ := tri_cells hT6
      have hlt6 := hT6.lt
      clear hk3 hb6 hb6u hT6 C5 HB5
      refine G_step (i := 5) (o := { dst := none, op := Op.store 24 (Operand.tmp 2) (Operand.tmp 28), type := 0, pos := _, after := #[{ on := 4, ground := Ground.data }, { on := 4, ground := Ground.chain }, { on := 0, ground := Ground.phase }, { on := 1, ground := Ground.phase }, { on := 2, ground := Ground.phase }, { on := 3, ground := Ground.phase }, { on := 4, ground := Ground.phase }], guard := none }) (by kernel_rfl) rfl (fun K' hK => ?_)
      go_simp
      refine hK.out _ _ (fun h => absurd h (by decide)) (fun _ => ?_)
      clear hK K'
      (try simp only [Act.put, List.setIfInBounds_toArray, List.set_cons_zero, List.set_cons_succ])
      refine G_done (by kernel_rfl) ?_ _
      clear e1 e2 e3
      go_wp2
      (try simp only [Exit.inBlock, Exit.then])
      refine bodyPost_ret (results_cell_row rfl _ _ (w.heap.size + 1) 24 #[.int .i64 m.kind, .int .i64 m.num, .slice a3 m.cnt c3] (0, 0) _ rfl (tri_set H3.out.2.2 _ _ _) Tryd.underlying24 rfl (by kernel_rfl)) rfl ?_
      rw [← HP.out, ← HM.out]
      exact ⟨a3, c3, rfl, kn_tri H3.out.1 (by omega) (by omega) _ _ _, below_tri H3.out.2.1 (by omega) _ _ _⟩

set_option maxHeartbeats 4000000 in
theorem rp_glo {t : Fml} (ih : ∀ i, i < t.cnt → Rp (t.kid i)) (hw : Wf t) (hK : t.kind = 11) (a : Option Addr) (cap : Nat) (w : World) (hk : Kds w t a) :
    Calls Tryd.prog 12 #[.agg #[.int .i64 t.kind, .int .i64 t.num, .slice a t.cnt cap]] w fun e w' => Nk w.heap.size w (tw 9 (nd 2 0) (pn (t.kid 0))) e w' := by
  have hq := fit_cases hw.out.1
  have t10 : (t.kind == 10) = false := by rw [hK]; rfl
  have t11 : (t.kind == 11) = true := by rw [hK]; rfl
  have hcc : t.cnt = 1 := by omega
  have HC1 := hid hcc
  obtain ⟨i0, hi, hz0, hz1, hz2⟩ := info_parts Tryd.info24
  have HI : Hid (Tryd.prog.info? 24 = some i0 ∧ i0.zero = some (.agg #[.int .i64 0, .int .i64 0, .slice none 0 0]) ∧ i0.size = 3 ∧ i0.bytes = 40) := ⟨hi, hz0, hz1, hz2⟩
  obtain ⟨r, hr⟩ : ∃ r : Nat → Fml, r = fun i => pn (t.kid i) := ⟨_, rfl⟩
  have hr0 : pn (t.kid 0) = r 0 := by rw [hr]
  rw [hr0]
  obtain ⟨b, o, ha, hkid⟩ := hk.out
  have HA := hid ha
  have HK : Hid (KidsAt w b o t.cnt t.kid) := hkid
  have HF : Hid (∀ i, i < t.cnt → ∀ (ai : Option Addr) (ci : Nat) (z : World), Below w.heap.size w z → Kds z (t.kid i) ai → Calls Tryd.prog 12 #[.agg #[.int .i64 (t.kid i).kind, .int .i64 (t.kid i).num, .slice ai (t.kid i).cnt ci]] z fun e w' => Nk z.heap.size z (r i) e w') := fun i hi ai ci z hz hkz => by rw [hr]; exact ih i hi ai ci z hkz
  have HR : Hid (∀ i, i < t.cnt → (r i).cnt ≤ 9223372036854775807) := fun i hi => by rw [hr]; exact wf_big (pn_wf _ (hw.out.2 i hi))
  have hc2 := wf_cnt hw
  obtain ⟨u, hu⟩ : ∃ y, y = (w.alloc (.cells #[.int .i64 t.kind, .int .i64 t.num, .slice a t.cnt cap] 24)).alloc (.cells #[.int .i64 0, .int .i64 0, .slice none 0 0] 24) := ⟨_, rfl⟩
  obtain ⟨hs, hB, hT1, hT2⟩ := two_new w _ _ _ _ hu
  have HU := hid hu
  clear ih hw hk ha hkid hi hz0 hz1 hz2 hr hr0 hq hK hcc
  generalize t.kid = kid at *
  generalize t.kind = k at *
  generalize t.num = n at *
  generalize t.cnt = c at *
  have HS : Hid (Below w.heap.size w u ∧ Tri u w.heap.size (.int .i64 k) (.int .i64 n) (.slice a c cap) ∧ Tri u (w.heap.size + 1) (.int .i64 0) (.int .i64 0) (.slice none 0 0) ∧ Gk u (w.heap.size + 1) (w.heap.size + 1) 0 r (.slice none 0 0)) := ⟨hB, hT1, hT2, Gk.start r (Nat.le_refl _) (by omega)⟩
  clear hu hs hB hT1 hT2
  go_enter Tryd.func12, Tryd.ntmps12
  go_wp2
  rw [← HU.out]
  clear HU
  go_loopw [3, 4] (fun v i wr => ∃ (j : Nat) (va : Option Addr) (vc : Nat), j ≤ c ∧ i = .int .i64 j ∧ v = .slice va j vc ∧ Hid (Below w.heap.size w wr ∧ Tri wr w.heap.size (.int .i64 k) (.int .i64 n) (.slice a c cap) ∧ Tri wr (w.heap.size + 1) (.int .i64 0) (.int .i64 0) (.slice none 0 0) ∧ Gk wr (w.heap.size + 1) (w.heap.size + 1) j r (.slice va j vc))) (fun _ i _ => c - (intOf i).toNat)
  case atStart => exact ⟨0, none, 0, Nat.zero_le _, rfl, rfl, HS⟩
  case round =>
    obtain ⟨j, va, vc, hj, rfl, rfl, HJ⟩ := hrel
    clear HS
    obtain ⟨sv0, sv1, sv⟩ := (tri_cells HJ.out.2.1).1
    by_cases hlt : j < c
    · obtain rfl := HA.out (by omega)
      obtain ⟨ai, ci, p1, p2, p3, p4, p5⟩ := HK.out j hlt
      have y1 := below_cell HJ.out.1 (Nat.le_refl _) p1
      have y2 := below_cell HJ.out.1 (Nat.le_refl _) p2
      have y3 := below_cell HJ.out.1 (Nat.le_refl _) p3
      have hjz : (j : Int) < c := by omega
      obtain ⟨kk, hkk⟩ : ∃ y, y = kid j := ⟨_, rfl⟩
      rw [← hkk] at y1 y2 y3
      obtain ⟨rr, hrr⟩ : ∃ y, y = r j := ⟨_, rfl⟩
      have HRR := hid hrr
      have C : Hid (Calls Tryd.prog 12 #[.agg #[.int .i64 kk.kind, .int .i64 kk.num, .slice ai kk.cnt ci]] wr fun e w' => Nk wr.heap.size wr rr e w') := by
        have := HF.out j hlt ai ci wr HJ.out.1 (p5.below HJ.out.1)
        rw [← hkk, ← hrr] at this
        exact this
      clear hkk hrr p1 p2 p3 p4 p5
      go_wp2_with fail
      refine C.out.mono ?_
      rintro e w2 ⟨a3, c3, rfl, hk3, hb3⟩
      obtain ⟨U, hU⟩ : ∃ y, y = w2.alloc (.cells #[.int .i64 rr.kind, .int .i64 rr.num, .slice a3 rr.cnt c3] 24) := ⟨_, rfl⟩
      have hBU : Below w2.heap.size w2 U := by rw [hU]; exact box_below _ _
      have hUb : U.heap[w2.heap.size]? = some (.cells #[.int .i64 rr.kind, .int .i64 rr.num, .slice a3 rr.cnt c3] 24) := by rw [hU]; exact Go.Deep.blk_alloc_new _ _
      have hbu := hb3.trans (hBU.mono hb3.size)
      have HGU : Hid (Gk U (w.heap.size + 1) (w.heap.size + 1) j r (.slice va j vc) ∧ Below w.heap.size w U ∧ Tri U w.heap.size (.int .i64 k) (.int .i64 n) (.slice (some ⟨b, o, none⟩) c cap) ∧ Tri U (w.heap.size + 1) (.int .i64 0) (.int .i64 0) (.slice none 0 0) ∧ Kn wr.heap.size U rr a3 ∧ (∀ g, (Value.slice va j vc).ownBlock = some g → g < wr.heap.size) ∧ w.heap.size + 1 < wr.heap.size) := ⟨HJ.out.2.2.2.below hbu, HJ.out.1.trans (hbu.mono HJ.out.1.size), HJ.out.2.1.below hbu, HJ.out.2.2.1.below hbu, hk3.below hBU, fun g hg => (HJ.out.2.2.2.own g hg).2, HJ.out.2.2.2.lt⟩
      obtain ⟨A, C, hown0, hA0⟩ := HGU.out.1.list
      have HO : Hid (U.ownsRow (w.heap.size + 1 + 1) 24 3 (.slice va j vc) j (kvs r A C j) ∧ ∀ i, i < j → Kds (lim (okB (w.heap.size + 1) (w.heap.size + 1) (.slice va j vc)) U) (r i) (A i)) := ⟨hown0, hA0⟩
      have HKS : Hid (w.heap.size + 1 + 1 ≤ U.heap.size) := HGU.out.1.lt
      have HUB := hid hUb
      have HUE := hid hU
      have hj2 : j ≤ 2 := by omega
      clear hown0 hA0 hU hBU hUb hbu hk3 hb3 y1 y2 y3
      clear HJ
      go_wp2_with (at_builtin; rw [← HUE.out]; refine wpList_append_own_at _ rfl _ _ 22 rfl (w.heap.size + 1 + 1) 24 i0 (.agg #[.int .i64 0, .int .i64 0, .slice none 0 0]) 3 40 Tryd.underlying22 HI.out.1 HI.out.2.1 HI.out.2.2.1 HI.out.2.2.2 rfl (by decide) (.slice va j vc) j (kvs r A C j) rfl HO.out.1 ⟨w2.heap.size, 0, none⟩ 1 1 [.int .i64 rr.kind, .int .i64 rr.num, .slice a3 rr.cnt c3] rfl rfl (World.news_of_block (cs := #[.int .i64 rr.kind, .int .i64 rr.num, .slice a3 rr.cnt c3]) (t := 24) (fr := (0, 0)) HUB.out) (trip_one _ _ _ _ _) (by unfold maxLen; omega) (by omega) HKS.out ?_; intro v' w4 hown hgrow _ hat)
      obtain ⟨gg, gc, rfl⟩ : ∃ gg gc, v' = .slice (some ⟨gg, 0, none⟩) (j + 1) gc := by
        rcases hown.2 with ⟨_, h0⟩ | ⟨g, cc, cur, h0, _⟩
        · omega
        · exact ⟨g, cc, h0⟩
      have H4 : Hid (Below w.heap.size w w4 ∧ Tri w4 w.heap.size (.int .i64 k) (.int .i64 n) (.slice (some ⟨b, o, none⟩) c cap) ∧ Tri w4 (w.heap.size + 1) (.int .i64 0) (.int .i64 0) (.slice none 0 0) ∧ Gk w4 (w.heap.size + 1) (w.heap.size + 1) (j + 1) r (.slice (some ⟨gg, 0, none⟩) (j + 1) gc)) := by
        have hrr := HRR.out
        rw [hrr] at hown
        have hkn := HGU.out.2.2.2.2.1
        rw [hrr] at hkn
        have hat2 : (Value.slice va j vc).ownBlock = some gg ∨ gg = U.heap.size := by
          rcases hat with hat | hat
          · exact Or.inl (by rw [← hat]; rfl)
          · exact Or.inr (by simpa [Value.ownBlock] using hat)
        exact ⟨HGU.out.2.1.trans ((HGU.out.1.low hgrow).mono (by omega)), (HGU.out.1.keepb hgrow (Nat.le_succ _)).trans HGU.out.2.2.1, (HGU.out.1.keepb hgrow (Nat.le_refl _)).trans HGU.out.2.2.2.1, Gk.step HGU.out.1 HO.out.2 hkn HGU.out.2.2.2.2.2.2 HGU.out.2.2.2.2.2.1 hgrow hat2 hown⟩
      clear hown hgrow hat HGU HO HKS HUB HUE HRR sv sv0 sv1
      (try go_wp2)
      go_roundw
      case rel => exact ⟨j + 1, some ⟨gg, 0, none⟩, gc, by omega, by go_num, rfl, H4⟩
      case measure => simp [intOf]; omega
    · obtain rfl : c = j := by omega
      obtain ⟨ka, kc, hv3, hKn⟩ := HJ.out.2.2.2.done2 HR.out
      cases hv3
      have hT4 := HJ.out.2.2.1
      obtain ⟨⟨r0, r1, r2⟩, z0, z1, z2⟩ := tri_cells hT4
      have hlt2 := hT4.lt
      have hlt3 := HJ.out.2.2.2.lt
      have hc1 := HC1.out
      obtain ⟨b3, o3, ha3, hkid3⟩ := (hKn 0 0).kid
      obtain rfl := ha3 (by show 0 < c; omega)
      obtain ⟨ai, ci, e1, e2, e3, e4, e5⟩ := hkid3 0 (by show 0 < c; omega)
      have h0c : 0 < c := by omega
      rw [mkn_kid h0c] at e1 e2 e3 e4 e5
      simp only [Nat.zero_mul, Nat.add_zero] at e1 e2 e3
      have hcz : (0 : Int) < c := by omega
      obtain ⟨p, hp⟩ : ∃ y, y = r 0 := ⟨_, rfl⟩
      rw [← hp] at e1 e2 e3 e4 e5
      have HP := hid hp
      have H4 : Hid (Kn (w.heap.size + 1 + 1) wr p ai ∧ Below w.heap.size w wr ∧ Tri wr (w.heap.size + 1) (.int .i64 0) (.int .i64 0) (.slice none 0 0) ∧ p.cnt ≤ 9223372036854775807) := ⟨e5, HJ.out.1, hT4, e4⟩
      clear hKn HJ hT4 ha3 hkid3 e4 e5 hp hc1 r0 r1 r2 z0 z1 z2
      go_wp2
      refine G_region (fun z => z.cell? ⟨b3, o3, none⟩ = some (.int .i64 p.kind) ∧ z.cell? ⟨b3, o3 + 1, none⟩ = some (.int .i64 p.num) ∧ z.cell? ⟨b3, o3 + 2, none⟩ = some (.slice ai p.cnt ci)) (fun j => j == 5) (by kernel_rfl) ⟨e1, e2, e3⟩ (fun hHeld => ?_)
      refine G_take (i := 1) (oi := { dst := some 33, op := Op.move (Operand.tmp 3), type := 22, pos := _, after := #[], guard := none }) (v := .slice (some ⟨b3, o3, none⟩) c vc) rfl (by kernel_rfl) (by kernel_rfl) (by kernel_rfl) (by kernel_rfl) (fun _ _ _ h => h) (by rfl) (fun u hu => ?_) hHeld ?_
      · (try dsimp only at hu); go_simp
      (try simp only [Act.put, List.setIfInBounds_toArray, List.set_cons_zero, List.set_cons_succ])
      refine G_take (i := 2) (oi := { dst := some 34, op := Op.indexAddr 22 (Operand.tmp 33) (Operand.const (Value.int IntKind.i64 0)), type := 0, pos := _, after := #[{ on := 1, ground := Ground.data }], guard := none }) (v := .pointer (some ⟨b3, o3, none⟩)) rfl (by kernel_rfl) (by kernel_rfl) (by kernel_rfl) (by kernel_rfl) (fun _ _ _ h => h) (by rfl) (fun u hu => ?_) hHeld ?_
      · (try dsimp only at hu); go_simp
      (try simp only [Act.put, List.setIfInBounds_toArray, List.set_cons_zero, List.set_cons_succ])
      refine G_take (i := 3) (oi := { dst := some 35, op := Op.load 24 (Operand.tmp 34), type := 24, pos := _, after := #[{ on := 2, ground := Ground.data }], guard := none }) (v := .agg #[.int .i64 p.kind, .int .i64 p.num, .slice ai p.cnt ci]) rfl (by kernel_rfl) (by kernel_rfl) (by kernel_rfl) (by kernel_rfl) (fun _ _ _ h => h) (by rfl) (fun u hu => ?_) hHeld ?_
      · (try dsimp only at hu); go_simp
      (try simp only [Act.put, List.setIfInBounds_toArray, List.set_cons_zero, List.set_cons_succ])
      refine G_step (i := 0) (o := { dst := some 32, op := Op.call { callee := Callee.value (Operand.func 30), args := #[Operand.const (Value.int IntKind.i64 2), Operand.const (Value.int IntKind.i64 0)], argTypes := #[3, 3] }, type := 24, pos := _, after := #[], guard := none }) (by kernel_rfl) rfl (fun K' hK => ?_)
      go_simp
      go_at_call 30
      refine (leaf_g 2 0 _).mono ?_
      rintro e w5 ⟨rfl, hb5⟩
      dsimp only
      have hb5 := below_of_drew hb5
      refine hK.out _ _ (fun _ => ?_) (fun hS2 => ?_)
      · exact ⟨below_cell hb5 (Nat.le_refl _) e1, below_cell hb5 (Nat.le_refl _) e2, below_cell hb5 (Nat.le_refl _) e3⟩
      have hHeld2 := hS2 rfl
      clear hK K' hS2 hHeld
      (try simp only [Act.put, List.setIfInBounds_toArray, List.set_cons_zero, List.set_cons_succ])
      have C5 : Hid (Calls Tryd.prog 32 #[.int .i64 9, .agg #[.int .i64 2, .int .i64 0, .slice none 0 0], .agg #[.int .i64 p.kind, .int .i64 p.num, .slice ai p.cnt ci]] w5 fun e w' => Nk (w.heap.size + 1 + 1) w5 (tw 9 (nd 2 0) p) e w') := two32_f (B := w.heap.size + 1 + 1) 9 (nd 2 0) none 0 p ai ci w5 (by have := hb5.size; omega) (Kn.nd _ _ _) (Nat.zero_le _) (H4.out.1.below hb5) H4.out.2.2.2
      obtain ⟨m, hm⟩ : ∃ y, y = tw 9 (nd 2 0) p := ⟨_, rfl⟩
      have HM := hid hm
      rw [← hm] at C5
      have HB5 := hid hb5
      clear hm hb5
      refine G_step (i := 4) (o := { dst := some 36, op := Op.call { callee := Callee.value (Operand.func 32), args := #[Operand.const (Value.int IntKind.i64 9), Operand.tmp 32, Operand.tmp 35], argTypes := #[3, 24, 24] }, type := 24, pos := _, after := #[{ on := 0, ground := Ground.data }, { on := 3, ground := Ground.data }, { on := 0, ground := Ground.chain }], guard := none }) (by kernel_rfl) rfl (fun K' hK => ?_)
      go_simp
      go_at_call 32
      refine C5.out.mono ?_
      rintro e w6 ⟨a3, c3, rfl, hk3, hb6⟩
      dsimp only
      have hb6u := HB5.out.trans (hb6.mono HB5.out.size)
      refine hK.out _ _ (fun _ => ?_) (fun hS2 => ?_)
      · exact ⟨below_cell hb6u (Nat.le_refl _) e1, below_cell hb6u (Nat.le_refl _) e2, below_cell hb6u (Nat.le_refl _) e3⟩
      clear hK K' hS2 hHeld2
      (try simp only [Act.put, List.setIfInBounds_toArray, List.set_cons_zero, List.set_cons_succ])
      have hT6 := H4.out.2.2.1.below hb6u
      have H3 : Hid (Kn (w.heap.size + 1 + 1) w6 m a3 ∧ Below w.heap.size w w6 ∧ Tri w6 (w.heap.size + 1) (.int .i64 0) (.int .i64 0) (.slice none 0 0)) := ⟨hk3, H4.out.2.1.trans (hb6u.mono H4.out.2.1.size), hT6⟩
      obtain ⟨⟨r0, r1, r2⟩, z0, z1, z2⟩ := tri_cells hT6
      have hlt6 := hT6.lt
      clear hk3 hb6 hb6u hT6 C5 HB5
      refine G_step (i := 5) (o := { dst := none, op := Op.store 24 (Operand.tmp 2) (Operand.tmp 36), type := 0, pos := _, after := #[{ on := 4, ground := Ground.data }, { on := 4, ground := Ground.chain }, { on := 0, ground := Ground.phase }, { on := 1, ground := Ground.phase }, { on := 2, ground := Ground.phase }, { on := 3, ground := Ground.phase }, { on := 4, ground := Ground.phase }], guard := none }) (by kernel_rfl) rfl (fun K' hK => ?_)
      go_simp
      refine hK.out _ _ (fun h => absurd h (by decide)) (fun _ => ?_)
      clear hK K'
      (try simp only [Act.put, List.setIfInBounds_toArray, List.set_cons_zero, List.set_cons_succ])
      refine G_done (by kernel_rfl) ?_ _
      clear e1 e2 e3
      go_wp2
      (try simp only [Exit.inBlock, Exit.then])
      refine bodyPost_ret (results_cell_row rfl _ _ (w.heap.size + 1) 24 #[.int .i64 m.kind, .int .i64 m.num, .slice a3 m.cnt c3] (0, 0) _ rfl (tri_set H3.out.2.2 _ _ _) Tryd.underlying24 rfl (by kernel_rfl)) rfl ?_
      rw [← HP.out, ← HM.out]
      exact ⟨a3, c3, rfl, kn_tri H3.out.1 (by omega) (by omega) _ _ _, below_tri H3.out.2.1 (by omega) _ _ _⟩

set_option maxHeartbeats 4000000 in
theorem rp_oth {t : Fml} (ih : ∀ i, i < t.cnt → Rp (t.kid i)) (hw : Wf t) (h10 : t.kind ≠ 10) (h11 : t.kind ≠ 11) (a : Option Addr) (cap : Nat) (w : World) (hk : Kds w t a) :
    Calls Tryd.prog 12 #[.agg #[.int .i64 t.kind, .int .i64 t.num, .slice a t.cnt cap]] w fun e w' => Nk w.heap.size w (mkn t.kind t.num t.cnt (fun i => pn (t.kid i))) e w' := by
  have hq := fit_cases hw.out.1
  have t10 : (t.kind == 10) = false := beq_eq_false_iff_ne.2 h10
  have t11 : (t.kind == 11) = false := beq_eq_false_iff_ne.2 h11
  obtain ⟨i0, hi, hz0, hz1, hz2⟩ := info_parts Tryd.info24
  have HI : Hid (Tryd.prog.info? 24 = some i0 ∧ i0.zero = some (.agg #[.int .i64 0, .int .i64 0, .slice none 0 0]) ∧ i0.size = 3 ∧ i0.bytes = 40) := ⟨hi, hz0, hz1, hz2⟩
  obtain ⟨r, hr⟩ : ∃ r : Nat → Fml, r = fun i => pn (t.kid i) := ⟨_, rfl⟩
  have hr0 : pn (t.kid 0) = r 0 := by rw [hr]
  rw [← hr]
  obtain ⟨b, o, ha, hkid⟩ := hk.out
  have HA := hid ha
  have HK : Hid (KidsAt w b o t.cnt t.kid) := hkid
  have HF : Hid (∀ i, i < t.cnt → ∀ (ai : Option Addr) (ci : Nat) (z : World), Below w.heap.size w z → Kds z (t.kid i) ai → Calls Tryd.prog 12 #[.agg #[.int .i64 (t.kid i).kind, .int .i64 (t.kid i).num, .slice ai (t.kid i).cnt ci]] z fun e w' => Nk z.heap.size z (r i) e w') := fun i hi ai ci z hz hkz => by rw [hr]; exact ih i hi ai ci z hkz
  have HR : Hid (∀ i, i < t.cnt → (r i).cnt ≤ 9223372036854775807) := fun i hi => by rw [hr]; exact wf_big (pn_wf _ (hw.out.2 i hi))
  have hc2 := wf_cnt hw
  obtain ⟨u, hu⟩ : ∃ y, y = (w.alloc (.cells #[.int .i64 t.kind, .int .i64 t.num, .slice a t.cnt cap] 24)).alloc (.cells #[.int .i64 0, .int .i64 0, .slice none 0 0] 24) := ⟨_, rfl⟩
  obtain ⟨hs, hB, hT1, hT2⟩ := two_new w _ _ _ _ hu
  have HU := hid hu
  clear ih hw hk ha hkid hi hz0 hz1 hz2 hr hr0 hq h10 h11
  generalize t.kid = kid at *
  generalize t.kind = k at *
  generalize t.num = n at *
  generalize t.cnt = c at *
  have HS : Hid (Below w.heap.size w u ∧ Tri u w.heap.size (.int .i64 k) (.int .i64 n) (.slice a c cap) ∧ Tri u (w.heap.size + 1) (.int .i64 0) (.int .i64 0) (.slice none 0 0) ∧ Gk u (w.heap.size + 1) (w.heap.size + 1) 0 r (.slice none 0 0)) := ⟨hB, hT1, hT2, Gk.start r (Nat.le_refl _) (by omega)⟩
  clear hu hs hB hT1 hT2
  go_enter Tryd.func12, Tryd.ntmps12
  go_wp2
  rw [← HU.out]
  clear HU
  go_loopw [3, 4] (fun v i wr => ∃ (j : Nat) (va : Option Addr) (vc : Nat), j ≤ c ∧ i = .int .i64 j ∧ v = .slice va j vc ∧ Hid (Below w.heap.size w wr ∧ Tri wr w.heap.size (.int .i64 k) (.int .i64 n) (.slice a c cap) ∧ Tri wr (w.heap.size + 1) (.int .i64 0) (.int .i64 0) (.slice none 0 0) ∧ Gk wr (w.heap.size + 1) (w.heap.size + 1) j r (.slice va j vc))) (fun _ i _ => c - (intOf i).toNat)
  case atStart => exact ⟨0, none, 0, Nat.zero_le _, rfl, rfl, HS⟩
  case round =>
    obtain ⟨j, va, vc, hj, rfl, rfl, HJ⟩ := hrel
    clear HS
    obtain ⟨sv0, sv1, sv⟩ := (tri_cells HJ.out.2.1).1
    by_cases hlt : j < c
    · obtain rfl := HA.out (by omega)
      obtain ⟨ai, ci, p1, p2, p3, p4, p5⟩ := HK.out j hlt
      have y1 := below_cell HJ.out.1 (Nat.le_refl _) p1
      have y2 := below_cell HJ.out.1 (Nat.le_refl _) p2
      have y3 := below_cell HJ.out.1 (Nat.le_refl _) p3
      have hjz : (j : Int) < c := by omega
      obtain ⟨kk, hkk⟩ : ∃ y, y = kid j := ⟨_, rfl⟩
      rw [← hkk] at y1 y2 y3
      obtain ⟨rr, hrr⟩ : ∃ y, y = r j := ⟨_, rfl⟩
      have HRR := hid hrr
      have C : Hid (Calls Tryd.prog 12 #[.agg #[.int .i64 kk.kind, .int .i64 kk.num, .slice ai kk.cnt ci]] wr fun e w' => Nk wr.heap.size wr rr e w') := by
        have := HF.out j hlt ai ci wr HJ.out.1 (p5.below HJ.out.1)
        rw [← hkk, ← hrr] at this
        exact this
      clear hkk hrr p1 p2 p3 p4 p5
      go_wp2_with fail
      refine C.out.mono ?_
      rintro e w2 ⟨a3, c3, rfl, hk3, hb3⟩
      obtain ⟨U, hU⟩ : ∃ y, y = w2.alloc (.cells #[.int .i64 rr.kind, .int .i64 rr.num, .slice a3 rr.cnt c3] 24) := ⟨_, rfl⟩
      have hBU : Below w2.heap.size w2 U := by rw [hU]; exact box_below _ _
      have hUb : U.heap[w2.heap.size]? = some (.cells #[.int .i64 rr.kind, .int .i64 rr.num, .slice a3 rr.cnt c3] 24) := by rw [hU]; exact Go.Deep.blk_alloc_new _ _
      have hbu := hb3.trans (hBU.mono hb3.size)
      have HGU : Hid (Gk U (w.heap.size + 1) (w.heap.size + 1) j r (.slice va j vc) ∧ Below w.heap.size w U ∧ Tri U w.heap.size (.int .i64 k) (.int .i64 n) (.slice (some ⟨b, o, none⟩) c cap) ∧ Tri U (w.heap.size + 1) (.int .i64 0) (.int .i64 0) (.slice none 0 0) ∧ Kn wr.heap.size U rr a3 ∧ (∀ g, (Value.slice va j vc).ownBlock = some g → g < wr.heap.size) ∧ w.heap.size + 1 < wr.heap.size) := ⟨HJ.out.2.2.2.below hbu, HJ.out.1.trans (hbu.mono HJ.out.1.size), HJ.out.2.1.below hbu, HJ.out.2.2.1.below hbu, hk3.below hBU, fun g hg => (HJ.out.2.2.2.own g hg).2, HJ.out.2.2.2.lt⟩
      obtain ⟨A, C, hown0, hA0⟩ := HGU.out.1.list
      have HO : Hid (U.ownsRow (w.heap.size + 1 + 1) 24 3 (.slice va j vc) j (kvs r A C j) ∧ ∀ i, i < j → Kds (lim (okB (w.heap.size + 1) (w.heap.size + 1) (.slice va j vc)) U) (r i) (A i)) := ⟨hown0, hA0⟩
      have HKS : Hid (w.heap.size + 1 + 1 ≤ U.heap.size) := HGU.out.1.lt
      have HUB := hid hUb
      have HUE := hid hU
      have hj2 : j ≤ 2 := by omega
      clear hown0 hA0 hU hBU hUb hbu hk3 hb3 y1 y2 y3
      clear HJ
      go_wp2_with (at_builtin; rw [← HUE.out]; refine wpList_append_own_at _ rfl _ _ 22 rfl (w.heap.size + 1 + 1) 24 i0 (.agg #[.int .i64 0, .int .i64 0, .slice none 0 0]) 3 40 Tryd.underlying22 HI.out.1 HI.out.2.1 HI.out.2.2.1 HI.out.2.2.2 rfl (by decide) (.slice va j vc) j (kvs r A C j) rfl HO.out.1 ⟨w2.heap.size, 0, none⟩ 1 1 [.int .i64 rr.kind, .int .i64 rr.num, .slice a3 rr.cnt c3] rfl rfl (World.news_of_block (cs := #[.int .i64 rr.kind, .int .i64 rr.num, .slice a3 rr.cnt c3]) (t := 24) (fr := (0, 0)) HUB.out) (trip_one _ _ _ _ _) (by unfold maxLen; omega) (by omega) HKS.out ?_; intro v' w4 hown hgrow _ hat)
      obtain ⟨gg, gc, rfl⟩ : ∃ gg gc, v' = .slice (some ⟨gg, 0, none⟩) (j + 1) gc := by
        rcases hown.2 with ⟨_, h0⟩ | ⟨g, cc, cur, h0, _⟩
        · omega
        · exact ⟨g, cc, h0⟩
      have H4 : Hid (Below w.heap.size w w4 ∧ Tri w4 w.heap.size (.int .i64 k) (.int .i64 n) (.slice (some ⟨b, o, none⟩) c cap) ∧ Tri w4 (w.heap.size + 1) (.int .i64 0) (.int .i64 0) (.slice none 0 0) ∧ Gk w4 (w.heap.size + 1) (w.heap.size + 1) (j + 1) r (.slice (some ⟨gg, 0, none⟩) (j + 1) gc)) := by
        have hrr := HRR.out
        rw [hrr] at hown
        have hkn := HGU.out.2.2.2.2.1
        rw [hrr] at hkn
        have hat2 : (Value.slice va j vc).ownBlock = some gg ∨ gg = U.heap.size := by
          rcases hat with hat | hat
          · exact Or.inl (by rw [← hat]; rfl)
          · exact Or.inr (by simpa [Value.ownBlock] using hat)
        exact ⟨HGU.out.2.1.trans ((HGU.out.1.low hgrow).mono (by omega)), (HGU.out.1.keepb hgrow (Nat.le_succ _)).trans HGU.out.2.2.1, (HGU.out.1.keepb hgrow (Nat.le_refl _)).trans HGU.out.2.2.2.1, Gk.step HGU.out.1 HO.out.2 hkn HGU.out.2.2.2.2.2.2 HGU.out.2.2.2.2.2.1 hgrow hat2 hown⟩
      clear hown hgrow hat HGU HO HKS HUB HUE HRR sv sv0 sv1
      (try go_wp2)
      go_roundw
      case rel => exact ⟨j + 1, some ⟨gg, 0, none⟩, gc, by omega, by go_num, rfl, H4⟩
      case measure => simp [intOf]; omega
    · obtain rfl : c = j := by omega
      obtain ⟨ka, kc, hv3, hKn⟩ := HJ.out.2.2.2.done2 HR.out
      cases hv3
      have hT4 := HJ.out.2.2.1
      obtain ⟨⟨r0, r1, r2⟩, z0, z1, z2⟩ := tri_cells hT4
      have hlt2 := hT4.lt
      have hlt3 := HJ.out.2.2.2.lt
      have H4 : Hid (Kn (w.heap.size + 1 + 1) wr (mkn k n c r) va ∧ Below w.heap.size w wr ∧ Tri wr (w.heap.size + 1) (.int .i64 0) (.int .i64 0) (.slice none 0 0)) := ⟨hKn k n, HJ.out.1, hT4⟩
      clear hKn HJ hT4
      go_wp2
      (try simp only [Exit.inBlock, Exit.then])
      refine bodyPost_ret (results_cell_row rfl _ _ (w.heap.size + 1) 24 #[.int .i64 k, .int .i64 n, .slice va c vc] (0, 0) _ rfl (tri_set H4.out.2.2 _ _ _) Tryd.underlying24 rfl (by kernel_rfl)) rfl ?_
      exact ⟨va, vc, rfl, kn_tri H4.out.1 (by omega) (by omega) _ _ _, below_tri H4.out.2.1 (by omega) _ _ _⟩

theorem refPlain_any : ∀ t, Wf t → Rp t := by
  intro t
  induction t using Fml.ind with
  | h t ih =>
    intro hw a cap w hk
    have ih' : ∀ i, i < t.cnt → Rp (t.kid i) := fun i hi => ih i hi (hw.out.2 i hi)
    rw [pn_eq hw]
    unfold pnF
    by_cases h10 : t.kind = 10
    · rw [if_pos h10]
      exact rp_fin ih' hw h10 a cap w hk
    rw [if_neg h10]
    by_cases h11 : t.kind = 11
    · rw [if_pos h11]
      exact rp_glo ih' hw h11 a cap w hk
    rw [if_neg h11]
    exact rp_oth ih' hw h10 h11 a cap w hk

end Go.Proofs.YtinacgkiigbmjaaDoor
