/- LassoStutters: walked. -/
import Derived.Test.YtejombhfkobcbaaDoorStu0
namespace Go.Proofs.YtejombhfkobcbaaDoor
open Go.RowKit

set_option maxHeartbeats 8000000 in
theorem lassoStutters_walk {w : World} {t : Fml} {a : Option Addr} {cap : Nat} {sa : Option Addr} {s sc : Nat} {la : Option Addr} {m lc : Nat} {S L : Nat → Int} (h : Fw w t a sa s sc la m lc S L) (x : Int) (hxa : -9223372036854775808 ≤ x) (hxb : x ≤ 9223372036854775807) :
    Calls Tryd.prog 7 #[.agg #[.int .i64 t.kind, .int .i64 t.num, .slice a t.cnt cap], .agg #[.slice sa s sc, .slice la m lc], .int .i64 x] w fun e w' => e = .returned (.bool true) ∧ Below w.heap.size w w' := by
  obtain ⟨u, hu⟩ : ∃ y, y = (w.alloc (.cells #[.int .i64 t.kind, .int .i64 t.num, .slice a t.cnt cap] 24)).alloc (.cells #[.slice sa s sc, .slice la m lc] 27) := ⟨_, rfl⟩
  have hB : Below w.heap.size w u := by rw [hu]; exact below_alloc2 _ _ _
  have hx : Fx u w.heap.size t a cap sa s sc la m lc := by rw [hu]; exact fx_new _ _ _ _ _ _ _ _ _ _
  have HX : Hid (∀ z, Below u.heap.size u z → Fx z w.heap.size t a cap sa s sc la m lc ∧ Below w.heap.size w z ∧ Fw z t a sa s sc la m lc S L) := fun z hz => ⟨hx.below hz, hB.trans (hz.mono hB.size), (h.below hB).below hz⟩
  have C1 := hid (now_any u (h.below hB).kc)
  have C18 : Hid (∀ z, Below u.heap.size u z → Calls Tryd.prog 18 #[.agg #[.int .i64 t.kind, .int .i64 t.num, .slice a t.cnt cap], .agg #[.slice sa s sc, .slice la m lc]] z fun e w' => e = .returned (.tuple #[.bool (trV t s m S L).1, .bool (trV t s m S L).2]) ∧ Below z.heap.size z w') := fun z hz => truth_any ((h.below hB).below hz)
  have C26 : Hid (∀ z, Below u.heap.size u z → Calls Tryd.prog 26 #[.agg #[.int .i64 t.kind, .int .i64 t.num, .slice a t.cnt cap]] z fun e w' => e = .returned (.bool (pl t)) ∧ Below z.heap.size z w') := fun z hz => plainly_any t a cap z ((h.below hB).below hz).kds h.cnt
  have HPL := hid (pl_pln t)
  have hus : u.heap.size = w.heap.size + 1 + 1 := by rw [hu]; simp
  have HUS := hid hus
  have HU := hid hu
  obtain ⟨T, hT⟩ : ∃ tt, tt = trV t s m S L := ⟨_, rfl⟩
  have HT := hid hT
  rw [← hT] at C18
  obtain ⟨pb, hpb⟩ : ∃ q, q = pl t := ⟨_, rfl⟩
  have HPB := hid hpb
  rw [← hpb] at C26
  clear hT hpb hu hB hx h hus
  obtain ⟨T1, T2⟩ := T
  dsimp only at C18
  go_enter Tryd.func7, Tryd.ntmps7
  go_wp2_with fail
  rw [← HU.out]
  refine C1.out.mono ?_
  rintro e z1 ⟨rfl, hb⟩
  have HZ1 : Hid (Below u.heap.size u z1) := hb
  have D18 := hid (C18.out z1 hb)
  obtain ⟨⟨f0, f1, f2, g0, g1⟩, _, _⟩ := HX.out z1 hb
  clear hb C1 HU
  go_wp2_with fail
  refine D18.out.mono ?_
  rintro e z2 ⟨rfl, hb⟩
  have HZ2 : Hid (Below u.heap.size u z2) := HZ1.out.trans (hb.mono HZ1.out.size)
  clear hb f0 f1 f2 g0 g1 C18 D18
  obtain ⟨⟨f0, f1, f2, g0, g1⟩, _, _⟩ := HX.out z2 HZ2.out
  cases T2
  · go_wp2
    go_ret
    exact ⟨rfl, (HX.out z2 HZ2.out).2.1⟩
  have D26 := hid (C26.out z2 HZ2.out)
  go_wp2_with fail
  refine D26.out.mono ?_
  rintro e z ⟨rfl, hb⟩
  have HZ : Hid (Below u.heap.size u z) := HZ2.out.trans (hb.mono HZ2.out.size)
  clear hb f0 f1 f2 g0 g1 C26 D26
  obtain ⟨⟨f0, f1, f2, g0, g1⟩, _, hfw⟩ := HX.out z HZ.out
  cases pb
  · go_wp2
    go_ret
    exact ⟨rfl, (HX.out z HZ.out).2.1⟩
  have HFW := hid hfw
  have HPl : Hid (Pln t) := HPL.out HPB.out.symm
  have hch : hchk t s m = 0 := by
    by_cases h0 : hchk t s m = 0
    · exact h0
    · have := HT.out
      unfold trV at this
      rw [if_neg h0] at this
      simp at this
  have hwc : wchk s m = 0 := by
    unfold hchk at hch
    by_cases hc : (chk t 1 0).1 = 0
    · rw [if_neg (by rw [hc]; decide)] at hch
      exact hch
    · rw [if_pos hc] at hch
      exact absurd hch hc
  obtain ⟨h60, hm⟩ := wchk_ok hwc
  have HS : Hid (∀ y, Below z.heap.size z y → y.cell? ⟨w.heap.size + 1, 0, none⟩ = some (.slice sa s sc) ∧ y.cell? ⟨w.heap.size + 1, 1, none⟩ = some (.slice la m lc)) := fun y hy => ⟨below_cell hy (Nat.le_refl _) g0, below_cell hy (Nat.le_refl _) g1⟩
  have C3 : Hid (∀ y, Below z.heap.size z y → Calls Tryd.prog 27 #[.slice sa s sc] y fun e w' => ∃ a3 c3, e = .returned (.slice a3 s c3) ∧ w'.ownsRow y.heap.size 30 1 (.slice a3 s c3) s (valsU (lstU s S)) ∧ Below y.heap.size y w') := fun y hy => by
    refine (clone_any sa s sc S y (by omega) (HFW.out.wd.stem.below hy) HFW.out.sn).mono ?_
    rintro e w' ⟨v, rfl, hv, hb⟩
    obtain ⟨_, a3, c3, rfl, _⟩ := rowU_of_owns hv
    exact ⟨a3, c3, rfl, hv, hb⟩
  have C4 : Hid (∀ y, Below z.heap.size z y → Calls Tryd.prog 27 #[.slice la m lc] y fun e w' => ∃ a4 c4, e = .returned (.slice a4 m c4) ∧ w'.ownsRow y.heap.size 30 1 (.slice a4 m c4) m (valsU (lstU m L)) ∧ Below y.heap.size y w') := fun y hy => by
    refine (clone_any la m lc L y (by omega) (HFW.out.wd.loop.below hy) HFW.out.ln).mono ?_
    rintro e w' ⟨v, rfl, hv, hb⟩
    obtain ⟨_, a4, c4, rfl, _⟩ := rowU_of_owns hv
    exact ⟨a4, c4, rfl, hv, hb⟩
  have hwz : w.heap.size + 1 < z.heap.size := World.block_lt_of_cell? _ _ g0
  clear hch hwc hfw HPL HPB HZ1 HZ2
  go_upto_region 6 with fail
  go_cut [9] from 28 to 34 (fun v9 wc => ∃ b9 a3 c3 a4 c4, v9 = .pointer (some ⟨b9, 0, none⟩) ∧ Hid (Cln z wc b9 a3 s c3 a4 m c4 S L))
  case first =>
    clear f0 f1 f2 g0 g1
    have hB0 : Below z.heap.size z z.drew := below_drewN (Below.refl _ _) 1
    refine G_region (fun y => y.cell? ⟨w.heap.size + 1, 0, none⟩ = some (.slice sa s sc) ∧ y.cell? ⟨w.heap.size + 1, 1, none⟩ = some (.slice la m lc)) (fun _ => false) (by kernel_rfl) (HS.out _ hB0) (fun _ => ?_)
    refine G_take (i := 0) (oi := { dst := some 28, op := Op.fieldAddr 27 (Operand.tmp 4) 0, type := 0, pos := _, after := #[], guard := none }) (v := .pointer (some ⟨w.heap.size + 1, 0, none⟩)) rfl (by kernel_rfl) (by kernel_rfl) (by kernel_rfl) (by kernel_rfl) (fun _ _ _ h => h) (by rfl) (fun u hu => ?_) (HS.out _ hB0) ?_
    · (try dsimp only at hu); go_simp
    (try simp only [Act.put, List.setIfInBounds_toArray, List.set_cons_zero, List.set_cons_succ])
    refine G_take (i := 1) (oi := { dst := some 29, op := Op.load 25 (Operand.tmp 28), type := 25, pos := _, after := #[{ on := 0, ground := Ground.data }], guard := none }) (v := .slice sa s sc) rfl (by kernel_rfl) (by kernel_rfl) (by kernel_rfl) (by kernel_rfl) (fun _ _ _ h => h) (by rfl) (fun u hu => ?_) (HS.out _ hB0) ?_
    · (try dsimp only at hu); go_simp
    (try simp only [Act.put, List.setIfInBounds_toArray, List.set_cons_zero, List.set_cons_succ])
    refine G_take (i := 3) (oi := { dst := some 31, op := Op.fieldAddr 27 (Operand.tmp 4) 1, type := 0, pos := _, after := #[], guard := none }) (v := .pointer (some ⟨w.heap.size + 1, 1, none⟩)) rfl (by kernel_rfl) (by kernel_rfl) (by kernel_rfl) (by kernel_rfl) (fun _ _ _ h => h) (by rfl) (fun u hu => ?_) (HS.out _ hB0) ?_
    · (try dsimp only at hu); go_simp
    (try simp only [Act.put, List.setIfInBounds_toArray, List.set_cons_zero, List.set_cons_succ])
    refine G_take (i := 4) (oi := { dst := some 32, op := Op.load 25 (Operand.tmp 31), type := 25, pos := _, after := #[{ on := 3, ground := Ground.data }], guard := none }) (v := .slice la m lc) rfl (by kernel_rfl) (by kernel_rfl) (by kernel_rfl) (by kernel_rfl) (fun _ _ _ h => h) (by rfl) (fun u hu => ?_) (HS.out _ hB0) ?_
    · (try dsimp only at hu); go_simp
    (try simp only [Act.put, List.setIfInBounds_toArray, List.set_cons_zero, List.set_cons_succ])
    obtain ⟨y0, hy0⟩ : ∃ q, q = z.drew := ⟨_, rfl⟩
    rw [← hy0] at hB0 ⊢
    have hB_y0 := hB0
    clear hB0 hy0
    refine G_alt2 (l := [2, 7]) (by kernel_rfl) (by decide) ?_
    intro i hi
    have hi2 : i = 2 ∨ i = 7 := by simpa using hi
    clear hi
    rcases hi2 with rfl | rfl
    · refine ⟨{ dst := some 30, op := Op.call { callee := Callee.value (Operand.func 27), args := #[Operand.tmp 29], argTypes := #[25] }, type := 25, pos := _, after := #[{ on := 1, ground := Ground.data }], guard := none }, rfl, fun K' hK => ?_⟩
      go_simp
      go_at_call 27
      refine (C3.out y0 hB_y0).mono ?_
      rintro e y1_2 ⟨a3, c3, rfl, ho, hb⟩
      dsimp only
      have hB_y1_2 := hB_y0.trans (hb.mono hB_y0.size)
      have o3_y1_2 := hid (owns_base ho hB_y0.size)
      refine hK.out _ _ (fun _ => HS.out _ hB_y1_2) (fun _ => ?_)
      clear hK K' hb hB_y0 ho 
      (try simp only [Act.put, List.setIfInBounds_toArray, List.set_cons_zero, List.set_cons_succ])
      refine G_alt2 (l := [5, 7]) (by kernel_rfl) (by decide) ?_
      intro i hi
      have hi2 : i = 5 ∨ i = 7 := by simpa using hi
      clear hi
      rcases hi2 with rfl | rfl
      · refine ⟨{ dst := some 33, op := Op.call { callee := Callee.value (Operand.func 27), args := #[Operand.tmp 32], argTypes := #[25] }, type := 25, pos := _, after := #[{ on := 4, ground := Ground.data }, { on := 2, ground := Ground.chain }], guard := none }, rfl, fun K' hK => ?_⟩
        go_simp
        go_at_call 27
        refine (C4.out y1_2 hB_y1_2).mono ?_
        rintro e y2_5 ⟨a4, c4, rfl, ho, hb⟩
        dsimp only
        have hB_y2_5 := hB_y1_2.trans (hb.mono hB_y1_2.size)
        have hd : ∀ y y', a3 = some y → a4 = some y' → y.block ≠ y'.block := fun y y' e1 e2 => by
          subst e1 e2
          have h1 := (o3_y1_2.out.lt y.block rfl).2
          have h2 := (ho.lt y'.block rfl).1
          omega
        have HD := hid hd
        clear hd
        have o4_y2_5 := hid (owns_base ho hB_y1_2.size)
        have o3_y2_5 := hid (owns_below o3_y1_2.out hb)
        refine hK.out _ _ (fun _ => HS.out _ hB_y2_5) (fun _ => ?_)
        clear hK K' hb hB_y1_2 ho o3_y1_2
        (try simp only [Act.put, List.setIfInBounds_toArray, List.set_cons_zero, List.set_cons_succ])
        refine G_take (i := 6) (oi := { dst := some 34, op := Op.build 27 #[(0, Operand.tmp 30), (1, Operand.tmp 33)], type := 27, pos := _, after := #[{ on := 2, ground := Ground.data }, { on := 5, ground := Ground.data }], guard := none }) (v := .agg #[.slice a3 s c3, .slice a4 m c4]) rfl (by kernel_rfl) (by kernel_rfl) (by kernel_rfl) (by kernel_rfl) (fun _ _ _ h => h) (by rfl) (fun u hu => ?_) (HS.out _ hB_y2_5) ?_
        · (try dsimp only at hu); go_simp
        (try simp only [Act.put, List.setIfInBounds_toArray, List.set_cons_zero, List.set_cons_succ])
        refine G_step (i := 7) (o := { dst := some 9, op := Op.alloc 27, type := 0, pos := _, after := #[], guard := none }) (by kernel_rfl) rfl (fun K' hK => ?_)
        go_simp
        obtain ⟨y4_7, hy⟩ : ∃ q, q = y2_5.alloc (.cells #[.slice none 0 0, .slice none 0 0] 27) := ⟨_, rfl⟩
        rw [← hy]
        obtain ⟨b9, hb9⟩ : ∃ q, q = y2_5.heap.size := ⟨_, rfl⟩
        have hb : Below y2_5.heap.size y2_5 y4_7 := by rw [hy]; exact box_below _ _
        have x9_y4_7 : y4_7.heap[b9]? = some (.cells #[.slice none 0 0, .slice none 0 0] 27) := by rw [hy, hb9]; exact Go.Deep.blk_alloc_new _ _
        have hz9 : z.heap.size ≤ b9 := by rw [hb9]; exact hB_y2_5.size
        rw [← hb9]
        have X9_y4_7 := hid x9_y4_7
        have HZ9 := hid hz9
        have hB_y4_7 := hB_y2_5.trans (hb.mono hB_y2_5.size)
        clear hy hb9 hz9 x9_y4_7
        have o3_y4_7 := hid (owns_below o3_y2_5.out hb)
        have o4_y4_7 := hid (owns_below o4_y2_5.out hb)
        refine hK.out _ _ (fun _ => HS.out _ hB_y4_7) (fun _ => ?_)
        clear hK K' hb hB_y2_5  o3_y2_5 o4_y2_5
        (try simp only [Act.put, List.setIfInBounds_toArray, List.set_cons_zero, List.set_cons_succ])
        have g0 := (two_cells X9_y4_7.out).1
        have g1 := (two_cells X9_y4_7.out).2
        have f0 := fz_of X9_y4_7.out 0
        have f1 := fz_of X9_y4_7.out 1
        refine G_step (i := 8) (o := { dst := none, op := Op.store 27 (Operand.tmp 9) (Operand.tmp 34), type := 0, pos := _, after := #[{ on := 7, ground := Ground.data }, { on := 6, ground := Ground.data }, { on := 5, ground := Ground.chain }, { on := 0, ground := Ground.phase }, { on := 1, ground := Ground.phase }, { on := 2, ground := Ground.phase }, { on := 3, ground := Ground.phase }, { on := 4, ground := Ground.phase }, { on := 5, ground := Ground.phase }, { on := 6, ground := Ground.phase }, { on := 7, ground := Ground.phase }], guard := none }) (by kernel_rfl) rfl (fun K' hK => ?_)
        go_simp
        obtain ⟨W, hW⟩ : ∃ q, q = (y4_7.setCell ⟨b9, 0, none⟩ (.slice a3 s c3)).setCell ⟨b9, 1, none⟩ (.slice a4 m c4) := ⟨_, rfl⟩
        rw [← hW]
        have HC := hid (cln_of hB_y4_7 X9_y4_7.out HZ9.out o3_y4_7.out o4_y4_7.out HD.out hW)
        refine hK.out _ _ (fun _ => HS.out _ HC.out.1) (fun _ => ?_)
        clear hK K' hW g0 g1 f0 f1 hB_y4_7 X9_y4_7 o3_y4_7 o4_y4_7
        (try simp only [Act.put, List.setIfInBounds_toArray, List.set_cons_zero, List.set_cons_succ])
        refine G_done (by kernel_rfl) ?_ _
        go_wp2_with fail
        go_meet
        exact ⟨b9, a3, c3, a4, c4, rfl, HC⟩
      · refine ⟨{ dst := some 9, op := Op.alloc 27, type := 0, pos := _, after := #[], guard := none }, rfl, fun K' hK => ?_⟩
        go_simp
        obtain ⟨y5_7, hy⟩ : ∃ q, q = y1_2.alloc (.cells #[.slice none 0 0, .slice none 0 0] 27) := ⟨_, rfl⟩
        rw [← hy]
        obtain ⟨b9, hb9⟩ : ∃ q, q = y1_2.heap.size := ⟨_, rfl⟩
        have hb : Below y1_2.heap.size y1_2 y5_7 := by rw [hy]; exact box_below _ _
        have x9_y5_7 : y5_7.heap[b9]? = some (.cells #[.slice none 0 0, .slice none 0 0] 27) := by rw [hy, hb9]; exact Go.Deep.blk_alloc_new _ _
        have hz9 : z.heap.size ≤ b9 := by rw [hb9]; exact hB_y1_2.size
        rw [← hb9]
        have X9_y5_7 := hid x9_y5_7
        have HZ9 := hid hz9
        have hB_y5_7 := hB_y1_2.trans (hb.mono hB_y1_2.size)
        clear hy hb9 hz9 x9_y5_7
        have o3_y5_7 := hid (owns_below o3_y1_2.out hb)
        refine hK.out _ _ (fun _ => HS.out _ hB_y5_7) (fun _ => ?_)
        clear hK K' hb hB_y1_2  o3_y1_2
        (try simp only [Act.put, List.setIfInBounds_toArray, List.set_cons_zero, List.set_cons_succ])
        refine G_step (i := 5) (o := { dst := some 33, op := Op.call { callee := Callee.value (Operand.func 27), args := #[Operand.tmp 32], argTypes := #[25] }, type := 25, pos := _, after := #[{ on := 4, ground := Ground.data }, { on := 2, ground := Ground.chain }], guard := none }) (by kernel_rfl) rfl (fun K' hK => ?_)
        go_simp
        go_at_call 27
        refine (C4.out y5_7 hB_y5_7).mono ?_
        rintro e y6_5 ⟨a4, c4, rfl, ho, hb⟩
        dsimp only
        have hB_y6_5 := hB_y5_7.trans (hb.mono hB_y5_7.size)
        have hd : ∀ y y', a3 = some y → a4 = some y' → y.block ≠ y'.block := fun y y' e1 e2 => by
          subst e1 e2
          have h1 := (o3_y5_7.out.lt y.block rfl).2
          have h2 := (ho.lt y'.block rfl).1
          omega
        have HD := hid hd
        clear hd
        have o4_y6_5 := hid (owns_base ho hB_y5_7.size)
        have o3_y6_5 := hid (owns_below o3_y5_7.out hb)
        have X9_y6_5 := hid (alloc_le hb X9_y5_7.out)
        refine hK.out _ _ (fun _ => HS.out _ hB_y6_5) (fun _ => ?_)
        clear hK K' hb hB_y5_7 ho o3_y5_7 X9_y5_7
        (try simp only [Act.put, List.setIfInBounds_toArray, List.set_cons_zero, List.set_cons_succ])
        refine G_take (i := 6) (oi := { dst := some 34, op := Op.build 27 #[(0, Operand.tmp 30), (1, Operand.tmp 33)], type := 27, pos := _, after := #[{ on := 2, ground := Ground.data }, { on := 5, ground := Ground.data }], guard := none }) (v := .agg #[.slice a3 s c3, .slice a4 m c4]) rfl (by kernel_rfl) (by kernel_rfl) (by kernel_rfl) (by kernel_rfl) (fun _ _ _ h => h) (by rfl) (fun u hu => ?_) (HS.out _ hB_y6_5) ?_
        · (try dsimp only at hu); go_simp
        (try simp only [Act.put, List.setIfInBounds_toArray, List.set_cons_zero, List.set_cons_succ])
        have g0 := (two_cells X9_y6_5.out).1
        have g1 := (two_cells X9_y6_5.out).2
        have f0 := fz_of X9_y6_5.out 0
        have f1 := fz_of X9_y6_5.out 1
        refine G_step (i := 8) (o := { dst := none, op := Op.store 27 (Operand.tmp 9) (Operand.tmp 34), type := 0, pos := _, after := #[{ on := 7, ground := Ground.data }, { on := 6, ground := Ground.data }, { on := 5, ground := Ground.chain }, { on := 0, ground := Ground.phase }, { on := 1, ground := Ground.phase }, { on := 2, ground := Ground.phase }, { on := 3, ground := Ground.phase }, { on := 4, ground := Ground.phase }, { on := 5, ground := Ground.phase }, { on := 6, ground := Ground.phase }, { on := 7, ground := Ground.phase }], guard := none }) (by kernel_rfl) rfl (fun K' hK => ?_)
        go_simp
        obtain ⟨W, hW⟩ : ∃ q, q = (y6_5.setCell ⟨b9, 0, none⟩ (.slice a3 s c3)).setCell ⟨b9, 1, none⟩ (.slice a4 m c4) := ⟨_, rfl⟩
        rw [← hW]
        have HC := hid (cln_of hB_y6_5 X9_y6_5.out HZ9.out o3_y6_5.out o4_y6_5.out HD.out hW)
        refine hK.out _ _ (fun _ => HS.out _ HC.out.1) (fun _ => ?_)
        clear hK K' hW g0 g1 f0 f1 hB_y6_5 X9_y6_5 o3_y6_5 o4_y6_5
        (try simp only [Act.put, List.setIfInBounds_toArray, List.set_cons_zero, List.set_cons_succ])
        refine G_done (by kernel_rfl) ?_ _
        go_wp2_with fail
        go_meet
        exact ⟨b9, a3, c3, a4, c4, rfl, HC⟩
    · refine ⟨{ dst := some 9, op := Op.alloc 27, type := 0, pos := _, after := #[], guard := none }, rfl, fun K' hK => ?_⟩
      go_simp
      obtain ⟨y8_7, hy⟩ : ∃ q, q = y0.alloc (.cells #[.slice none 0 0, .slice none 0 0] 27) := ⟨_, rfl⟩
      rw [← hy]
      obtain ⟨b9, hb9⟩ : ∃ q, q = y0.heap.size := ⟨_, rfl⟩
      have hb : Below y0.heap.size y0 y8_7 := by rw [hy]; exact box_below _ _
      have x9_y8_7 : y8_7.heap[b9]? = some (.cells #[.slice none 0 0, .slice none 0 0] 27) := by rw [hy, hb9]; exact Go.Deep.blk_alloc_new _ _
      have hz9 : z.heap.size ≤ b9 := by rw [hb9]; exact hB_y0.size
      rw [← hb9]
      have X9_y8_7 := hid x9_y8_7
      have HZ9 := hid hz9
      have hB_y8_7 := hB_y0.trans (hb.mono hB_y0.size)
      clear hy hb9 hz9 x9_y8_7
      refine hK.out _ _ (fun _ => HS.out _ hB_y8_7) (fun _ => ?_)
      clear hK K' hb hB_y0  
      (try simp only [Act.put, List.setIfInBounds_toArray, List.set_cons_zero, List.set_cons_succ])
      refine G_step (i := 2) (o := { dst := some 30, op := Op.call { callee := Callee.value (Operand.func 27), args := #[Operand.tmp 29], argTypes := #[25] }, type := 25, pos := _, after := #[{ on := 1, ground := Ground.data }], guard := none }) (by kernel_rfl) rfl (fun K' hK => ?_)
      go_simp
      go_at_call 27
      refine (C3.out y8_7 hB_y8_7).mono ?_
      rintro e y9_2 ⟨a3, c3, rfl, ho, hb⟩
      dsimp only
      have hB_y9_2 := hB_y8_7.trans (hb.mono hB_y8_7.size)
      have o3_y9_2 := hid (owns_base ho hB_y8_7.size)
      have X9_y9_2 := hid (alloc_le hb X9_y8_7.out)
      refine hK.out _ _ (fun _ => HS.out _ hB_y9_2) (fun _ => ?_)
      clear hK K' hb hB_y8_7 ho X9_y8_7
      (try simp only [Act.put, List.setIfInBounds_toArray, List.set_cons_zero, List.set_cons_succ])
      refine G_step (i := 5) (o := { dst := some 33, op := Op.call { callee := Callee.value (Operand.func 27), args := #[Operand.tmp 32], argTypes := #[25] }, type := 25, pos := _, after := #[{ on := 4, ground := Ground.data }, { on := 2, ground := Ground.chain }], guard := none }) (by kernel_rfl) rfl (fun K' hK => ?_)
      go_simp
      go_at_call 27
      refine (C4.out y9_2 hB_y9_2).mono ?_
      rintro e y10_5 ⟨a4, c4, rfl, ho, hb⟩
      dsimp only
      have hB_y10_5 := hB_y9_2.trans (hb.mono hB_y9_2.size)
      have hd : ∀ y y', a3 = some y → a4 = some y' → y.block ≠ y'.block := fun y y' e1 e2 => by
        subst e1 e2
        have h1 := (o3_y9_2.out.lt y.block rfl).2
        have h2 := (ho.lt y'.block rfl).1
        omega
      have HD := hid hd
      clear hd
      have o4_y10_5 := hid (owns_base ho hB_y9_2.size)
      have X9_y10_5 := hid (alloc_le hb X9_y9_2.out)
      have o3_y10_5 := hid (owns_below o3_y9_2.out hb)
      refine hK.out _ _ (fun _ => HS.out _ hB_y10_5) (fun _ => ?_)
      clear hK K' hb hB_y9_2 ho X9_y9_2 o3_y9_2
      (try simp only [Act.put, List.setIfInBounds_toArray, List.set_cons_zero, List.set_cons_succ])
      refine G_take (i := 6) (oi := { dst := some 34, op := Op.build 27 #[(0, Operand.tmp 30), (1, Operand.tmp 33)], type := 27, pos := _, after := #[{ on := 2, ground := Ground.data }, { on := 5, ground := Ground.data }], guard := none }) (v := .agg #[.slice a3 s c3, .slice a4 m c4]) rfl (by kernel_rfl) (by kernel_rfl) (by kernel_rfl) (by kernel_rfl) (fun _ _ _ h => h) (by rfl) (fun u hu => ?_) (HS.out _ hB_y10_5) ?_
      · (try dsimp only at hu); go_simp
      (try simp only [Act.put, List.setIfInBounds_toArray, List.set_cons_zero, List.set_cons_succ])
      have g0 := (two_cells X9_y10_5.out).1
      have g1 := (two_cells X9_y10_5.out).2
      have f0 := fz_of X9_y10_5.out 0
      have f1 := fz_of X9_y10_5.out 1
      refine G_step (i := 8) (o := { dst := none, op := Op.store 27 (Operand.tmp 9) (Operand.tmp 34), type := 0, pos := _, after := #[{ on := 7, ground := Ground.data }, { on := 6, ground := Ground.data }, { on := 5, ground := Ground.chain }, { on := 0, ground := Ground.phase }, { on := 1, ground := Ground.phase }, { on := 2, ground := Ground.phase }, { on := 3, ground := Ground.phase }, { on := 4, ground := Ground.phase }, { on := 5, ground := Ground.phase }, { on := 6, ground := Ground.phase }, { on := 7, ground := Ground.phase }], guard := none }) (by kernel_rfl) rfl (fun K' hK => ?_)
      go_simp
      obtain ⟨W, hW⟩ : ∃ q, q = (y10_5.setCell ⟨b9, 0, none⟩ (.slice a3 s c3)).setCell ⟨b9, 1, none⟩ (.slice a4 m c4) := ⟨_, rfl⟩
      rw [← hW]
      have HC := hid (cln_of hB_y10_5 X9_y10_5.out HZ9.out o3_y10_5.out o4_y10_5.out HD.out hW)
      refine hK.out _ _ (fun _ => HS.out _ HC.out.1) (fun _ => ?_)
      clear hK K' hW g0 g1 f0 f1 hB_y10_5 X9_y10_5 o3_y10_5 o4_y10_5
      (try simp only [Act.put, List.setIfInBounds_toArray, List.set_cons_zero, List.set_cons_succ])
      refine G_done (by kernel_rfl) ?_ _
      go_wp2_with fail
      go_meet
      exact ⟨b9, a3, c3, a4, c4, rfl, HC⟩
  obtain ⟨b9, a3, c3, a4, c4, rfl, HC⟩ := hcut
  clear f0 f1 f2 g0 g1 C3 C4
  have HWC : Hid (Below u.heap.size u wc) := HZ.out.trans (HC.out.1.mono HZ.out.size)
  obtain ⟨⟨f0, f1, f2, hx0, hx1⟩, _, _⟩ := HX.out wc HWC.out
  obtain ⟨n, hn⟩ : ∃ n : Nat, x % ((s + m : Nat) : Int) = n := ⟨(x % ((s + m : Nat) : Int)).toNat, by have := Int.emod_nonneg x (show ((s + m : Nat) : Int) ≠ 0 by omega); omega⟩
  have hnl : n < s + m := by have := Int.emod_lt_of_pos x (show (0 : Int) < ((s + m : Nat) : Int) by omega); omega
  have D28 : Hid (Calls Tryd.prog 28 #[.int .i64 x, .int .i64 ((s : Int) + m)] wc fun e w' => e = .returned (.int .i64 n) ∧ w' = wc) := by
    have := rest_any x (s + m) wc (by omega) (by omega) hxa hxb
    rw [hn] at this
    rw [show (((s + m : Nat)) : Int) = (s : Int) + m by omega] at this
    exact this
  have hz9 : z.heap.size ≤ b9 := HC.out.2.2.1
  have h9w : ∀ i v, (#[Value.slice a3 s c3, .slice a4 m c4] : Array Value)[i]? = some v → wc.cell? ⟨b9, i, none⟩ = some v := fun i v hv => cell_of_cells HC.out.2.1 hv
  have H9W := hid h9w
  have HN := hid hn
  clear hn h9w
  go_wp2_with fail
  refine D28.out.mono ?_
  rintro e w4 ⟨rfl, hw4⟩
  subst hw4
  clear D28
  by_cases hlt : n < s
  · obtain ⟨g, cur, hga, hgb, hgh, hgs, hgn, hgc, hgl⟩ := own_open HC.out.2.2.2.1 (by omega)
    subst hga
    have HG : Hid (w4.heap[g]? = some (.cells cur 30 (0, 0)) ∧ cur.size = c3 ∧ s ≤ c3 ∧ c3 ≤ 9223372036854775807 ∧ ∀ j, j < s → w4.cell? ⟨g, j, none⟩ = some (.int .u64 (S j))) := ⟨hgh, hgs, hgn, hgc, hgl⟩
    have hg9 : b9 ≠ g := fun e => (owns_ne HC.out.2.2.2.1 rfl HC.out.2.1) e.symm
    have h9 : w4.cell? ⟨b9, 0, none⟩ = some (.slice (some ⟨g, 0, none⟩) s c3) := H9W.out 0 _ rfl
    have HAP : Hid (∀ v, a4 = some v → v.block ≠ g) := fun v hv => (HC.out.2.2.2.2.2 ⟨g, 0, none⟩ v rfl hv).symm
    clear hgh hgs hgn hgc hgl
    go_wp2_with fail
    refine G_region (fun y => y.cell? ⟨b9, 0, none⟩ = some (.slice (some ⟨g, 0, none⟩) s c3)) (fun j => j == 11) (by kernel_rfl) h9 (fun hHeld => ?_)
    refine G_take (i := 0) (oi := { dst := some 49, op := Op.fieldAddr 27 (Operand.tmp 9) 0, type := 0, pos := _, after := #[], guard := none }) (v := .pointer (some ⟨b9, 0, none⟩)) rfl (by kernel_rfl) (by kernel_rfl) (by kernel_rfl) (by kernel_rfl) (fun _ _ _ h => h) (by rfl) (fun u hu => ?_) hHeld ?_
    · (try dsimp only at hu); go_simp
    (try simp only [Act.put, List.setIfInBounds_toArray, List.set_cons_zero, List.set_cons_succ])
    refine G_take (i := 1) (oi := { dst := some 50, op := Op.load 25 (Operand.tmp 49), type := 25, pos := _, after := #[{ on := 0, ground := Ground.data }], guard := none }) (v := .slice (some ⟨g, 0, none⟩) s c3) rfl (by kernel_rfl) (by kernel_rfl) (by kernel_rfl) (by kernel_rfl) (fun _ _ _ h => h) (by rfl) (fun u hu => ?_) hHeld ?_
    · (try dsimp only at hu); go_simp
    (try simp only [Act.put, List.setIfInBounds_toArray, List.set_cons_zero, List.set_cons_succ])
    refine G_take (i := 2) (oi := { dst := some 51, op := Op.move (Operand.tmp 10), type := 3, pos := _, after := #[], guard := none }) (v := .int .i64 n) rfl (by kernel_rfl) (by kernel_rfl) (by kernel_rfl) (by kernel_rfl) (fun _ _ _ h => h) (by rfl) (fun u hu => ?_) hHeld ?_
    · (try dsimp only at hu); go_simp
    (try simp only [Act.put, List.setIfInBounds_toArray, List.set_cons_zero, List.set_cons_succ])
    refine G_take (i := 3) (oi := { dst := some 52, op := Op.fieldAddr 27 (Operand.tmp 9) 0, type := 0, pos := _, after := #[], guard := none }) (v := .pointer (some ⟨b9, 0, none⟩)) rfl (by kernel_rfl) (by kernel_rfl) (by kernel_rfl) (by kernel_rfl) (fun _ _ _ h => h) (by rfl) (fun u hu => ?_) hHeld ?_
    · (try dsimp only at hu); go_simp
    (try simp only [Act.put, List.setIfInBounds_toArray, List.set_cons_zero, List.set_cons_succ])
    refine G_take (i := 4) (oi := { dst := some 53, op := Op.load 25 (Operand.tmp 52), type := 25, pos := _, after := #[{ on := 3, ground := Ground.data }], guard := none }) (v := .slice (some ⟨g, 0, none⟩) s c3) rfl (by kernel_rfl) (by kernel_rfl) (by kernel_rfl) (by kernel_rfl) (fun _ _ _ h => h) (by rfl) (fun u hu => ?_) hHeld ?_
    · (try dsimp only at hu); go_simp
    (try simp only [Act.put, List.setIfInBounds_toArray, List.set_cons_zero, List.set_cons_succ])
    refine G_take (i := 5) (oi := { dst := some 54, op := Op.move (Operand.tmp 10), type := 3, pos := _, after := #[], guard := none }) (v := .int .i64 n) rfl (by kernel_rfl) (by kernel_rfl) (by kernel_rfl) (by kernel_rfl) (fun _ _ _ h => h) (by rfl) (fun u hu => ?_) hHeld ?_
    · (try dsimp only at hu); go_simp
    (try simp only [Act.put, List.setIfInBounds_toArray, List.set_cons_zero, List.set_cons_succ])
    refine G_take (i := 6) (oi := { dst := some 55, op := Op.indexAddr 25 (Operand.tmp 53) (Operand.tmp 54), type := 0, pos := _, after := #[{ on := 4, ground := Ground.data }, { on := 5, ground := Ground.data }], guard := none }) (v := .pointer (some ⟨g, n, none⟩)) rfl (by kernel_rfl) (by kernel_rfl) (by kernel_rfl) (by kernel_rfl) (fun _ _ _ h => h) (by rfl) (fun u hu => ?_) hHeld ?_
    · (try dsimp only at hu); go_simp
    (try simp only [Act.put, List.setIfInBounds_toArray, List.set_cons_zero, List.set_cons_succ])
    obtain ⟨y0, hy0⟩ : ∃ yy, yy = w4.drew := ⟨_, rfl⟩
    have hB0 : Below w4.heap.size w4 y0 := by rw [hy0]; exact below_drewN (Below.refl _ _) 1
    have hl : y0.cell? ⟨g, n, none⟩ = some (.int .u64 (S n)) := by rw [hy0]; exact HG.out.2.2.2.2 n hlt
    rw [← hy0] at hHeld ⊢
    clear hy0
    refine G_step (i := 7) (o := { dst := some 56, op := Op.load 30 (Operand.tmp 55), type := 30, pos := _, after := #[{ on := 6, ground := Ground.data }], guard := none }) (by kernel_rfl) rfl (fun K' hK => ?_)
    go_simp
    refine hK.out _ _ (fun _ => hHeld) (fun hS2 => ?_)
    clear hK K' hS2
    (try simp only [Act.put, List.setIfInBounds_toArray, List.set_cons_zero, List.set_cons_succ])
    refine G_step (i := 8) (o := { dst := some 57, op := Op.buildSlice 25 1 #[(0, Operand.tmp 56)], type := 25, pos := _, after := #[{ on := 7, ground := Ground.data }], guard := none }) (by kernel_rfl) rfl (fun K' hK => ?_)
    go_simp
    obtain ⟨y1, hy1⟩ : ∃ yy, yy = y0.alloc (.cells #[.int .u64 (S n)] 30) := ⟨_, rfl⟩
    obtain ⟨vb, hvb⟩ : ∃ yy, yy = y0.heap.size := ⟨_, rfl⟩
    have hb1 : Below y0.heap.size y0 y1 := by rw [hy1]; exact box_below _ _
    have xv : y1.heap[vb]? = some (.cells #[.int .u64 (S n)] 30) := by rw [hy1, hvb]; exact Go.Deep.blk_alloc_new _ _
    have hB1 := hB0.trans (hb1.mono hB0.size)
    have hvg : g < vb := by rw [hvb]; exact Nat.lt_of_lt_of_le (World.block_lt_of_cell? _ _ hl) (Nat.le_refl _)
    rw [← hy1, ← hvb]
    refine hK.out _ _ (fun _ => below_cell hb1 (Nat.le_refl _) hHeld) (fun hS2 => ?_)
    have hHeld2 := hS2 rfl
    clear hK K' hS2 hHeld hy1 hvb hb1 hB0
    (try simp only [Act.put, List.setIfInBounds_toArray, List.set_cons_zero, List.set_cons_succ])
    have D29 := hid (insert_any (w := y1) (g := g) (n := s) (i := n) (vb := vb) (Z := S) (alloc_le hB1 HG.out.1) HG.out.2.1 HG.out.2.2.1 (by omega) HG.out.2.2.2.1 (fun j hj => below_cell hB1 (Nat.le_refl _) (HG.out.2.2.2.2 j hj)) (by omega) xv (by omega))
    refine G_step (i := 9) (o := { dst := some 58, op := Op.call { callee := Callee.value (Operand.func 29), args := #[Operand.tmp 50, Operand.tmp 51, Operand.tmp 57], argTypes := #[25, 3, 25] }, type := 25, pos := _, after := #[{ on := 1, ground := Ground.data }, { on := 2, ground := Ground.data }, { on := 8, ground := Ground.data }], guard := none }) (by kernel_rfl) rfl (fun K' hK => ?_)
    go_simp
    go_at_call 29
    refine D29.out.mono ?_
    rintro e y2 ⟨ad, c5, rfl, hc5, hr5, hbut, had⟩
    dsimp only
    refine hK.out _ _ (fun _ => hbut.cell hg9 hHeld2) (fun hS2 => ?_)
    have hHeld3 := hS2 rfl
    clear hK K' hS2 hHeld2 D29
    (try simp only [Act.put, List.setIfInBounds_toArray, List.set_cons_zero, List.set_cons_succ])
    refine G_take (i := 10) (oi := { dst := some 59, op := Op.fieldAddr 27 (Operand.tmp 9) 0, type := 0, pos := _, after := #[{ on := 0, ground := Ground.phase }, { on := 1, ground := Ground.phase }, { on := 2, ground := Ground.phase }, { on := 3, ground := Ground.phase }, { on := 4, ground := Ground.phase }, { on := 5, ground := Ground.phase }, { on := 6, ground := Ground.phase }, { on := 7, ground := Ground.phase }, { on := 8, ground := Ground.phase }, { on := 9, ground := Ground.phase }], guard := none }) (v := .pointer (some ⟨b9, 0, none⟩)) rfl (by kernel_rfl) (by kernel_rfl) (by kernel_rfl) (by kernel_rfl) (fun _ _ _ h => h) (by rfl) (fun u hu => ?_) hHeld3 ?_
    · (try dsimp only at hu); go_simp
    (try simp only [Act.put, List.setIfInBounds_toArray, List.set_cons_zero, List.set_cons_succ])
    have x92 : y2.heap[b9]? = some (.cells #[.slice (some ⟨g, 0, none⟩) s c3, .slice a4 m c4] 27) := (hbut.block _ (Array.getElem?_eq_some_iff.1 (alloc_le hB1 HC.out.2.1)).1 hg9).trans (alloc_le hB1 HC.out.2.1)
    have f5 := fz_of x92 0
    have hc9 : y2.cell? ⟨b9, 0, none⟩ = some (.slice (some ⟨g, 0, none⟩) s c3) := hHeld3
    refine G_step (i := 11) (o := { dst := none, op := Op.store 25 (Operand.tmp 59) (Operand.tmp 58), type := 0, pos := _, after := #[{ on := 10, ground := Ground.data }, { on := 9, ground := Ground.data }, { on := 9, ground := Ground.chain }, { on := 0, ground := Ground.phase }, { on := 1, ground := Ground.phase }, { on := 2, ground := Ground.phase }, { on := 3, ground := Ground.phase }, { on := 4, ground := Ground.phase }, { on := 5, ground := Ground.phase }, { on := 6, ground := Ground.phase }, { on := 7, ground := Ground.phase }, { on := 8, ground := Ground.phase }, { on := 9, ground := Ground.phase }], guard := none }) (by kernel_rfl) rfl (fun K' hK => ?_)
    go_simp
    refine hK.out _ _ (fun h => absurd h (by decide)) (fun _ => ?_)
    clear hK K' hHeld3 f5 hc9
    (try simp only [Act.put, List.setIfInBounds_toArray, List.set_cons_zero, List.set_cons_succ])
    refine G_done (by kernel_rfl) ?_ _
    obtain ⟨Y, hY⟩ : ∃ q, q = y2.setCell ⟨b9, 0, none⟩ (.slice (some ad) (s + 1) c5) := ⟨_, rfl⟩
    have hbY : But b9 y2 Y := by rw [hY]; exact (But.refl _ _).setCell _ _
    have xY : Y.heap[b9]? = some (.cells #[.slice (some ad) (s + 1) c5, .slice a4 m c4] 27) := by rw [hY]; exact one_set0 x92 _
    have h9l : b9 < w4.heap.size := (Array.getElem?_eq_some_iff.1 HC.out.2.1).1
    have hBy1 : Below z.heap.size z y1 := HC.out.1.trans (hB1.mono HC.out.1.size)
    have hBy2 : Below z.heap.size z y2 := hBy1.trans (hbut.below hgb hBy1.size)
    have hBY : Below z.heap.size z Y := hBy2.trans (hbY.below hz9 hBy2.size)
    have hBU : Below u.heap.size u Y := HZ.out.trans (hBY.mono HZ.out.size)
    have hr6 : RowU Y (some ad) (s + 1) (dbl n S) := hr5.but hbY (fun v hv => by
      cases hv
      rcases had with e | e
      · rw [e]; exact fun e2 => hg9 e2.symm
      · have := hB1.size
        omega)
    have hro := row_of_own HC.out.2.2.2.2.1
    have hr7 : RowU Y a4 m L := ((hro.1.below hB1).but hbut (fun v hv => HAP.out v hv)).but hbY (fun v hv => owns_ne (by rw [← hv]; exact HC.out.2.2.2.2.1) rfl HC.out.2.1)
    have hfY := (HX.out Y hBU).2.2
    have hFw : Fw Y t a (some ad) (s + 1) c5 a4 m c4 (dbl n S) L := ⟨hfY.kc, hfY.kds, hfY.cnt, ⟨hr6, hr7, by omega, by omega, dbl_u hlt hfY.wd.su, hfY.wd.lu⟩, fun h => (by cases h), hro.2⟩
    have D18 := hid (truth_any (cap := cap) hFw)
    obtain ⟨U, hU⟩ : ∃ tt, tt = trV t (s + 1) m (dbl n S) L := ⟨_, rfl⟩
    have HE : Hid (U.2 = true → T1 = U.1) := fun h2 => by
      have e1 : (trV t s m S L).2 = true := by rw [← HT.out]
      have e2 := tr_stut HPl.out (slS_slow n) (slS_ltr hlt) e1 (by rw [← hU]; exact h2)
      rw [← HT.out, ← hU] at e2
      exact e2
    rw [← hU] at D18
    obtain ⟨U1, U2⟩ := U
    dsimp only at D18
    have k0 := (two_cells xY).1
    have k1 := (two_cells xY).2
    obtain ⟨⟨f0, f1, f2, _, _⟩, _, _⟩ := HX.out Y hBU
    have HBU := hid hBU
    rw [← hY]
    clear hY hbY xY h9l hBy1 hBy2 hBY hBU hr6 hr7 hro hfY hFw hU hbut hr5 had hc5 x92 xv hvg hB1 hl
    go_wp2_with fail
    refine D18.out.mono ?_
    rintro e y9 ⟨rfl, hb⟩
    have HB9 : Hid (Below w.heap.size w y9) := hid (HX.out y9 (HBU.out.trans (hb.mono HBU.out.size))).2.1
    clear hb D18 k0 k1 f0 f1 f2
    cases U2
    · go_wp2
      go_ret
      exact ⟨rfl, HB9.out⟩
    · have e := HE.out rfl
      (try dsimp only at e)
      subst e
      have hbb : (T1 == T1) = true := by simp
      go_wp2
      go_ret
      exact ⟨by first | rfl | simp, HB9.out⟩
  · obtain ⟨q, hq⟩ : ∃ q, n = s + q := ⟨n - s, by omega⟩
    have hqm : q < m := by omega
    have hnq : (n : Int) - (s : Int) = (q : Int) := by omega
    have hwq : IntKind.i64.wrap (q : Int) = (q : Int) := by rw [IntKind.wrap_i64] <;> omega
    obtain ⟨g, cur, hga, hgb, hgh, hgs, hgn, hgc, hgl⟩ := own_open HC.out.2.2.2.2.1 (by omega)
    subst hga
    have HG : Hid (w4.heap[g]? = some (.cells cur 30 (0, 0)) ∧ cur.size = c4 ∧ m ≤ c4 ∧ c4 ≤ 9223372036854775807 ∧ ∀ j, j < m → w4.cell? ⟨g, j, none⟩ = some (.int .u64 (L j))) := ⟨hgh, hgs, hgn, hgc, hgl⟩
    have hg9 : b9 ≠ g := fun e => (owns_ne HC.out.2.2.2.2.1 rfl HC.out.2.1) e.symm
    have hgw : w.heap.size + 1 ≠ g := by omega
    have h9 : w4.cell? ⟨b9, 1, none⟩ = some (.slice (some ⟨g, 0, none⟩) m c4) := H9W.out 1 _ rfl
    have HAP : Hid (∀ v, a3 = some v → v.block ≠ g) := fun v hv => HC.out.2.2.2.2.2 v ⟨g, 0, none⟩ hv rfl
    have HQ := hid hq
    clear hgh hgs hgn hgc hgl hq
    go_wp2_with fail
    refine G_region (fun y => y.cell? ⟨b9, 1, none⟩ = some (.slice (some ⟨g, 0, none⟩) m c4) ∧ y.cell? ⟨w.heap.size + 1, 0, none⟩ = some (.slice sa s sc)) (fun j => j == 19) (by kernel_rfl) ⟨h9, hx0⟩ (fun hHeld => ?_)
    refine G_take (i := 0) (oi := { dst := some 60, op := Op.fieldAddr 27 (Operand.tmp 9) 1, type := 0, pos := _, after := #[], guard := none }) (v := .pointer (some ⟨b9, 1, none⟩)) rfl (by kernel_rfl) (by kernel_rfl) (by kernel_rfl) (by kernel_rfl) (fun _ _ _ h => h) (by rfl) (fun u hu => ?_) hHeld ?_
    · (try dsimp only at hu); go_simp
    (try simp only [Act.put, List.setIfInBounds_toArray, List.set_cons_zero, List.set_cons_succ])
    refine G_take (i := 1) (oi := { dst := some 61, op := Op.load 25 (Operand.tmp 60), type := 25, pos := _, after := #[{ on := 0, ground := Ground.data }], guard := none }) (v := .slice (some ⟨g, 0, none⟩) m c4) rfl (by kernel_rfl) (by kernel_rfl) (by kernel_rfl) (by kernel_rfl) (fun _ _ _ h => h) (by rfl) (fun u hu => ?_) hHeld ?_
    · (try dsimp only at hu); go_simp
    (try simp only [Act.put, List.setIfInBounds_toArray, List.set_cons_zero, List.set_cons_succ])
    refine G_take (i := 2) (oi := { dst := some 62, op := Op.move (Operand.tmp 10), type := 3, pos := _, after := #[], guard := none }) (v := .int .i64 n) rfl (by kernel_rfl) (by kernel_rfl) (by kernel_rfl) (by kernel_rfl) (fun _ _ _ h => h) (by rfl) (fun u hu => ?_) hHeld ?_
    · (try dsimp only at hu); go_simp
    (try simp only [Act.put, List.setIfInBounds_toArray, List.set_cons_zero, List.set_cons_succ])
    refine G_take (i := 3) (oi := { dst := some 63, op := Op.fieldAddr 27 (Operand.tmp 4) 0, type := 0, pos := _, after := #[], guard := none }) (v := .pointer (some ⟨w.heap.size + 1, 0, none⟩)) rfl (by kernel_rfl) (by kernel_rfl) (by kernel_rfl) (by kernel_rfl) (fun _ _ _ h => h) (by rfl) (fun u hu => ?_) hHeld ?_
    · (try dsimp only at hu); go_simp
    (try simp only [Act.put, List.setIfInBounds_toArray, List.set_cons_zero, List.set_cons_succ])
    refine G_take (i := 4) (oi := { dst := some 64, op := Op.load 25 (Operand.tmp 63), type := 25, pos := _, after := #[{ on := 3, ground := Ground.data }], guard := none }) (v := .slice sa s sc) rfl (by kernel_rfl) (by kernel_rfl) (by kernel_rfl) (by kernel_rfl) (fun _ _ _ h => h) (by rfl) (fun u hu => ?_) hHeld ?_
    · (try dsimp only at hu); go_simp
    (try simp only [Act.put, List.setIfInBounds_toArray, List.set_cons_zero, List.set_cons_succ])
    refine G_take (i := 5) (oi := { dst := some 65, op := Op.call { callee := Callee.builtin Builtin.len, args := #[Operand.tmp 64], argTypes := #[25] }, type := 3, pos := _, after := #[{ on := 4, ground := Ground.data }], guard := none }) (v := .int .i64 s) rfl (by kernel_rfl) (by kernel_rfl) (by kernel_rfl) (by kernel_rfl) (fun _ _ _ h => h) (by rfl) (fun u hu => ?_) hHeld ?_
    · (try dsimp only at hu); go_simp
    (try simp only [Act.put, List.setIfInBounds_toArray, List.set_cons_zero, List.set_cons_succ])
    refine G_take (i := 6) (oi := { dst := some 66, op := Op.binOp BinOp.sub 3 (Operand.tmp 62) (Operand.tmp 65) 3, type := 3, pos := _, after := #[{ on := 2, ground := Ground.data }, { on := 5, ground := Ground.data }], guard := none }) (v := .int .i64 q) rfl (by kernel_rfl) (by kernel_rfl) (by kernel_rfl) (by kernel_rfl) (fun _ _ _ h => h) (by rfl) (fun u hu => ?_) hHeld ?_
    · (try dsimp only at hu); go_simp
    (try simp only [Act.put, List.setIfInBounds_toArray, List.set_cons_zero, List.set_cons_succ])
    refine G_take (i := 7) (oi := { dst := some 67, op := Op.fieldAddr 27 (Operand.tmp 9) 1, type := 0, pos := _, after := #[], guard := none }) (v := .pointer (some ⟨b9, 1, none⟩)) rfl (by kernel_rfl) (by kernel_rfl) (by kernel_rfl) (by kernel_rfl) (fun _ _ _ h => h) (by rfl) (fun u hu => ?_) hHeld ?_
    · (try dsimp only at hu); go_simp
    (try simp only [Act.put, List.setIfInBounds_toArray, List.set_cons_zero, List.set_cons_succ])
    refine G_take (i := 8) (oi := { dst := some 68, op := Op.load 25 (Operand.tmp 67), type := 25, pos := _, after := #[{ on := 7, ground := Ground.data }], guard := none }) (v := .slice (some ⟨g, 0, none⟩) m c4) rfl (by kernel_rfl) (by kernel_rfl) (by kernel_rfl) (by kernel_rfl) (fun _ _ _ h => h) (by rfl) (fun u hu => ?_) hHeld ?_
    · (try dsimp only at hu); go_simp
    (try simp only [Act.put, List.setIfInBounds_toArray, List.set_cons_zero, List.set_cons_succ])
    refine G_take (i := 9) (oi := { dst := some 69, op := Op.move (Operand.tmp 10), type := 3, pos := _, after := #[], guard := none }) (v := .int .i64 n) rfl (by kernel_rfl) (by kernel_rfl) (by kernel_rfl) (by kernel_rfl) (fun _ _ _ h => h) (by rfl) (fun u hu => ?_) hHeld ?_
    · (try dsimp only at hu); go_simp
    (try simp only [Act.put, List.setIfInBounds_toArray, List.set_cons_zero, List.set_cons_succ])
    refine G_take (i := 10) (oi := { dst := some 70, op := Op.fieldAddr 27 (Operand.tmp 4) 0, type := 0, pos := _, after := #[], guard := none }) (v := .pointer (some ⟨w.heap.size + 1, 0, none⟩)) rfl (by kernel_rfl) (by kernel_rfl) (by kernel_rfl) (by kernel_rfl) (fun _ _ _ h => h) (by rfl) (fun u hu => ?_) hHeld ?_
    · (try dsimp only at hu); go_simp
    (try simp only [Act.put, List.setIfInBounds_toArray, List.set_cons_zero, List.set_cons_succ])
    refine G_take (i := 11) (oi := { dst := some 71, op := Op.load 25 (Operand.tmp 70), type := 25, pos := _, after := #[{ on := 10, ground := Ground.data }], guard := none }) (v := .slice sa s sc) rfl (by kernel_rfl) (by kernel_rfl) (by kernel_rfl) (by kernel_rfl) (fun _ _ _ h => h) (by rfl) (fun u hu => ?_) hHeld ?_
    · (try dsimp only at hu); go_simp
    (try simp only [Act.put, List.setIfInBounds_toArray, List.set_cons_zero, List.set_cons_succ])
    refine G_take (i := 12) (oi := { dst := some 72, op := Op.call { callee := Callee.builtin Builtin.len, args := #[Operand.tmp 71], argTypes := #[25] }, type := 3, pos := _, after := #[{ on := 11, ground := Ground.data }], guard := none }) (v := .int .i64 s) rfl (by kernel_rfl) (by kernel_rfl) (by kernel_rfl) (by kernel_rfl) (fun _ _ _ h => h) (by rfl) (fun u hu => ?_) hHeld ?_
    · (try dsimp only at hu); go_simp
    (try simp only [Act.put, List.setIfInBounds_toArray, List.set_cons_zero, List.set_cons_succ])
    refine G_take (i := 13) (oi := { dst := some 73, op := Op.binOp BinOp.sub 3 (Operand.tmp 69) (Operand.tmp 72) 3, type := 3, pos := _, after := #[{ on := 9, ground := Ground.data }, { on := 12, ground := Ground.data }], guard := none }) (v := .int .i64 q) rfl (by kernel_rfl) (by kernel_rfl) (by kernel_rfl) (by kernel_rfl) (fun _ _ _ h => h) (by rfl) (fun u hu => ?_) hHeld ?_
    · (try dsimp only at hu); go_simp
    (try simp only [Act.put, List.setIfInBounds_toArray, List.set_cons_zero, List.set_cons_succ])
    refine G_take (i := 14) (oi := { dst := some 74, op := Op.indexAddr 25 (Operand.tmp 68) (Operand.tmp 73), type := 0, pos := _, after := #[{ on := 8, ground := Ground.data }, { on := 13, ground := Ground.data }], guard := none }) (v := .pointer (some ⟨g, q, none⟩)) rfl (by kernel_rfl) (by kernel_rfl) (by kernel_rfl) (by kernel_rfl) (fun _ _ _ h => h) (by rfl) (fun u hu => ?_) hHeld ?_
    · (try dsimp only at hu); go_simp
    (try simp only [Act.put, List.setIfInBounds_toArray, List.set_cons_zero, List.set_cons_succ])
    obtain ⟨y0, hy0⟩ : ∃ yy, yy = w4.drew := ⟨_, rfl⟩
    have hB0 : Below w4.heap.size w4 y0 := by rw [hy0]; exact below_drewN (Below.refl _ _) 1
    have hl : y0.cell? ⟨g, q, none⟩ = some (.int .u64 (L q)) := by rw [hy0]; exact HG.out.2.2.2.2 q hqm
    rw [← hy0] at hHeld ⊢
    clear hy0
    refine G_step (i := 15) (o := { dst := some 75, op := Op.load 30 (Operand.tmp 74), type := 30, pos := _, after := #[{ on := 14, ground := Ground.data }], guard := none }) (by kernel_rfl) rfl (fun K' hK => ?_)
    go_simp
    refine hK.out _ _ (fun _ => hHeld) (fun hS2 => ?_)
    clear hK K' hS2
    (try simp only [Act.put, List.setIfInBounds_toArray, List.set_cons_zero, List.set_cons_succ])
    refine G_step (i := 16) (o := { dst := some 76, op := Op.buildSlice 25 1 #[(0, Operand.tmp 75)], type := 25, pos := _, after := #[{ on := 15, ground := Ground.data }], guard := none }) (by kernel_rfl) rfl (fun K' hK => ?_)
    go_simp
    obtain ⟨y1, hy1⟩ : ∃ yy, yy = y0.alloc (.cells #[.int .u64 (L q)] 30) := ⟨_, rfl⟩
    obtain ⟨vb, hvb⟩ : ∃ yy, yy = y0.heap.size := ⟨_, rfl⟩
    have hb1 : Below y0.heap.size y0 y1 := by rw [hy1]; exact box_below _ _
    have xv : y1.heap[vb]? = some (.cells #[.int .u64 (L q)] 30) := by rw [hy1, hvb]; exact Go.Deep.blk_alloc_new _ _
    have hB1 := hB0.trans (hb1.mono hB0.size)
    have hvg : g < vb := by rw [hvb]; exact Nat.lt_of_lt_of_le (World.block_lt_of_cell? _ _ hl) (Nat.le_refl _)
    rw [← hy1, ← hvb]
    refine hK.out _ _ (fun _ => ⟨below_cell hb1 (Nat.le_refl _) hHeld.1, below_cell hb1 (Nat.le_refl _) hHeld.2⟩) (fun hS2 => ?_)
    have hHeld2 := hS2 rfl
    clear hK K' hS2 hHeld hy1 hvb hb1 hB0
    (try simp only [Act.put, List.setIfInBounds_toArray, List.set_cons_zero, List.set_cons_succ])
    have D29 := hid (insert_any (w := y1) (g := g) (n := m) (i := q) (vb := vb) (Z := L) (alloc_le hB1 HG.out.1) HG.out.2.1 HG.out.2.2.1 (by omega) HG.out.2.2.2.1 (fun j hj => below_cell hB1 (Nat.le_refl _) (HG.out.2.2.2.2 j hj)) (by omega) xv (by omega))
    refine G_step (i := 17) (o := { dst := some 77, op := Op.call { callee := Callee.value (Operand.func 29), args := #[Operand.tmp 61, Operand.tmp 66, Operand.tmp 76], argTypes := #[25, 3, 25] }, type := 25, pos := _, after := #[{ on := 1, ground := Ground.data }, { on := 6, ground := Ground.data }, { on := 16, ground := Ground.data }], guard := none }) (by kernel_rfl) rfl (fun K' hK => ?_)
    go_simp
    go_at_call 29
    refine D29.out.mono ?_
    rintro e y2 ⟨ad, c5, rfl, hc5, hr5, hbut, had⟩
    dsimp only
    refine hK.out _ _ (fun _ => ⟨hbut.cell hg9 hHeld2.1, hbut.cell hgw hHeld2.2⟩) (fun hS2 => ?_)
    have hHeld3 := hS2 rfl
    clear hK K' hS2 hHeld2 D29
    (try simp only [Act.put, List.setIfInBounds_toArray, List.set_cons_zero, List.set_cons_succ])
    refine G_take (i := 18) (oi := { dst := some 78, op := Op.fieldAddr 27 (Operand.tmp 9) 1, type := 0, pos := _, after := #[{ on := 0, ground := Ground.phase }, { on := 1, ground := Ground.phase }, { on := 2, ground := Ground.phase }, { on := 3, ground := Ground.phase }, { on := 4, ground := Ground.phase }, { on := 5, ground := Ground.phase }, { on := 6, ground := Ground.phase }, { on := 7, ground := Ground.phase }, { on := 8, ground := Ground.phase }, { on := 9, ground := Ground.phase }, { on := 10, ground := Ground.phase }, { on := 11, ground := Ground.phase }, { on := 12, ground := Ground.phase }, { on := 13, ground := Ground.phase }, { on := 14, ground := Ground.phase }, { on := 15, ground := Ground.phase }, { on := 16, ground := Ground.phase }, { on := 17, ground := Ground.phase }], guard := none }) (v := .pointer (some ⟨b9, 1, none⟩)) rfl (by kernel_rfl) (by kernel_rfl) (by kernel_rfl) (by kernel_rfl) (fun _ _ _ h => h) (by rfl) (fun u hu => ?_) hHeld3 ?_
    · (try dsimp only at hu); go_simp
    (try simp only [Act.put, List.setIfInBounds_toArray, List.set_cons_zero, List.set_cons_succ])
    have x92 : y2.heap[b9]? = some (.cells #[.slice a3 s c3, .slice (some ⟨g, 0, none⟩) m c4] 27) := (hbut.block _ (Array.getElem?_eq_some_iff.1 (alloc_le hB1 HC.out.2.1)).1 hg9).trans (alloc_le hB1 HC.out.2.1)
    have f5 := fz_of x92 1
    have hc9 : y2.cell? ⟨b9, 1, none⟩ = some (.slice (some ⟨g, 0, none⟩) m c4) := hHeld3.1
    refine G_step (i := 19) (o := { dst := none, op := Op.store 25 (Operand.tmp 78) (Operand.tmp 77), type := 0, pos := _, after := #[{ on := 18, ground := Ground.data }, { on := 17, ground := Ground.data }, { on := 17, ground := Ground.chain }, { on := 0, ground := Ground.phase }, { on := 1, ground := Ground.phase }, { on := 2, ground := Ground.phase }, { on := 3, ground := Ground.phase }, { on := 4, ground := Ground.phase }, { on := 5, ground := Ground.phase }, { on := 6, ground := Ground.phase }, { on := 7, ground := Ground.phase }, { on := 8, ground := Ground.phase }, { on := 9, ground := Ground.phase }, { on := 10, ground := Ground.phase }, { on := 11, ground := Ground.phase }, { on := 12, ground := Ground.phase }, { on := 13, ground := Ground.phase }, { on := 14, ground := Ground.phase }, { on := 15, ground := Ground.phase }, { on := 16, ground := Ground.phase }, { on := 17, ground := Ground.phase }], guard := none }) (by kernel_rfl) rfl (fun K' hK => ?_)
    go_simp
    refine hK.out _ _ (fun h => absurd h (by decide)) (fun _ => ?_)
    clear hK K' hHeld3 f5 hc9
    (try simp only [Act.put, List.setIfInBounds_toArray, List.set_cons_zero, List.set_cons_succ])
    refine G_done (by kernel_rfl) ?_ _
    obtain ⟨Y, hY⟩ : ∃ q, q = y2.setCell ⟨b9, 1, none⟩ (.slice (some ad) (m + 1) c5) := ⟨_, rfl⟩
    have hbY : But b9 y2 Y := by rw [hY]; exact (But.refl _ _).setCell _ _
    have xY : Y.heap[b9]? = some (.cells #[.slice a3 s c3, .slice (some ad) (m + 1) c5] 27) := by rw [hY]; exact one_set1 x92 _
    have h9l : b9 < w4.heap.size := (Array.getElem?_eq_some_iff.1 HC.out.2.1).1
    have hBy1 : Below z.heap.size z y1 := HC.out.1.trans (hB1.mono HC.out.1.size)
    have hBy2 : Below z.heap.size z y2 := hBy1.trans (hbut.below hgb hBy1.size)
    have hBY : Below z.heap.size z Y := hBy2.trans (hbY.below hz9 hBy2.size)
    have hBU : Below u.heap.size u Y := HZ.out.trans (hBY.mono HZ.out.size)
    have hr6 : RowU Y (some ad) (m + 1) (dbl q L) := hr5.but hbY (fun v hv => by
      cases hv
      rcases had with e | e
      · rw [e]; exact fun e2 => hg9 e2.symm
      · have := hB1.size
        omega)
    have hro := row_of_own HC.out.2.2.2.1
    have hr7 : RowU Y a3 s S := ((hro.1.below hB1).but hbut (fun v hv => HAP.out v hv)).but hbY (fun v hv => owns_ne (by rw [← hv]; exact HC.out.2.2.2.1) rfl HC.out.2.1)
    have hfY := (HX.out Y hBU).2.2
    have hFw : Fw Y t a a3 s c3 (some ad) (m + 1) c5 S (dbl q L) := ⟨hfY.kc, hfY.kds, hfY.cnt, ⟨hr7, hr6, by omega, by omega, hfY.wd.su, dbl_u hqm hfY.wd.lu⟩, hro.2, fun h => (by cases h)⟩
    have D18 := hid (truth_any (cap := cap) hFw)
    obtain ⟨U, hU⟩ : ∃ tt, tt = trV t s (m + 1) S (dbl q L) := ⟨_, rfl⟩
    have HE : Hid (U.2 = true → T1 = U.1) := fun h2 => by
      have e1 : (trV t s m S L).2 = true := by rw [← HT.out]
      have e2 := tr_stut HPl.out (slL_slow hqm) (slL_ltr hqm) e1 (by rw [← hU]; exact h2)
      rw [← HT.out, ← hU] at e2
      exact e2
    rw [← hU] at D18
    obtain ⟨U1, U2⟩ := U
    dsimp only at D18
    have k0 := (two_cells xY).1
    have k1 := (two_cells xY).2
    obtain ⟨⟨f0, f1, f2, _, _⟩, _, _⟩ := HX.out Y hBU
    have HBU := hid hBU
    rw [← hY]
    clear hY hbY xY h9l hBy1 hBy2 hBY hBU hr6 hr7 hro hfY hFw hU hbut hr5 had hc5 x92 xv hvg hB1 hl
    go_wp2_with fail
    refine D18.out.mono ?_
    rintro e y9 ⟨rfl, hb⟩
    have HB9 : Hid (Below w.heap.size w y9) := hid (HX.out y9 (HBU.out.trans (hb.mono HBU.out.size))).2.1
    clear hb D18 k0 k1 f0 f1 f2
    cases U2
    · go_wp2
      go_ret
      exact ⟨rfl, HB9.out⟩
    · have e := HE.out rfl
      (try dsimp only at e)
      subst e
      have hbb : (T1 == T1) = true := by simp
      go_wp2
      go_ret
      exact ⟨by first | rfl | simp, HB9.out⟩

end Go.Proofs.YtejombhfkobcbaaDoor
