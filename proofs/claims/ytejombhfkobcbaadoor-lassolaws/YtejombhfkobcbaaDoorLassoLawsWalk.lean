/- LassoLaws: the two formulas that its laws are about. -/
import Derived.Test.YtejombhfkobcbaaDoorNow2
import Derived.Deep.CutRange
import Derived.Test.YtejombhfkobcbaaDoorHeld
import Derived.Test.YtejombhfkobcbaaDoorUnr
namespace Go.Proofs.YtejombhfkobcbaaDoor
open Go.RowKit

/-- A formula's three cells in block b. -/
structure Fb (w : World) (b : Nat) (t : Fml) (a : Option Addr) (c : Nat) : Prop where
  c0 : w.cell? ⟨b, 0, none⟩ = some (.int .i64 t.kind)
  c1 : w.cell? ⟨b, 1, none⟩ = some (.int .i64 t.num)
  c2 : w.cell? ⟨b, 2, none⟩ = some (.slice a t.cnt c)

theorem Fb.below {w w' : World} {b : Nat} {t : Fml} {a : Option Addr} {c : Nat} (h : Fb w b t a c) (hb : Below w.heap.size w w') : Fb w' b t a c :=
  ⟨below_cell hb (Nat.le_refl _) h.c0, below_cell hb (Nat.le_refl _) h.c1, below_cell hb (Nat.le_refl _) h.c2⟩

theorem fb_of {w : World} {b : Nat} {t : Fml} {a : Option Addr} {c : Nat} (h : w.heap[b]? = some (.cells #[.int .i64 t.kind, .int .i64 t.num, .slice a t.cnt c] 24)) : Fb w b t a c := ⟨cell_of_cells h rfl, cell_of_cells h rfl, cell_of_cells h rfl⟩

theorem six_three {w : World} {x y : Nat} {a b c d e f g h i : Value} (h1 : w.heap[x]? = some (.cells #[a, b, c, d, e, f] 24 (0, 0))) (h2 : w.heap[y]? = some (.cells #[g, h, i] 24 (0, 0))) : x ≠ y := by
  rintro rfl
  rw [h1] at h2
  injection h2 with h2
  injection h2 with h3
  have := congrArg Array.size h3
  simp at this

section
variable {P : Program} {ops : Array Oper} {Q : Exit → Act → World → Prop} {md : Region.Mode} {S : World → Prop} {ex : Nat → Bool}
/-- Whichever of those that are ready comes up. -/
theorem G_alt {f : Nat} {listed : Array Bool} {a : Act} {w : World} {l : List Nat} (hr : Region.ready md ops listed = l) (hl : l ≠ [])
    (h : ∀ i, i ∈ l → ∃ o, ops[i]? = some o ∧ ∀ K' : Act → World → Prop, Shut (∀ a w, (ex i = false → S w) → ((ex i = false → S w) → wpAnyG P md ops Q S ex f (listed.setIfInBounds i true) a w) → K' a w) → if Region.wanted o (yielded ops a.tmps) = true then Oper.wp P o a w K' Q else K' (a.put o.dst undef) w) :
    wpAnyG P md ops Q S ex (f + 1) listed a w := by
  refine ⟨fun h0 => absurd (hr.symm.trans h0) hl, fun j hj => ?_⟩
  rw [hr] at hj
  obtain ⟨o, ho, hh⟩ := h j hj
  exact wpOp_step ho (fun K' hK => hh K' (fun a w hS hW => hK a w ⟨hS, hW hS⟩))
end

set_option maxHeartbeats 8000000 in
theorem lassoLaws_walk {w : World} {f g : Fml} {a0 a1 : Option Addr} {cap0 cap1 : Nat} {sa : Option Addr} {s sc : Nat} {la : Option Addr} {m lc : Nat} {S L : Nat → Int} (hl : Wl w sa s sc la m lc S L) (hf : Kds w f a0) (hfc : f.cnt ≤ 9223372036854775807) (hg : Kds w g a1) (hgc : g.cnt ≤ 9223372036854775807) :
    Calls Tryd.prog 4 #[.agg #[.int .i64 f.kind, .int .i64 f.num, .slice a0 f.cnt cap0], .agg #[.int .i64 g.kind, .int .i64 g.num, .slice a1 g.cnt cap1], .agg #[.slice sa s sc, .slice la m lc]] w fun e w' => e = .returned (.bool true) ∧ Below w.heap.size w w' := by
  obtain ⟨u, hu⟩ : ∃ y, y = ((w.alloc (.cells #[.int .i64 f.kind, .int .i64 f.num, .slice a0 f.cnt cap0] 24)).alloc (.cells #[.int .i64 g.kind, .int .i64 g.num, .slice a1 g.cnt cap1] 24)).alloc (.cells #[.slice sa s sc, .slice la m lc] 27) := ⟨_, rfl⟩
  have hB : Below w.heap.size w u := by rw [hu]; exact below_alloc3 _ _ _ _
  obtain ⟨x0, x1, x2⟩ := three_boxes w #[.int .i64 f.kind, .int .i64 f.num, .slice a0 f.cnt cap0] #[.int .i64 g.kind, .int .i64 g.num, .slice a1 g.cnt cap1] #[.slice sa s sc, .slice la m lc] 24 24 27
  rw [← hu] at x0 x1 x2
  have C := hid (now_any u (hl.below hB).kc)
  have HX : Hid (∀ z, Below u.heap.size u z → Fb z w.heap.size f a0 cap0 ∧ Fb z (w.heap.size + 1) g a1 cap1 ∧ Wb z (w.heap.size + 1 + 1) sa s sc la m lc ∧ Wl z sa s sc la m lc S L ∧ Kds z f a0 ∧ Kds z g a1 ∧ Below w.heap.size w z) := fun z hz =>
    ⟨(fb_of x0).below hz, (fb_of x1).below hz, ⟨below_cell hz (Nat.le_refl _) (cell_of_cells x2 rfl), below_cell hz (Nat.le_refl _) (cell_of_cells x2 rfl)⟩, (hl.below hB).below hz, (hf.below hB).below hz, (hg.below hB).below hz, hB.trans (hz.mono hB.size)⟩
  have HU := hid hu
  have hsz : u.heap.size = w.heap.size + 1 + 1 + 1 := by rw [hu]; simp
  have HSZ := hid hsz
  clear hu hB x0 x1 x2 hl hf hg hsz
  go_enter Tryd.func4, Tryd.ntmps4
  go_wp2_with fail
  rw [← HU.out]
  refine C.out.mono ?_
  rintro e z ⟨rfl, hbz⟩
  have HZ := hid hbz
  clear C hbz HU
  obtain ⟨⟨f0, f1, f2⟩, ⟨g0, g1, g2⟩, -⟩ := HX.out z HZ.out
  have n1 := World.new_ne z _ f0
  have n2 := World.new_ne z _ g0
  have k1 : w.heap.size < z.heap.size := World.block_lt_of_cell? _ _ f0
  have k2 : w.heap.size + 1 < z.heap.size := World.block_lt_of_cell? _ _ g0
  go_upto_region 4 with fail
  go_cut [8, 9] from 15 to 20 (fun v8 v9 wc => ∃ ub rb a8 c8 a9 c9, v8 = .pointer (some ⟨ub, 0, none⟩) ∧ v9 = .pointer (some ⟨rb, 0, none⟩) ∧ Hid (Below z.heap.size z wc ∧ Fb wc ub (tw 8 f g) a8 c8 ∧ Fb wc rb (tw 9 f g) a9 c9 ∧ Kds wc (tw 8 f g) a8 ∧ Kds wc (tw 9 f g) a9))
  case first =>
    have HS : Hid (∀ y, Below z.heap.size z y → (fun y => y.cell? ⟨w.heap.size, 0, none⟩ = some (.int .i64 f.kind) ∧ y.cell? ⟨w.heap.size, 1, none⟩ = some (.int .i64 f.num) ∧ y.cell? ⟨w.heap.size, 2, none⟩ = some (.slice a0 f.cnt cap0) ∧ y.cell? ⟨w.heap.size + 1, 0, none⟩ = some (.int .i64 g.kind) ∧ y.cell? ⟨w.heap.size + 1, 1, none⟩ = some (.int .i64 g.num) ∧ y.cell? ⟨w.heap.size + 1, 2, none⟩ = some (.slice a1 g.cnt cap1)) y) := fun y hy => ⟨below_cell hy (Nat.le_refl _) f0, below_cell hy (Nat.le_refl _) f1, below_cell hy (Nat.le_refl _) f2, below_cell hy (Nat.le_refl _) g0, below_cell hy (Nat.le_refl _) g1, below_cell hy (Nat.le_refl _) g2⟩
    have HKF : Hid (Kds z f a0 ∧ Kds z g a1) := ⟨(HX.out z HZ.out).2.2.2.2.1, (HX.out z HZ.out).2.2.2.2.2.1⟩
    have C19 : Hid (∀ (y : World) (k : Int), Below z.heap.size z y → Calls Tryd.prog 19 #[.int .i64 k, .agg #[.int .i64 f.kind, .int .i64 f.num, .slice a0 f.cnt cap0], .agg #[.int .i64 g.kind, .int .i64 g.num, .slice a1 g.cnt cap1]] y fun e w' => ∃ kb, e = .returned (.agg #[.int .i64 k, .int .i64 0, .slice (some ⟨kb, 0, none⟩) 2 2]) ∧ w'.heap[kb]? = some (.cells #[.int .i64 f.kind, .int .i64 f.num, .slice a0 f.cnt cap0, .int .i64 g.kind, .int .i64 g.num, .slice a1 g.cnt cap1] 24) ∧ Below y.heap.size y w') := fun y k _ => (two_g k f a0 cap0 g a1 cap1 y).mono fun _ _ hh => ⟨_, hh⟩
    have hB0 : Below z.heap.size z z.drew := below_drewN (Below.refl _ _) 1
    clear f0 f1 f2 g0 g1 g2 n1 n2 k1 k2 HX HSZ
    refine G_region (fun y => y.cell? ⟨w.heap.size, 0, none⟩ = some (.int .i64 f.kind) ∧ y.cell? ⟨w.heap.size, 1, none⟩ = some (.int .i64 f.num) ∧ y.cell? ⟨w.heap.size, 2, none⟩ = some (.slice a0 f.cnt cap0) ∧ y.cell? ⟨w.heap.size + 1, 0, none⟩ = some (.int .i64 g.kind) ∧ y.cell? ⟨w.heap.size + 1, 1, none⟩ = some (.int .i64 g.num) ∧ y.cell? ⟨w.heap.size + 1, 2, none⟩ = some (.slice a1 g.cnt cap1)) (fun _ => false) (by kernel_rfl) (HS.out _ hB0) (fun _ => ?_)
    refine G_take (i := 0) (oi := { dst := some 15, op := Op.load 24 (Operand.tmp 3), type := 24, pos := _, after := #[], guard := none }) (v := .agg #[.int .i64 f.kind, .int .i64 f.num, .slice a0 f.cnt cap0]) rfl (by kernel_rfl) (by kernel_rfl) (by kernel_rfl) (by kernel_rfl) (fun _ _ _ h => h) (by rfl) (fun u hu => ?_) (HS.out _ hB0) ?_
    · (try dsimp only at hu); go_simp
    (try simp only [Act.put, List.setIfInBounds_toArray, List.set_cons_zero, List.set_cons_succ])
    refine G_take (i := 1) (oi := { dst := some 16, op := Op.load 24 (Operand.tmp 4), type := 24, pos := _, after := #[], guard := none }) (v := .agg #[.int .i64 g.kind, .int .i64 g.num, .slice a1 g.cnt cap1]) rfl (by kernel_rfl) (by kernel_rfl) (by kernel_rfl) (by kernel_rfl) (fun _ _ _ h => h) (by rfl) (fun u hu => ?_) (HS.out _ hB0) ?_
    · (try dsimp only at hu); go_simp
    (try simp only [Act.put, List.setIfInBounds_toArray, List.set_cons_zero, List.set_cons_succ])
    refine G_take (i := 3) (oi := { dst := some 18, op := Op.load 24 (Operand.tmp 3), type := 24, pos := _, after := #[], guard := none }) (v := .agg #[.int .i64 f.kind, .int .i64 f.num, .slice a0 f.cnt cap0]) rfl (by kernel_rfl) (by kernel_rfl) (by kernel_rfl) (by kernel_rfl) (fun _ _ _ h => h) (by rfl) (fun u hu => ?_) (HS.out _ hB0) ?_
    · (try dsimp only at hu); go_simp
    (try simp only [Act.put, List.setIfInBounds_toArray, List.set_cons_zero, List.set_cons_succ])
    refine G_take (i := 4) (oi := { dst := some 19, op := Op.load 24 (Operand.tmp 4), type := 24, pos := _, after := #[], guard := none }) (v := .agg #[.int .i64 g.kind, .int .i64 g.num, .slice a1 g.cnt cap1]) rfl (by kernel_rfl) (by kernel_rfl) (by kernel_rfl) (by kernel_rfl) (fun _ _ _ h => h) (by rfl) (fun u hu => ?_) (HS.out _ hB0) ?_
    · (try dsimp only at hu); go_simp
    (try simp only [Act.put, List.setIfInBounds_toArray, List.set_cons_zero, List.set_cons_succ])
    obtain ⟨y0, hy0⟩ : ∃ q, q = z.drew := ⟨_, rfl⟩
    rw [← hy0] at hB0 ⊢
    have hB_y0 := hB0
    clear hB0 hy0
    refine G_alt (l := [2, 6, 7]) (by kernel_rfl) (by decide) ?_
    intro i hi
    have hi2 : i = 2 ∨ i = 6 ∨ i = 7 := by simpa using hi
    clear hi
    rcases hi2 with rfl | rfl | rfl
    · refine ⟨{ dst := some 17, op := Op.call { callee := Callee.value (Operand.func 19), args := #[Operand.const (Value.int IntKind.i64 8), Operand.tmp 15, Operand.tmp 16], argTypes := #[3, 24, 24] }, type := 24, pos := _, after := #[{ on := 0, ground := Ground.data }, { on := 1, ground := Ground.data }], guard := none }, rfl, fun K' hK => ?_⟩
      go_simp
      go_at_call 19
      refine (C19.out y0 8 hB_y0).mono ?_
      rintro e y1 ⟨k8, rfl, xk8_y1, hb⟩
      dsimp only
      have hB_y1 := hB_y0.trans (hb.mono hB_y0.size)
      clear hb
      refine hK.out _ _ (fun _ => HS.out _ hB_y1) (fun _ => ?_)
      clear hK K'
      (try simp only [Act.put, List.setIfInBounds_toArray, List.set_cons_zero, List.set_cons_succ])
      clear hB_y0
      refine G_alt (l := [5, 6, 7]) (by kernel_rfl) (by decide) ?_
      intro i hi
      have hi2 : i = 5 ∨ i = 6 ∨ i = 7 := by simpa using hi
      clear hi
      rcases hi2 with rfl | rfl | rfl
      · refine ⟨{ dst := some 20, op := Op.call { callee := Callee.value (Operand.func 19), args := #[Operand.const (Value.int IntKind.i64 9), Operand.tmp 18, Operand.tmp 19], argTypes := #[3, 24, 24] }, type := 24, pos := _, after := #[{ on := 3, ground := Ground.data }, { on := 4, ground := Ground.data }, { on := 2, ground := Ground.chain }], guard := none }, rfl, fun K' hK => ?_⟩
        go_simp
        go_at_call 19
        refine (C19.out y1 9 hB_y1).mono ?_
        rintro e y2 ⟨k9, rfl, xk9_y2, hb⟩
        dsimp only
        have hB_y2 := hB_y1.trans (hb.mono hB_y1.size)
        have xk8_y2 := alloc_le hb xk8_y1
        clear hb
        refine hK.out _ _ (fun _ => HS.out _ hB_y2) (fun _ => ?_)
        clear hK K'
        (try simp only [Act.put, List.setIfInBounds_toArray, List.set_cons_zero, List.set_cons_succ])
        clear xk8_y1 hB_y1
        refine G_alt (l := [6, 7]) (by kernel_rfl) (by decide) ?_
        intro i hi
        have hi2 : i = 6 ∨ i = 7 := by simpa using hi
        clear hi
        rcases hi2 with rfl | rfl
        · refine ⟨{ dst := some 8, op := Op.alloc 24, type := 0, pos := _, after := #[], guard := none }, rfl, fun K' hK => ?_⟩
          go_simp
          obtain ⟨y3, hy3⟩ : ∃ q, q = y2.alloc (.cells #[.int .i64 0, .int .i64 0, .slice none 0 0] 24) := ⟨_, rfl⟩
          rw [← hy3]
          obtain ⟨b8, hb8⟩ : ∃ q, q = y2.heap.size := ⟨_, rfl⟩
          have hb : Below y2.heap.size y2 y3 := by rw [hy3]; exact box_below _ _
          have xb8_y3 : y3.heap[b8]? = some (.cells #[.int .i64 0, .int .i64 0, .slice none 0 0] 24) := by rw [hy3, hb8]; exact Go.Deep.blk_alloc_new _ _
          have hB_y3 := hB_y2.trans (hb.mono hB_y2.size)
          have hl8 : z.heap.size ≤ b8 := by rw [hb8]; exact hB_y2.size
          have xk8_y3 := alloc_le hb xk8_y2
          have xk9_y3 := alloc_le hb xk9_y2
          rw [← hb8]
          clear hb hb8 hy3
          refine hK.out _ _ (fun _ => HS.out _ hB_y3) (fun _ => ?_)
          clear hK K'
          (try simp only [Act.put, List.setIfInBounds_toArray, List.set_cons_zero, List.set_cons_succ])
          clear xk8_y2 xk9_y2 hB_y2
          refine G_alt (l := [7]) (by kernel_rfl) (by decide) ?_
          intro i hi
          have hi2 : i = 7 := by simpa using hi
          clear hi
          subst hi2
          refine ⟨{ dst := some 9, op := Op.alloc 24, type := 0, pos := _, after := #[], guard := none }, rfl, fun K' hK => ?_⟩
          go_simp
          obtain ⟨y4, hy4⟩ : ∃ q, q = y3.alloc (.cells #[.int .i64 0, .int .i64 0, .slice none 0 0] 24) := ⟨_, rfl⟩
          rw [← hy4]
          obtain ⟨b9, hb9⟩ : ∃ q, q = y3.heap.size := ⟨_, rfl⟩
          have hb : Below y3.heap.size y3 y4 := by rw [hy4]; exact box_below _ _
          have xb9_y4 : y4.heap[b9]? = some (.cells #[.int .i64 0, .int .i64 0, .slice none 0 0] 24) := by rw [hy4, hb9]; exact Go.Deep.blk_alloc_new _ _
          have hB_y4 := hB_y3.trans (hb.mono hB_y3.size)
          have hl9 : z.heap.size ≤ b9 := by rw [hb9]; exact hB_y3.size
          have hne : b8 ≠ b9 := by have h := (Array.getElem?_eq_some_iff.1 xb8_y3).1; omega
          have xk8_y4 := alloc_le hb xk8_y3
          have xk9_y4 := alloc_le hb xk9_y3
          have xb8_y4 := alloc_le hb xb8_y3
          rw [← hb9]
          clear hb hb9 hy4
          refine hK.out _ _ (fun _ => HS.out _ hB_y4) (fun _ => ?_)
          clear hK K'
          (try simp only [Act.put, List.setIfInBounds_toArray, List.set_cons_zero, List.set_cons_succ])
          clear xk8_y3 xk9_y3 xb8_y3 hB_y3
          refine G_alt (l := [8]) (by kernel_rfl) (by decide) ?_
          intro i hi
          have hi2 : i = 8 := by simpa using hi
          clear hi
          subst hi2
          refine ⟨{ dst := none, op := Op.store 24 (Operand.tmp 8) (Operand.tmp 17), type := 0, pos := _, after := #[{ on := 6, ground := Ground.data }, { on := 2, ground := Ground.data }, { on := 5, ground := Ground.chain }, { on := 0, ground := Ground.phase }, { on := 1, ground := Ground.phase }, { on := 2, ground := Ground.phase }, { on := 3, ground := Ground.textOnly Departure.lateStores }, { on := 4, ground := Ground.textOnly Departure.lateStores }, { on := 5, ground := Ground.textOnly Departure.lateStoresUnsure }, { on := 6, ground := Ground.phase }, { on := 7, ground := Ground.phase }], guard := none }, rfl, fun K' hK => ?_⟩
          have d0 := cell_of_cells (i := 0) xb8_y4 rfl
          have d1 := cell_of_cells (i := 1) xb8_y4 rfl
          have d2 := cell_of_cells (i := 2) xb8_y4 rfl
          have e0 := fz_of xb8_y4 0
          have e1 := fz_of xb8_y4 1
          have e2 := fz_of xb8_y4 2
          go_simp
          obtain ⟨y5, hy5⟩ : ∃ q, q = ((y4.setCell ⟨b8, 0, none⟩ (.int .i64 8)).setCell ⟨b8, 1, none⟩ (.int .i64 0)).setCell ⟨b8, 2, none⟩ (.slice (some ⟨k8, 0, none⟩) 2 2) := ⟨_, rfl⟩
          rw [← hy5]
          have hbut : But b8 y4 y5 := by rw [hy5]; exact (((But.refl _ _).setCell _ _).setCell _ _).setCell _ _
          have xb8_y5 : y5.heap[b8]? = some (.cells #[.int .i64 8, .int .i64 0, .slice (some ⟨k8, 0, none⟩) 2 2] 24) := by rw [hy5]; exact three_set xb8_y4 _ _ _
          have hB_y5 := hB_y4.trans (hbut.below hl8 hB_y4.size)
          have xb9_y5 := (hbut.block _ (Array.getElem?_eq_some_iff.1 xb9_y4).1 (by omega)).trans xb9_y4
          have xk8_y5 := (hbut.block _ (Array.getElem?_eq_some_iff.1 xk8_y4).1 (six_three xk8_y4 xb8_y4)).trans xk8_y4
          have xk9_y5 := (hbut.block _ (Array.getElem?_eq_some_iff.1 xk9_y4).1 (six_three xk9_y4 xb8_y4)).trans xk9_y4
          clear hbut hy5 d0 d1 d2 e0 e1 e2
          refine hK.out _ _ (fun _ => HS.out _ hB_y5) (fun _ => ?_)
          clear hK K'
          (try simp only [Act.put, List.setIfInBounds_toArray, List.set_cons_zero, List.set_cons_succ])
          clear xb8_y4 xb9_y4 xk8_y4 xk9_y4 hB_y4
          refine G_alt (l := [9]) (by kernel_rfl) (by decide) ?_
          intro i hi
          have hi2 : i = 9 := by simpa using hi
          clear hi
          subst hi2
          refine ⟨{ dst := none, op := Op.store 24 (Operand.tmp 9) (Operand.tmp 20), type := 0, pos := _, after := #[{ on := 7, ground := Ground.data }, { on := 5, ground := Ground.data }, { on := 8, ground := Ground.chain }, { on := 0, ground := Ground.phase }, { on := 1, ground := Ground.phase }, { on := 2, ground := Ground.phase }, { on := 3, ground := Ground.phase }, { on := 4, ground := Ground.phase }, { on := 5, ground := Ground.phase }, { on := 6, ground := Ground.phase }, { on := 7, ground := Ground.phase }, { on := 8, ground := Ground.phase }], guard := none }, rfl, fun K' hK => ?_⟩
          have d0 := cell_of_cells (i := 0) xb9_y5 rfl
          have d1 := cell_of_cells (i := 1) xb9_y5 rfl
          have d2 := cell_of_cells (i := 2) xb9_y5 rfl
          have e0 := fz_of xb9_y5 0
          have e1 := fz_of xb9_y5 1
          have e2 := fz_of xb9_y5 2
          go_simp
          obtain ⟨y6, hy6⟩ : ∃ q, q = ((y5.setCell ⟨b9, 0, none⟩ (.int .i64 9)).setCell ⟨b9, 1, none⟩ (.int .i64 0)).setCell ⟨b9, 2, none⟩ (.slice (some ⟨k9, 0, none⟩) 2 2) := ⟨_, rfl⟩
          rw [← hy6]
          have hbut : But b9 y5 y6 := by rw [hy6]; exact (((But.refl _ _).setCell _ _).setCell _ _).setCell _ _
          have xb9_y6 : y6.heap[b9]? = some (.cells #[.int .i64 9, .int .i64 0, .slice (some ⟨k9, 0, none⟩) 2 2] 24) := by rw [hy6]; exact three_set xb9_y5 _ _ _
          have hB_y6 := hB_y5.trans (hbut.below hl9 hB_y5.size)
          have xb8_y6 := (hbut.block _ (Array.getElem?_eq_some_iff.1 xb8_y5).1 (by omega)).trans xb8_y5
          have xk8_y6 := (hbut.block _ (Array.getElem?_eq_some_iff.1 xk8_y5).1 (six_three xk8_y5 xb9_y5)).trans xk8_y5
          have xk9_y6 := (hbut.block _ (Array.getElem?_eq_some_iff.1 xk9_y5).1 (six_three xk9_y5 xb9_y5)).trans xk9_y5
          clear hbut hy6 d0 d1 d2 e0 e1 e2
          refine hK.out _ _ (fun _ => HS.out _ hB_y6) (fun _ => ?_)
          clear hK K'
          (try simp only [Act.put, List.setIfInBounds_toArray, List.set_cons_zero, List.set_cons_succ])
          clear xb8_y5 xb9_y5 xk8_y5 xk9_y5 hB_y5
          refine G_done (by kernel_rfl) ?_ _
          have HFIN : Hid (Below z.heap.size z y6 ∧ Fb y6 b8 (tw 8 f g) (some ⟨k8, 0, none⟩) 2 ∧ Fb y6 b9 (tw 9 f g) (some ⟨k9, 0, none⟩) 2 ∧ Kds y6 (tw 8 f g) (some ⟨k8, 0, none⟩) ∧ Kds y6 (tw 9 f g) (some ⟨k9, 0, none⟩)) := ⟨hB_y6, fb_of xb8_y6, fb_of xb9_y6, kds_tw (cap := cap0) (cap2 := cap1) xk8_y6 hfc (HKF.out.1.below hB_y6) hgc (HKF.out.2.below hB_y6), kds_tw (cap := cap0) (cap2 := cap1) xk9_y6 hfc (HKF.out.1.below hB_y6) hgc (HKF.out.2.below hB_y6)⟩
          clear xb8_y6 xb9_y6 xk8_y6 xk9_y6 hB_y6
          go_wp2_with fail
          go_meet
          exact ⟨b8, b9, _, _, _, _, rfl, rfl, HFIN⟩
        · refine ⟨{ dst := some 9, op := Op.alloc 24, type := 0, pos := _, after := #[], guard := none }, rfl, fun K' hK => ?_⟩
          go_simp
          obtain ⟨y7, hy7⟩ : ∃ q, q = y2.alloc (.cells #[.int .i64 0, .int .i64 0, .slice none 0 0] 24) := ⟨_, rfl⟩
          rw [← hy7]
          obtain ⟨b9, hb9⟩ : ∃ q, q = y2.heap.size := ⟨_, rfl⟩
          have hb : Below y2.heap.size y2 y7 := by rw [hy7]; exact box_below _ _
          have xb9_y7 : y7.heap[b9]? = some (.cells #[.int .i64 0, .int .i64 0, .slice none 0 0] 24) := by rw [hy7, hb9]; exact Go.Deep.blk_alloc_new _ _
          have hB_y7 := hB_y2.trans (hb.mono hB_y2.size)
          have hl9 : z.heap.size ≤ b9 := by rw [hb9]; exact hB_y2.size
          have xk8_y7 := alloc_le hb xk8_y2
          have xk9_y7 := alloc_le hb xk9_y2
          rw [← hb9]
          clear hb hb9 hy7
          refine hK.out _ _ (fun _ => HS.out _ hB_y7) (fun _ => ?_)
          clear hK K'
          (try simp only [Act.put, List.setIfInBounds_toArray, List.set_cons_zero, List.set_cons_succ])
          clear xk8_y2 xk9_y2 hB_y2
          refine G_alt (l := [6]) (by kernel_rfl) (by decide) ?_
          intro i hi
          have hi2 : i = 6 := by simpa using hi
          clear hi
          subst hi2
          refine ⟨{ dst := some 8, op := Op.alloc 24, type := 0, pos := _, after := #[], guard := none }, rfl, fun K' hK => ?_⟩
          go_simp
          obtain ⟨y8, hy8⟩ : ∃ q, q = y7.alloc (.cells #[.int .i64 0, .int .i64 0, .slice none 0 0] 24) := ⟨_, rfl⟩
          rw [← hy8]
          obtain ⟨b8, hb8⟩ : ∃ q, q = y7.heap.size := ⟨_, rfl⟩
          have hb : Below y7.heap.size y7 y8 := by rw [hy8]; exact box_below _ _
          have xb8_y8 : y8.heap[b8]? = some (.cells #[.int .i64 0, .int .i64 0, .slice none 0 0] 24) := by rw [hy8, hb8]; exact Go.Deep.blk_alloc_new _ _
          have hB_y8 := hB_y7.trans (hb.mono hB_y7.size)
          have hl8 : z.heap.size ≤ b8 := by rw [hb8]; exact hB_y7.size
          have hne : b8 ≠ b9 := by have h := (Array.getElem?_eq_some_iff.1 xb9_y7).1; omega
          have xk8_y8 := alloc_le hb xk8_y7
          have xk9_y8 := alloc_le hb xk9_y7
          have xb9_y8 := alloc_le hb xb9_y7
          rw [← hb8]
          clear hb hb8 hy8
          refine hK.out _ _ (fun _ => HS.out _ hB_y8) (fun _ => ?_)
          clear hK K'
          (try simp only [Act.put, List.setIfInBounds_toArray, List.set_cons_zero, List.set_cons_succ])
          clear xk8_y7 xk9_y7 xb9_y7 hB_y7
          refine G_alt (l := [8]) (by kernel_rfl) (by decide) ?_
          intro i hi
          have hi2 : i = 8 := by simpa using hi
          clear hi
          subst hi2
          refine ⟨{ dst := none, op := Op.store 24 (Operand.tmp 8) (Operand.tmp 17), type := 0, pos := _, after := #[{ on := 6, ground := Ground.data }, { on := 2, ground := Ground.data }, { on := 5, ground := Ground.chain }, { on := 0, ground := Ground.phase }, { on := 1, ground := Ground.phase }, { on := 2, ground := Ground.phase }, { on := 3, ground := Ground.textOnly Departure.lateStores }, { on := 4, ground := Ground.textOnly Departure.lateStores }, { on := 5, ground := Ground.textOnly Departure.lateStoresUnsure }, { on := 6, ground := Ground.phase }, { on := 7, ground := Ground.phase }], guard := none }, rfl, fun K' hK => ?_⟩
          have d0 := cell_of_cells (i := 0) xb8_y8 rfl
          have d1 := cell_of_cells (i := 1) xb8_y8 rfl
          have d2 := cell_of_cells (i := 2) xb8_y8 rfl
          have e0 := fz_of xb8_y8 0
          have e1 := fz_of xb8_y8 1
          have e2 := fz_of xb8_y8 2
          go_simp
          obtain ⟨y9, hy9⟩ : ∃ q, q = ((y8.setCell ⟨b8, 0, none⟩ (.int .i64 8)).setCell ⟨b8, 1, none⟩ (.int .i64 0)).setCell ⟨b8, 2, none⟩ (.slice (some ⟨k8, 0, none⟩) 2 2) := ⟨_, rfl⟩
          rw [← hy9]
          have hbut : But b8 y8 y9 := by rw [hy9]; exact (((But.refl _ _).setCell _ _).setCell _ _).setCell _ _
          have xb8_y9 : y9.heap[b8]? = some (.cells #[.int .i64 8, .int .i64 0, .slice (some ⟨k8, 0, none⟩) 2 2] 24) := by rw [hy9]; exact three_set xb8_y8 _ _ _
          have hB_y9 := hB_y8.trans (hbut.below hl8 hB_y8.size)
          have xb9_y9 := (hbut.block _ (Array.getElem?_eq_some_iff.1 xb9_y8).1 (by omega)).trans xb9_y8
          have xk8_y9 := (hbut.block _ (Array.getElem?_eq_some_iff.1 xk8_y8).1 (six_three xk8_y8 xb8_y8)).trans xk8_y8
          have xk9_y9 := (hbut.block _ (Array.getElem?_eq_some_iff.1 xk9_y8).1 (six_three xk9_y8 xb8_y8)).trans xk9_y8
          clear hbut hy9 d0 d1 d2 e0 e1 e2
          refine hK.out _ _ (fun _ => HS.out _ hB_y9) (fun _ => ?_)
          clear hK K'
          (try simp only [Act.put, List.setIfInBounds_toArray, List.set_cons_zero, List.set_cons_succ])
          clear xb8_y8 xb9_y8 xk8_y8 xk9_y8 hB_y8
          refine G_alt (l := [9]) (by kernel_rfl) (by decide) ?_
          intro i hi
          have hi2 : i = 9 := by simpa using hi
          clear hi
          subst hi2
          refine ⟨{ dst := none, op := Op.store 24 (Operand.tmp 9) (Operand.tmp 20), type := 0, pos := _, after := #[{ on := 7, ground := Ground.data }, { on := 5, ground := Ground.data }, { on := 8, ground := Ground.chain }, { on := 0, ground := Ground.phase }, { on := 1, ground := Ground.phase }, { on := 2, ground := Ground.phase }, { on := 3, ground := Ground.phase }, { on := 4, ground := Ground.phase }, { on := 5, ground := Ground.phase }, { on := 6, ground := Ground.phase }, { on := 7, ground := Ground.phase }, { on := 8, ground := Ground.phase }], guard := none }, rfl, fun K' hK => ?_⟩
          have d0 := cell_of_cells (i := 0) xb9_y9 rfl
          have d1 := cell_of_cells (i := 1) xb9_y9 rfl
          have d2 := cell_of_cells (i := 2) xb9_y9 rfl
          have e0 := fz_of xb9_y9 0
          have e1 := fz_of xb9_y9 1
          have e2 := fz_of xb9_y9 2
          go_simp
          obtain ⟨y10, hy10⟩ : ∃ q, q = ((y9.setCell ⟨b9, 0, none⟩ (.int .i64 9)).setCell ⟨b9, 1, none⟩ (.int .i64 0)).setCell ⟨b9, 2, none⟩ (.slice (some ⟨k9, 0, none⟩) 2 2) := ⟨_, rfl⟩
          rw [← hy10]
          have hbut : But b9 y9 y10 := by rw [hy10]; exact (((But.refl _ _).setCell _ _).setCell _ _).setCell _ _
          have xb9_y10 : y10.heap[b9]? = some (.cells #[.int .i64 9, .int .i64 0, .slice (some ⟨k9, 0, none⟩) 2 2] 24) := by rw [hy10]; exact three_set xb9_y9 _ _ _
          have hB_y10 := hB_y9.trans (hbut.below hl9 hB_y9.size)
          have xb8_y10 := (hbut.block _ (Array.getElem?_eq_some_iff.1 xb8_y9).1 (by omega)).trans xb8_y9
          have xk8_y10 := (hbut.block _ (Array.getElem?_eq_some_iff.1 xk8_y9).1 (six_three xk8_y9 xb9_y9)).trans xk8_y9
          have xk9_y10 := (hbut.block _ (Array.getElem?_eq_some_iff.1 xk9_y9).1 (six_three xk9_y9 xb9_y9)).trans xk9_y9
          clear hbut hy10 d0 d1 d2 e0 e1 e2
          refine hK.out _ _ (fun _ => HS.out _ hB_y10) (fun _ => ?_)
          clear hK K'
          (try simp only [Act.put, List.setIfInBounds_toArray, List.set_cons_zero, List.set_cons_succ])
          clear xb8_y9 xb9_y9 xk8_y9 xk9_y9 hB_y9
          refine G_done (by kernel_rfl) ?_ _
          have HFIN : Hid (Below z.heap.size z y10 ∧ Fb y10 b8 (tw 8 f g) (some ⟨k8, 0, none⟩) 2 ∧ Fb y10 b9 (tw 9 f g) (some ⟨k9, 0, none⟩) 2 ∧ Kds y10 (tw 8 f g) (some ⟨k8, 0, none⟩) ∧ Kds y10 (tw 9 f g) (some ⟨k9, 0, none⟩)) := ⟨hB_y10, fb_of xb8_y10, fb_of xb9_y10, kds_tw (cap := cap0) (cap2 := cap1) xk8_y10 hfc (HKF.out.1.below hB_y10) hgc (HKF.out.2.below hB_y10), kds_tw (cap := cap0) (cap2 := cap1) xk9_y10 hfc (HKF.out.1.below hB_y10) hgc (HKF.out.2.below hB_y10)⟩
          clear xb8_y10 xb9_y10 xk8_y10 xk9_y10 hB_y10
          go_wp2_with fail
          go_meet
          exact ⟨b8, b9, _, _, _, _, rfl, rfl, HFIN⟩
      · refine ⟨{ dst := some 8, op := Op.alloc 24, type := 0, pos := _, after := #[], guard := none }, rfl, fun K' hK => ?_⟩
        go_simp
        obtain ⟨y11, hy11⟩ : ∃ q, q = y1.alloc (.cells #[.int .i64 0, .int .i64 0, .slice none 0 0] 24) := ⟨_, rfl⟩
        rw [← hy11]
        obtain ⟨b8, hb8⟩ : ∃ q, q = y1.heap.size := ⟨_, rfl⟩
        have hb : Below y1.heap.size y1 y11 := by rw [hy11]; exact box_below _ _
        have xb8_y11 : y11.heap[b8]? = some (.cells #[.int .i64 0, .int .i64 0, .slice none 0 0] 24) := by rw [hy11, hb8]; exact Go.Deep.blk_alloc_new _ _
        have hB_y11 := hB_y1.trans (hb.mono hB_y1.size)
        have hl8 : z.heap.size ≤ b8 := by rw [hb8]; exact hB_y1.size
        have xk8_y11 := alloc_le hb xk8_y1
        rw [← hb8]
        clear hb hb8 hy11
        refine hK.out _ _ (fun _ => HS.out _ hB_y11) (fun _ => ?_)
        clear hK K'
        (try simp only [Act.put, List.setIfInBounds_toArray, List.set_cons_zero, List.set_cons_succ])
        clear xk8_y1 hB_y1
        refine G_alt (l := [5, 7]) (by kernel_rfl) (by decide) ?_
        intro i hi
        have hi2 : i = 5 ∨ i = 7 := by simpa using hi
        clear hi
        rcases hi2 with rfl | rfl
        · refine ⟨{ dst := some 20, op := Op.call { callee := Callee.value (Operand.func 19), args := #[Operand.const (Value.int IntKind.i64 9), Operand.tmp 18, Operand.tmp 19], argTypes := #[3, 24, 24] }, type := 24, pos := _, after := #[{ on := 3, ground := Ground.data }, { on := 4, ground := Ground.data }, { on := 2, ground := Ground.chain }], guard := none }, rfl, fun K' hK => ?_⟩
          go_simp
          go_at_call 19
          refine (C19.out y11 9 hB_y11).mono ?_
          rintro e y12 ⟨k9, rfl, xk9_y12, hb⟩
          dsimp only
          have hB_y12 := hB_y11.trans (hb.mono hB_y11.size)
          have xk8_y12 := alloc_le hb xk8_y11
          have xb8_y12 := alloc_le hb xb8_y11
          clear hb
          refine hK.out _ _ (fun _ => HS.out _ hB_y12) (fun _ => ?_)
          clear hK K'
          (try simp only [Act.put, List.setIfInBounds_toArray, List.set_cons_zero, List.set_cons_succ])
          clear xk8_y11 xb8_y11 hB_y11
          refine G_alt (l := [7]) (by kernel_rfl) (by decide) ?_
          intro i hi
          have hi2 : i = 7 := by simpa using hi
          clear hi
          subst hi2
          refine ⟨{ dst := some 9, op := Op.alloc 24, type := 0, pos := _, after := #[], guard := none }, rfl, fun K' hK => ?_⟩
          go_simp
          obtain ⟨y13, hy13⟩ : ∃ q, q = y12.alloc (.cells #[.int .i64 0, .int .i64 0, .slice none 0 0] 24) := ⟨_, rfl⟩
          rw [← hy13]
          obtain ⟨b9, hb9⟩ : ∃ q, q = y12.heap.size := ⟨_, rfl⟩
          have hb : Below y12.heap.size y12 y13 := by rw [hy13]; exact box_below _ _
          have xb9_y13 : y13.heap[b9]? = some (.cells #[.int .i64 0, .int .i64 0, .slice none 0 0] 24) := by rw [hy13, hb9]; exact Go.Deep.blk_alloc_new _ _
          have hB_y13 := hB_y12.trans (hb.mono hB_y12.size)
          have hl9 : z.heap.size ≤ b9 := by rw [hb9]; exact hB_y12.size
          have hne : b8 ≠ b9 := by have h := (Array.getElem?_eq_some_iff.1 xb8_y12).1; omega
          have xk8_y13 := alloc_le hb xk8_y12
          have xb8_y13 := alloc_le hb xb8_y12
          have xk9_y13 := alloc_le hb xk9_y12
          rw [← hb9]
          clear hb hb9 hy13
          refine hK.out _ _ (fun _ => HS.out _ hB_y13) (fun _ => ?_)
          clear hK K'
          (try simp only [Act.put, List.setIfInBounds_toArray, List.set_cons_zero, List.set_cons_succ])
          clear xk8_y12 xb8_y12 xk9_y12 hB_y12
          refine G_alt (l := [8]) (by kernel_rfl) (by decide) ?_
          intro i hi
          have hi2 : i = 8 := by simpa using hi
          clear hi
          subst hi2
          refine ⟨{ dst := none, op := Op.store 24 (Operand.tmp 8) (Operand.tmp 17), type := 0, pos := _, after := #[{ on := 6, ground := Ground.data }, { on := 2, ground := Ground.data }, { on := 5, ground := Ground.chain }, { on := 0, ground := Ground.phase }, { on := 1, ground := Ground.phase }, { on := 2, ground := Ground.phase }, { on := 3, ground := Ground.textOnly Departure.lateStores }, { on := 4, ground := Ground.textOnly Departure.lateStores }, { on := 5, ground := Ground.textOnly Departure.lateStoresUnsure }, { on := 6, ground := Ground.phase }, { on := 7, ground := Ground.phase }], guard := none }, rfl, fun K' hK => ?_⟩
          have d0 := cell_of_cells (i := 0) xb8_y13 rfl
          have d1 := cell_of_cells (i := 1) xb8_y13 rfl
          have d2 := cell_of_cells (i := 2) xb8_y13 rfl
          have e0 := fz_of xb8_y13 0
          have e1 := fz_of xb8_y13 1
          have e2 := fz_of xb8_y13 2
          go_simp
          obtain ⟨y14, hy14⟩ : ∃ q, q = ((y13.setCell ⟨b8, 0, none⟩ (.int .i64 8)).setCell ⟨b8, 1, none⟩ (.int .i64 0)).setCell ⟨b8, 2, none⟩ (.slice (some ⟨k8, 0, none⟩) 2 2) := ⟨_, rfl⟩
          rw [← hy14]
          have hbut : But b8 y13 y14 := by rw [hy14]; exact (((But.refl _ _).setCell _ _).setCell _ _).setCell _ _
          have xb8_y14 : y14.heap[b8]? = some (.cells #[.int .i64 8, .int .i64 0, .slice (some ⟨k8, 0, none⟩) 2 2] 24) := by rw [hy14]; exact three_set xb8_y13 _ _ _
          have hB_y14 := hB_y13.trans (hbut.below hl8 hB_y13.size)
          have xb9_y14 := (hbut.block _ (Array.getElem?_eq_some_iff.1 xb9_y13).1 (by omega)).trans xb9_y13
          have xk8_y14 := (hbut.block _ (Array.getElem?_eq_some_iff.1 xk8_y13).1 (six_three xk8_y13 xb8_y13)).trans xk8_y13
          have xk9_y14 := (hbut.block _ (Array.getElem?_eq_some_iff.1 xk9_y13).1 (six_three xk9_y13 xb8_y13)).trans xk9_y13
          clear hbut hy14 d0 d1 d2 e0 e1 e2
          refine hK.out _ _ (fun _ => HS.out _ hB_y14) (fun _ => ?_)
          clear hK K'
          (try simp only [Act.put, List.setIfInBounds_toArray, List.set_cons_zero, List.set_cons_succ])
          clear xb8_y13 xb9_y13 xk8_y13 xk9_y13 hB_y13
          refine G_alt (l := [9]) (by kernel_rfl) (by decide) ?_
          intro i hi
          have hi2 : i = 9 := by simpa using hi
          clear hi
          subst hi2
          refine ⟨{ dst := none, op := Op.store 24 (Operand.tmp 9) (Operand.tmp 20), type := 0, pos := _, after := #[{ on := 7, ground := Ground.data }, { on := 5, ground := Ground.data }, { on := 8, ground := Ground.chain }, { on := 0, ground := Ground.phase }, { on := 1, ground := Ground.phase }, { on := 2, ground := Ground.phase }, { on := 3, ground := Ground.phase }, { on := 4, ground := Ground.phase }, { on := 5, ground := Ground.phase }, { on := 6, ground := Ground.phase }, { on := 7, ground := Ground.phase }, { on := 8, ground := Ground.phase }], guard := none }, rfl, fun K' hK => ?_⟩
          have d0 := cell_of_cells (i := 0) xb9_y14 rfl
          have d1 := cell_of_cells (i := 1) xb9_y14 rfl
          have d2 := cell_of_cells (i := 2) xb9_y14 rfl
          have e0 := fz_of xb9_y14 0
          have e1 := fz_of xb9_y14 1
          have e2 := fz_of xb9_y14 2
          go_simp
          obtain ⟨y15, hy15⟩ : ∃ q, q = ((y14.setCell ⟨b9, 0, none⟩ (.int .i64 9)).setCell ⟨b9, 1, none⟩ (.int .i64 0)).setCell ⟨b9, 2, none⟩ (.slice (some ⟨k9, 0, none⟩) 2 2) := ⟨_, rfl⟩
          rw [← hy15]
          have hbut : But b9 y14 y15 := by rw [hy15]; exact (((But.refl _ _).setCell _ _).setCell _ _).setCell _ _
          have xb9_y15 : y15.heap[b9]? = some (.cells #[.int .i64 9, .int .i64 0, .slice (some ⟨k9, 0, none⟩) 2 2] 24) := by rw [hy15]; exact three_set xb9_y14 _ _ _
          have hB_y15 := hB_y14.trans (hbut.below hl9 hB_y14.size)
          have xb8_y15 := (hbut.block _ (Array.getElem?_eq_some_iff.1 xb8_y14).1 (by omega)).trans xb8_y14
          have xk8_y15 := (hbut.block _ (Array.getElem?_eq_some_iff.1 xk8_y14).1 (six_three xk8_y14 xb9_y14)).trans xk8_y14
          have xk9_y15 := (hbut.block _ (Array.getElem?_eq_some_iff.1 xk9_y14).1 (six_three xk9_y14 xb9_y14)).trans xk9_y14
          clear hbut hy15 d0 d1 d2 e0 e1 e2
          refine hK.out _ _ (fun _ => HS.out _ hB_y15) (fun _ => ?_)
          clear hK K'
          (try simp only [Act.put, List.setIfInBounds_toArray, List.set_cons_zero, List.set_cons_succ])
          clear xb8_y14 xb9_y14 xk8_y14 xk9_y14 hB_y14
          refine G_done (by kernel_rfl) ?_ _
          have HFIN : Hid (Below z.heap.size z y15 ∧ Fb y15 b8 (tw 8 f g) (some ⟨k8, 0, none⟩) 2 ∧ Fb y15 b9 (tw 9 f g) (some ⟨k9, 0, none⟩) 2 ∧ Kds y15 (tw 8 f g) (some ⟨k8, 0, none⟩) ∧ Kds y15 (tw 9 f g) (some ⟨k9, 0, none⟩)) := ⟨hB_y15, fb_of xb8_y15, fb_of xb9_y15, kds_tw (cap := cap0) (cap2 := cap1) xk8_y15 hfc (HKF.out.1.below hB_y15) hgc (HKF.out.2.below hB_y15), kds_tw (cap := cap0) (cap2 := cap1) xk9_y15 hfc (HKF.out.1.below hB_y15) hgc (HKF.out.2.below hB_y15)⟩
          clear xb8_y15 xb9_y15 xk8_y15 xk9_y15 hB_y15
          go_wp2_with fail
          go_meet
          exact ⟨b8, b9, _, _, _, _, rfl, rfl, HFIN⟩
        · refine ⟨{ dst := some 9, op := Op.alloc 24, type := 0, pos := _, after := #[], guard := none }, rfl, fun K' hK => ?_⟩
          go_simp
          obtain ⟨y16, hy16⟩ : ∃ q, q = y11.alloc (.cells #[.int .i64 0, .int .i64 0, .slice none 0 0] 24) := ⟨_, rfl⟩
          rw [← hy16]
          obtain ⟨b9, hb9⟩ : ∃ q, q = y11.heap.size := ⟨_, rfl⟩
          have hb : Below y11.heap.size y11 y16 := by rw [hy16]; exact box_below _ _
          have xb9_y16 : y16.heap[b9]? = some (.cells #[.int .i64 0, .int .i64 0, .slice none 0 0] 24) := by rw [hy16, hb9]; exact Go.Deep.blk_alloc_new _ _
          have hB_y16 := hB_y11.trans (hb.mono hB_y11.size)
          have hl9 : z.heap.size ≤ b9 := by rw [hb9]; exact hB_y11.size
          have hne : b8 ≠ b9 := by have h := (Array.getElem?_eq_some_iff.1 xb8_y11).1; omega
          have xk8_y16 := alloc_le hb xk8_y11
          have xb8_y16 := alloc_le hb xb8_y11
          rw [← hb9]
          clear hb hb9 hy16
          refine hK.out _ _ (fun _ => HS.out _ hB_y16) (fun _ => ?_)
          clear hK K'
          (try simp only [Act.put, List.setIfInBounds_toArray, List.set_cons_zero, List.set_cons_succ])
          clear xk8_y11 xb8_y11 hB_y11
          refine G_alt (l := [5]) (by kernel_rfl) (by decide) ?_
          intro i hi
          have hi2 : i = 5 := by simpa using hi
          clear hi
          subst hi2
          refine ⟨{ dst := some 20, op := Op.call { callee := Callee.value (Operand.func 19), args := #[Operand.const (Value.int IntKind.i64 9), Operand.tmp 18, Operand.tmp 19], argTypes := #[3, 24, 24] }, type := 24, pos := _, after := #[{ on := 3, ground := Ground.data }, { on := 4, ground := Ground.data }, { on := 2, ground := Ground.chain }], guard := none }, rfl, fun K' hK => ?_⟩
          go_simp
          go_at_call 19
          refine (C19.out y16 9 hB_y16).mono ?_
          rintro e y17 ⟨k9, rfl, xk9_y17, hb⟩
          dsimp only
          have hB_y17 := hB_y16.trans (hb.mono hB_y16.size)
          have xk8_y17 := alloc_le hb xk8_y16
          have xb8_y17 := alloc_le hb xb8_y16
          have xb9_y17 := alloc_le hb xb9_y16
          clear hb
          refine hK.out _ _ (fun _ => HS.out _ hB_y17) (fun _ => ?_)
          clear hK K'
          (try simp only [Act.put, List.setIfInBounds_toArray, List.set_cons_zero, List.set_cons_succ])
          clear xk8_y16 xb8_y16 xb9_y16 hB_y16
          refine G_alt (l := [8]) (by kernel_rfl) (by decide) ?_
          intro i hi
          have hi2 : i = 8 := by simpa using hi
          clear hi
          subst hi2
          refine ⟨{ dst := none, op := Op.store 24 (Operand.tmp 8) (Operand.tmp 17), type := 0, pos := _, after := #[{ on := 6, ground := Ground.data }, { on := 2, ground := Ground.data }, { on := 5, ground := Ground.chain }, { on := 0, ground := Ground.phase }, { on := 1, ground := Ground.phase }, { on := 2, ground := Ground.phase }, { on := 3, ground := Ground.textOnly Departure.lateStores }, { on := 4, ground := Ground.textOnly Departure.lateStores }, { on := 5, ground := Ground.textOnly Departure.lateStoresUnsure }, { on := 6, ground := Ground.phase }, { on := 7, ground := Ground.phase }], guard := none }, rfl, fun K' hK => ?_⟩
          have d0 := cell_of_cells (i := 0) xb8_y17 rfl
          have d1 := cell_of_cells (i := 1) xb8_y17 rfl
          have d2 := cell_of_cells (i := 2) xb8_y17 rfl
          have e0 := fz_of xb8_y17 0
          have e1 := fz_of xb8_y17 1
          have e2 := fz_of xb8_y17 2
          go_simp
          obtain ⟨y18, hy18⟩ : ∃ q, q = ((y17.setCell ⟨b8, 0, none⟩ (.int .i64 8)).setCell ⟨b8, 1, none⟩ (.int .i64 0)).setCell ⟨b8, 2, none⟩ (.slice (some ⟨k8, 0, none⟩) 2 2) := ⟨_, rfl⟩
          rw [← hy18]
          have hbut : But b8 y17 y18 := by rw [hy18]; exact (((But.refl _ _).setCell _ _).setCell _ _).setCell _ _
          have xb8_y18 : y18.heap[b8]? = some (.cells #[.int .i64 8, .int .i64 0, .slice (some ⟨k8, 0, none⟩) 2 2] 24) := by rw [hy18]; exact three_set xb8_y17 _ _ _
          have hB_y18 := hB_y17.trans (hbut.below hl8 hB_y17.size)
          have xb9_y18 := (hbut.block _ (Array.getElem?_eq_some_iff.1 xb9_y17).1 (by omega)).trans xb9_y17
          have xk8_y18 := (hbut.block _ (Array.getElem?_eq_some_iff.1 xk8_y17).1 (six_three xk8_y17 xb8_y17)).trans xk8_y17
          have xk9_y18 := (hbut.block _ (Array.getElem?_eq_some_iff.1 xk9_y17).1 (six_three xk9_y17 xb8_y17)).trans xk9_y17
          clear hbut hy18 d0 d1 d2 e0 e1 e2
          refine hK.out _ _ (fun _ => HS.out _ hB_y18) (fun _ => ?_)
          clear hK K'
          (try simp only [Act.put, List.setIfInBounds_toArray, List.set_cons_zero, List.set_cons_succ])
          clear xb8_y17 xb9_y17 xk8_y17 xk9_y17 hB_y17
          refine G_alt (l := [9]) (by kernel_rfl) (by decide) ?_
          intro i hi
          have hi2 : i = 9 := by simpa using hi
          clear hi
          subst hi2
          refine ⟨{ dst := none, op := Op.store 24 (Operand.tmp 9) (Operand.tmp 20), type := 0, pos := _, after := #[{ on := 7, ground := Ground.data }, { on := 5, ground := Ground.data }, { on := 8, ground := Ground.chain }, { on := 0, ground := Ground.phase }, { on := 1, ground := Ground.phase }, { on := 2, ground := Ground.phase }, { on := 3, ground := Ground.phase }, { on := 4, ground := Ground.phase }, { on := 5, ground := Ground.phase }, { on := 6, ground := Ground.phase }, { on := 7, ground := Ground.phase }, { on := 8, ground := Ground.phase }], guard := none }, rfl, fun K' hK => ?_⟩
          have d0 := cell_of_cells (i := 0) xb9_y18 rfl
          have d1 := cell_of_cells (i := 1) xb9_y18 rfl
          have d2 := cell_of_cells (i := 2) xb9_y18 rfl
          have e0 := fz_of xb9_y18 0
          have e1 := fz_of xb9_y18 1
          have e2 := fz_of xb9_y18 2
          go_simp
          obtain ⟨y19, hy19⟩ : ∃ q, q = ((y18.setCell ⟨b9, 0, none⟩ (.int .i64 9)).setCell ⟨b9, 1, none⟩ (.int .i64 0)).setCell ⟨b9, 2, none⟩ (.slice (some ⟨k9, 0, none⟩) 2 2) := ⟨_, rfl⟩
          rw [← hy19]
          have hbut : But b9 y18 y19 := by rw [hy19]; exact (((But.refl _ _).setCell _ _).setCell _ _).setCell _ _
          have xb9_y19 : y19.heap[b9]? = some (.cells #[.int .i64 9, .int .i64 0, .slice (some ⟨k9, 0, none⟩) 2 2] 24) := by rw [hy19]; exact three_set xb9_y18 _ _ _
          have hB_y19 := hB_y18.trans (hbut.below hl9 hB_y18.size)
          have xb8_y19 := (hbut.block _ (Array.getElem?_eq_some_iff.1 xb8_y18).1 (by omega)).trans xb8_y18
          have xk8_y19 := (hbut.block _ (Array.getElem?_eq_some_iff.1 xk8_y18).1 (six_three xk8_y18 xb9_y18)).trans xk8_y18
          have xk9_y19 := (hbut.block _ (Array.getElem?_eq_some_iff.1 xk9_y18).1 (six_three xk9_y18 xb9_y18)).trans xk9_y18
          clear hbut hy19 d0 d1 d2 e0 e1 e2
          refine hK.out _ _ (fun _ => HS.out _ hB_y19) (fun _ => ?_)
          clear hK K'
          (try simp only [Act.put, List.setIfInBounds_toArray, List.set_cons_zero, List.set_cons_succ])
          clear xb8_y18 xb9_y18 xk8_y18 xk9_y18 hB_y18
          refine G_done (by kernel_rfl) ?_ _
          have HFIN : Hid (Below z.heap.size z y19 ∧ Fb y19 b8 (tw 8 f g) (some ⟨k8, 0, none⟩) 2 ∧ Fb y19 b9 (tw 9 f g) (some ⟨k9, 0, none⟩) 2 ∧ Kds y19 (tw 8 f g) (some ⟨k8, 0, none⟩) ∧ Kds y19 (tw 9 f g) (some ⟨k9, 0, none⟩)) := ⟨hB_y19, fb_of xb8_y19, fb_of xb9_y19, kds_tw (cap := cap0) (cap2 := cap1) xk8_y19 hfc (HKF.out.1.below hB_y19) hgc (HKF.out.2.below hB_y19), kds_tw (cap := cap0) (cap2 := cap1) xk9_y19 hfc (HKF.out.1.below hB_y19) hgc (HKF.out.2.below hB_y19)⟩
          clear xb8_y19 xb9_y19 xk8_y19 xk9_y19 hB_y19
          go_wp2_with fail
          go_meet
          exact ⟨b8, b9, _, _, _, _, rfl, rfl, HFIN⟩
      · refine ⟨{ dst := some 9, op := Op.alloc 24, type := 0, pos := _, after := #[], guard := none }, rfl, fun K' hK => ?_⟩
        go_simp
        obtain ⟨y20, hy20⟩ : ∃ q, q = y1.alloc (.cells #[.int .i64 0, .int .i64 0, .slice none 0 0] 24) := ⟨_, rfl⟩
        rw [← hy20]
        obtain ⟨b9, hb9⟩ : ∃ q, q = y1.heap.size := ⟨_, rfl⟩
        have hb : Below y1.heap.size y1 y20 := by rw [hy20]; exact box_below _ _
        have xb9_y20 : y20.heap[b9]? = some (.cells #[.int .i64 0, .int .i64 0, .slice none 0 0] 24) := by rw [hy20, hb9]; exact Go.Deep.blk_alloc_new _ _
        have hB_y20 := hB_y1.trans (hb.mono hB_y1.size)
        have hl9 : z.heap.size ≤ b9 := by rw [hb9]; exact hB_y1.size
        have xk8_y20 := alloc_le hb xk8_y1
        rw [← hb9]
        clear hb hb9 hy20
        refine hK.out _ _ (fun _ => HS.out _ hB_y20) (fun _ => ?_)
        clear hK K'
        (try simp only [Act.put, List.setIfInBounds_toArray, List.set_cons_zero, List.set_cons_succ])
        clear xk8_y1 hB_y1
        refine G_alt (l := [5, 6]) (by kernel_rfl) (by decide) ?_
        intro i hi
        have hi2 : i = 5 ∨ i = 6 := by simpa using hi
        clear hi
        rcases hi2 with rfl | rfl
        · refine ⟨{ dst := some 20, op := Op.call { callee := Callee.value (Operand.func 19), args := #[Operand.const (Value.int IntKind.i64 9), Operand.tmp 18, Operand.tmp 19], argTypes := #[3, 24, 24] }, type := 24, pos := _, after := #[{ on := 3, ground := Ground.data }, { on := 4, ground := Ground.data }, { on := 2, ground := Ground.chain }], guard := none }, rfl, fun K' hK => ?_⟩
          go_simp
          go_at_call 19
          refine (C19.out y20 9 hB_y20).mono ?_
          rintro e y21 ⟨k9, rfl, xk9_y21, hb⟩
          dsimp only
          have hB_y21 := hB_y20.trans (hb.mono hB_y20.size)
          have xk8_y21 := alloc_le hb xk8_y20
          have xb9_y21 := alloc_le hb xb9_y20
          clear hb
          refine hK.out _ _ (fun _ => HS.out _ hB_y21) (fun _ => ?_)
          clear hK K'
          (try simp only [Act.put, List.setIfInBounds_toArray, List.set_cons_zero, List.set_cons_succ])
          clear xk8_y20 xb9_y20 hB_y20
          refine G_alt (l := [6]) (by kernel_rfl) (by decide) ?_
          intro i hi
          have hi2 : i = 6 := by simpa using hi
          clear hi
          subst hi2
          refine ⟨{ dst := some 8, op := Op.alloc 24, type := 0, pos := _, after := #[], guard := none }, rfl, fun K' hK => ?_⟩
          go_simp
          obtain ⟨y22, hy22⟩ : ∃ q, q = y21.alloc (.cells #[.int .i64 0, .int .i64 0, .slice none 0 0] 24) := ⟨_, rfl⟩
          rw [← hy22]
          obtain ⟨b8, hb8⟩ : ∃ q, q = y21.heap.size := ⟨_, rfl⟩
          have hb : Below y21.heap.size y21 y22 := by rw [hy22]; exact box_below _ _
          have xb8_y22 : y22.heap[b8]? = some (.cells #[.int .i64 0, .int .i64 0, .slice none 0 0] 24) := by rw [hy22, hb8]; exact Go.Deep.blk_alloc_new _ _
          have hB_y22 := hB_y21.trans (hb.mono hB_y21.size)
          have hl8 : z.heap.size ≤ b8 := by rw [hb8]; exact hB_y21.size
          have hne : b8 ≠ b9 := by have h := (Array.getElem?_eq_some_iff.1 xb9_y21).1; omega
          have xk8_y22 := alloc_le hb xk8_y21
          have xb9_y22 := alloc_le hb xb9_y21
          have xk9_y22 := alloc_le hb xk9_y21
          rw [← hb8]
          clear hb hb8 hy22
          refine hK.out _ _ (fun _ => HS.out _ hB_y22) (fun _ => ?_)
          clear hK K'
          (try simp only [Act.put, List.setIfInBounds_toArray, List.set_cons_zero, List.set_cons_succ])
          clear xk8_y21 xb9_y21 xk9_y21 hB_y21
          refine G_alt (l := [8]) (by kernel_rfl) (by decide) ?_
          intro i hi
          have hi2 : i = 8 := by simpa using hi
          clear hi
          subst hi2
          refine ⟨{ dst := none, op := Op.store 24 (Operand.tmp 8) (Operand.tmp 17), type := 0, pos := _, after := #[{ on := 6, ground := Ground.data }, { on := 2, ground := Ground.data }, { on := 5, ground := Ground.chain }, { on := 0, ground := Ground.phase }, { on := 1, ground := Ground.phase }, { on := 2, ground := Ground.phase }, { on := 3, ground := Ground.textOnly Departure.lateStores }, { on := 4, ground := Ground.textOnly Departure.lateStores }, { on := 5, ground := Ground.textOnly Departure.lateStoresUnsure }, { on := 6, ground := Ground.phase }, { on := 7, ground := Ground.phase }], guard := none }, rfl, fun K' hK => ?_⟩
          have d0 := cell_of_cells (i := 0) xb8_y22 rfl
          have d1 := cell_of_cells (i := 1) xb8_y22 rfl
          have d2 := cell_of_cells (i := 2) xb8_y22 rfl
          have e0 := fz_of xb8_y22 0
          have e1 := fz_of xb8_y22 1
          have e2 := fz_of xb8_y22 2
          go_simp
          obtain ⟨y23, hy23⟩ : ∃ q, q = ((y22.setCell ⟨b8, 0, none⟩ (.int .i64 8)).setCell ⟨b8, 1, none⟩ (.int .i64 0)).setCell ⟨b8, 2, none⟩ (.slice (some ⟨k8, 0, none⟩) 2 2) := ⟨_, rfl⟩
          rw [← hy23]
          have hbut : But b8 y22 y23 := by rw [hy23]; exact (((But.refl _ _).setCell _ _).setCell _ _).setCell _ _
          have xb8_y23 : y23.heap[b8]? = some (.cells #[.int .i64 8, .int .i64 0, .slice (some ⟨k8, 0, none⟩) 2 2] 24) := by rw [hy23]; exact three_set xb8_y22 _ _ _
          have hB_y23 := hB_y22.trans (hbut.below hl8 hB_y22.size)
          have xb9_y23 := (hbut.block _ (Array.getElem?_eq_some_iff.1 xb9_y22).1 (by omega)).trans xb9_y22
          have xk8_y23 := (hbut.block _ (Array.getElem?_eq_some_iff.1 xk8_y22).1 (six_three xk8_y22 xb8_y22)).trans xk8_y22
          have xk9_y23 := (hbut.block _ (Array.getElem?_eq_some_iff.1 xk9_y22).1 (six_three xk9_y22 xb8_y22)).trans xk9_y22
          clear hbut hy23 d0 d1 d2 e0 e1 e2
          refine hK.out _ _ (fun _ => HS.out _ hB_y23) (fun _ => ?_)
          clear hK K'
          (try simp only [Act.put, List.setIfInBounds_toArray, List.set_cons_zero, List.set_cons_succ])
          clear xb8_y22 xb9_y22 xk8_y22 xk9_y22 hB_y22
          refine G_alt (l := [9]) (by kernel_rfl) (by decide) ?_
          intro i hi
          have hi2 : i = 9 := by simpa using hi
          clear hi
          subst hi2
          refine ⟨{ dst := none, op := Op.store 24 (Operand.tmp 9) (Operand.tmp 20), type := 0, pos := _, after := #[{ on := 7, ground := Ground.data }, { on := 5, ground := Ground.data }, { on := 8, ground := Ground.chain }, { on := 0, ground := Ground.phase }, { on := 1, ground := Ground.phase }, { on := 2, ground := Ground.phase }, { on := 3, ground := Ground.phase }, { on := 4, ground := Ground.phase }, { on := 5, ground := Ground.phase }, { on := 6, ground := Ground.phase }, { on := 7, ground := Ground.phase }, { on := 8, ground := Ground.phase }], guard := none }, rfl, fun K' hK => ?_⟩
          have d0 := cell_of_cells (i := 0) xb9_y23 rfl
          have d1 := cell_of_cells (i := 1) xb9_y23 rfl
          have d2 := cell_of_cells (i := 2) xb9_y23 rfl
          have e0 := fz_of xb9_y23 0
          have e1 := fz_of xb9_y23 1
          have e2 := fz_of xb9_y23 2
          go_simp
          obtain ⟨y24, hy24⟩ : ∃ q, q = ((y23.setCell ⟨b9, 0, none⟩ (.int .i64 9)).setCell ⟨b9, 1, none⟩ (.int .i64 0)).setCell ⟨b9, 2, none⟩ (.slice (some ⟨k9, 0, none⟩) 2 2) := ⟨_, rfl⟩
          rw [← hy24]
          have hbut : But b9 y23 y24 := by rw [hy24]; exact (((But.refl _ _).setCell _ _).setCell _ _).setCell _ _
          have xb9_y24 : y24.heap[b9]? = some (.cells #[.int .i64 9, .int .i64 0, .slice (some ⟨k9, 0, none⟩) 2 2] 24) := by rw [hy24]; exact three_set xb9_y23 _ _ _
          have hB_y24 := hB_y23.trans (hbut.below hl9 hB_y23.size)
          have xb8_y24 := (hbut.block _ (Array.getElem?_eq_some_iff.1 xb8_y23).1 (by omega)).trans xb8_y23
          have xk8_y24 := (hbut.block _ (Array.getElem?_eq_some_iff.1 xk8_y23).1 (six_three xk8_y23 xb9_y23)).trans xk8_y23
          have xk9_y24 := (hbut.block _ (Array.getElem?_eq_some_iff.1 xk9_y23).1 (six_three xk9_y23 xb9_y23)).trans xk9_y23
          clear hbut hy24 d0 d1 d2 e0 e1 e2
          refine hK.out _ _ (fun _ => HS.out _ hB_y24) (fun _ => ?_)
          clear hK K'
          (try simp only [Act.put, List.setIfInBounds_toArray, List.set_cons_zero, List.set_cons_succ])
          clear xb8_y23 xb9_y23 xk8_y23 xk9_y23 hB_y23
          refine G_done (by kernel_rfl) ?_ _
          have HFIN : Hid (Below z.heap.size z y24 ∧ Fb y24 b8 (tw 8 f g) (some ⟨k8, 0, none⟩) 2 ∧ Fb y24 b9 (tw 9 f g) (some ⟨k9, 0, none⟩) 2 ∧ Kds y24 (tw 8 f g) (some ⟨k8, 0, none⟩) ∧ Kds y24 (tw 9 f g) (some ⟨k9, 0, none⟩)) := ⟨hB_y24, fb_of xb8_y24, fb_of xb9_y24, kds_tw (cap := cap0) (cap2 := cap1) xk8_y24 hfc (HKF.out.1.below hB_y24) hgc (HKF.out.2.below hB_y24), kds_tw (cap := cap0) (cap2 := cap1) xk9_y24 hfc (HKF.out.1.below hB_y24) hgc (HKF.out.2.below hB_y24)⟩
          clear xb8_y24 xb9_y24 xk8_y24 xk9_y24 hB_y24
          go_wp2_with fail
          go_meet
          exact ⟨b8, b9, _, _, _, _, rfl, rfl, HFIN⟩
        · refine ⟨{ dst := some 8, op := Op.alloc 24, type := 0, pos := _, after := #[], guard := none }, rfl, fun K' hK => ?_⟩
          go_simp
          obtain ⟨y25, hy25⟩ : ∃ q, q = y20.alloc (.cells #[.int .i64 0, .int .i64 0, .slice none 0 0] 24) := ⟨_, rfl⟩
          rw [← hy25]
          obtain ⟨b8, hb8⟩ : ∃ q, q = y20.heap.size := ⟨_, rfl⟩
          have hb : Below y20.heap.size y20 y25 := by rw [hy25]; exact box_below _ _
          have xb8_y25 : y25.heap[b8]? = some (.cells #[.int .i64 0, .int .i64 0, .slice none 0 0] 24) := by rw [hy25, hb8]; exact Go.Deep.blk_alloc_new _ _
          have hB_y25 := hB_y20.trans (hb.mono hB_y20.size)
          have hl8 : z.heap.size ≤ b8 := by rw [hb8]; exact hB_y20.size
          have hne : b8 ≠ b9 := by have h := (Array.getElem?_eq_some_iff.1 xb9_y20).1; omega
          have xk8_y25 := alloc_le hb xk8_y20
          have xb9_y25 := alloc_le hb xb9_y20
          rw [← hb8]
          clear hb hb8 hy25
          refine hK.out _ _ (fun _ => HS.out _ hB_y25) (fun _ => ?_)
          clear hK K'
          (try simp only [Act.put, List.setIfInBounds_toArray, List.set_cons_zero, List.set_cons_succ])
          clear xk8_y20 xb9_y20 hB_y20
          refine G_alt (l := [5]) (by kernel_rfl) (by decide) ?_
          intro i hi
          have hi2 : i = 5 := by simpa using hi
          clear hi
          subst hi2
          refine ⟨{ dst := some 20, op := Op.call { callee := Callee.value (Operand.func 19), args := #[Operand.const (Value.int IntKind.i64 9), Operand.tmp 18, Operand.tmp 19], argTypes := #[3, 24, 24] }, type := 24, pos := _, after := #[{ on := 3, ground := Ground.data }, { on := 4, ground := Ground.data }, { on := 2, ground := Ground.chain }], guard := none }, rfl, fun K' hK => ?_⟩
          go_simp
          go_at_call 19
          refine (C19.out y25 9 hB_y25).mono ?_
          rintro e y26 ⟨k9, rfl, xk9_y26, hb⟩
          dsimp only
          have hB_y26 := hB_y25.trans (hb.mono hB_y25.size)
          have xk8_y26 := alloc_le hb xk8_y25
          have xb9_y26 := alloc_le hb xb9_y25
          have xb8_y26 := alloc_le hb xb8_y25
          clear hb
          refine hK.out _ _ (fun _ => HS.out _ hB_y26) (fun _ => ?_)
          clear hK K'
          (try simp only [Act.put, List.setIfInBounds_toArray, List.set_cons_zero, List.set_cons_succ])
          clear xk8_y25 xb9_y25 xb8_y25 hB_y25
          refine G_alt (l := [8]) (by kernel_rfl) (by decide) ?_
          intro i hi
          have hi2 : i = 8 := by simpa using hi
          clear hi
          subst hi2
          refine ⟨{ dst := none, op := Op.store 24 (Operand.tmp 8) (Operand.tmp 17), type := 0, pos := _, after := #[{ on := 6, ground := Ground.data }, { on := 2, ground := Ground.data }, { on := 5, ground := Ground.chain }, { on := 0, ground := Ground.phase }, { on := 1, ground := Ground.phase }, { on := 2, ground := Ground.phase }, { on := 3, ground := Ground.textOnly Departure.lateStores }, { on := 4, ground := Ground.textOnly Departure.lateStores }, { on := 5, ground := Ground.textOnly Departure.lateStoresUnsure }, { on := 6, ground := Ground.phase }, { on := 7, ground := Ground.phase }], guard := none }, rfl, fun K' hK => ?_⟩
          have d0 := cell_of_cells (i := 0) xb8_y26 rfl
          have d1 := cell_of_cells (i := 1) xb8_y26 rfl
          have d2 := cell_of_cells (i := 2) xb8_y26 rfl
          have e0 := fz_of xb8_y26 0
          have e1 := fz_of xb8_y26 1
          have e2 := fz_of xb8_y26 2
          go_simp
          obtain ⟨y27, hy27⟩ : ∃ q, q = ((y26.setCell ⟨b8, 0, none⟩ (.int .i64 8)).setCell ⟨b8, 1, none⟩ (.int .i64 0)).setCell ⟨b8, 2, none⟩ (.slice (some ⟨k8, 0, none⟩) 2 2) := ⟨_, rfl⟩
          rw [← hy27]
          have hbut : But b8 y26 y27 := by rw [hy27]; exact (((But.refl _ _).setCell _ _).setCell _ _).setCell _ _
          have xb8_y27 : y27.heap[b8]? = some (.cells #[.int .i64 8, .int .i64 0, .slice (some ⟨k8, 0, none⟩) 2 2] 24) := by rw [hy27]; exact three_set xb8_y26 _ _ _
          have hB_y27 := hB_y26.trans (hbut.below hl8 hB_y26.size)
          have xb9_y27 := (hbut.block _ (Array.getElem?_eq_some_iff.1 xb9_y26).1 (by omega)).trans xb9_y26
          have xk8_y27 := (hbut.block _ (Array.getElem?_eq_some_iff.1 xk8_y26).1 (six_three xk8_y26 xb8_y26)).trans xk8_y26
          have xk9_y27 := (hbut.block _ (Array.getElem?_eq_some_iff.1 xk9_y26).1 (six_three xk9_y26 xb8_y26)).trans xk9_y26
          clear hbut hy27 d0 d1 d2 e0 e1 e2
          refine hK.out _ _ (fun _ => HS.out _ hB_y27) (fun _ => ?_)
          clear hK K'
          (try simp only [Act.put, List.setIfInBounds_toArray, List.set_cons_zero, List.set_cons_succ])
          clear xb8_y26 xb9_y26 xk8_y26 xk9_y26 hB_y26
          refine G_alt (l := [9]) (by kernel_rfl) (by decide) ?_
          intro i hi
          have hi2 : i = 9 := by simpa using hi
          clear hi
          subst hi2
          refine ⟨{ dst := none, op := Op.store 24 (Operand.tmp 9) (Operand.tmp 20), type := 0, pos := _, after := #[{ on := 7, ground := Ground.data }, { on := 5, ground := Ground.data }, { on := 8, ground := Ground.chain }, { on := 0, ground := Ground.phase }, { on := 1, ground := Ground.phase }, { on := 2, ground := Ground.phase }, { on := 3, ground := Ground.phase }, { on := 4, ground := Ground.phase }, { on := 5, ground := Ground.phase }, { on := 6, ground := Ground.phase }, { on := 7, ground := Ground.phase }, { on := 8, ground := Ground.phase }], guard := none }, rfl, fun K' hK => ?_⟩
          have d0 := cell_of_cells (i := 0) xb9_y27 rfl
          have d1 := cell_of_cells (i := 1) xb9_y27 rfl
          have d2 := cell_of_cells (i := 2) xb9_y27 rfl
          have e0 := fz_of xb9_y27 0
          have e1 := fz_of xb9_y27 1
          have e2 := fz_of xb9_y27 2
          go_simp
          obtain ⟨y28, hy28⟩ : ∃ q, q = ((y27.setCell ⟨b9, 0, none⟩ (.int .i64 9)).setCell ⟨b9, 1, none⟩ (.int .i64 0)).setCell ⟨b9, 2, none⟩ (.slice (some ⟨k9, 0, none⟩) 2 2) := ⟨_, rfl⟩
          rw [← hy28]
          have hbut : But b9 y27 y28 := by rw [hy28]; exact (((But.refl _ _).setCell _ _).setCell _ _).setCell _ _
          have xb9_y28 : y28.heap[b9]? = some (.cells #[.int .i64 9, .int .i64 0, .slice (some ⟨k9, 0, none⟩) 2 2] 24) := by rw [hy28]; exact three_set xb9_y27 _ _ _
          have hB_y28 := hB_y27.trans (hbut.below hl9 hB_y27.size)
          have xb8_y28 := (hbut.block _ (Array.getElem?_eq_some_iff.1 xb8_y27).1 (by omega)).trans xb8_y27
          have xk8_y28 := (hbut.block _ (Array.getElem?_eq_some_iff.1 xk8_y27).1 (six_three xk8_y27 xb9_y27)).trans xk8_y27
          have xk9_y28 := (hbut.block _ (Array.getElem?_eq_some_iff.1 xk9_y27).1 (six_three xk9_y27 xb9_y27)).trans xk9_y27
          clear hbut hy28 d0 d1 d2 e0 e1 e2
          refine hK.out _ _ (fun _ => HS.out _ hB_y28) (fun _ => ?_)
          clear hK K'
          (try simp only [Act.put, List.setIfInBounds_toArray, List.set_cons_zero, List.set_cons_succ])
          clear xb8_y27 xb9_y27 xk8_y27 xk9_y27 hB_y27
          refine G_done (by kernel_rfl) ?_ _
          have HFIN : Hid (Below z.heap.size z y28 ∧ Fb y28 b8 (tw 8 f g) (some ⟨k8, 0, none⟩) 2 ∧ Fb y28 b9 (tw 9 f g) (some ⟨k9, 0, none⟩) 2 ∧ Kds y28 (tw 8 f g) (some ⟨k8, 0, none⟩) ∧ Kds y28 (tw 9 f g) (some ⟨k9, 0, none⟩)) := ⟨hB_y28, fb_of xb8_y28, fb_of xb9_y28, kds_tw (cap := cap0) (cap2 := cap1) xk8_y28 hfc (HKF.out.1.below hB_y28) hgc (HKF.out.2.below hB_y28), kds_tw (cap := cap0) (cap2 := cap1) xk9_y28 hfc (HKF.out.1.below hB_y28) hgc (HKF.out.2.below hB_y28)⟩
          clear xb8_y28 xb9_y28 xk8_y28 xk9_y28 hB_y28
          go_wp2_with fail
          go_meet
          exact ⟨b8, b9, _, _, _, _, rfl, rfl, HFIN⟩
    · refine ⟨{ dst := some 8, op := Op.alloc 24, type := 0, pos := _, after := #[], guard := none }, rfl, fun K' hK => ?_⟩
      go_simp
      obtain ⟨y29, hy29⟩ : ∃ q, q = y0.alloc (.cells #[.int .i64 0, .int .i64 0, .slice none 0 0] 24) := ⟨_, rfl⟩
      rw [← hy29]
      obtain ⟨b8, hb8⟩ : ∃ q, q = y0.heap.size := ⟨_, rfl⟩
      have hb : Below y0.heap.size y0 y29 := by rw [hy29]; exact box_below _ _
      have xb8_y29 : y29.heap[b8]? = some (.cells #[.int .i64 0, .int .i64 0, .slice none 0 0] 24) := by rw [hy29, hb8]; exact Go.Deep.blk_alloc_new _ _
      have hB_y29 := hB_y0.trans (hb.mono hB_y0.size)
      have hl8 : z.heap.size ≤ b8 := by rw [hb8]; exact hB_y0.size
      rw [← hb8]
      clear hb hb8 hy29
      refine hK.out _ _ (fun _ => HS.out _ hB_y29) (fun _ => ?_)
      clear hK K'
      (try simp only [Act.put, List.setIfInBounds_toArray, List.set_cons_zero, List.set_cons_succ])
      clear hB_y0
      refine G_alt (l := [2, 7]) (by kernel_rfl) (by decide) ?_
      intro i hi
      have hi2 : i = 2 ∨ i = 7 := by simpa using hi
      clear hi
      rcases hi2 with rfl | rfl
      · refine ⟨{ dst := some 17, op := Op.call { callee := Callee.value (Operand.func 19), args := #[Operand.const (Value.int IntKind.i64 8), Operand.tmp 15, Operand.tmp 16], argTypes := #[3, 24, 24] }, type := 24, pos := _, after := #[{ on := 0, ground := Ground.data }, { on := 1, ground := Ground.data }], guard := none }, rfl, fun K' hK => ?_⟩
        go_simp
        go_at_call 19
        refine (C19.out y29 8 hB_y29).mono ?_
        rintro e y30 ⟨k8, rfl, xk8_y30, hb⟩
        dsimp only
        have hB_y30 := hB_y29.trans (hb.mono hB_y29.size)
        have xb8_y30 := alloc_le hb xb8_y29
        clear hb
        refine hK.out _ _ (fun _ => HS.out _ hB_y30) (fun _ => ?_)
        clear hK K'
        (try simp only [Act.put, List.setIfInBounds_toArray, List.set_cons_zero, List.set_cons_succ])
        clear xb8_y29 hB_y29
        refine G_alt (l := [5, 7]) (by kernel_rfl) (by decide) ?_
        intro i hi
        have hi2 : i = 5 ∨ i = 7 := by simpa using hi
        clear hi
        rcases hi2 with rfl | rfl
        · refine ⟨{ dst := some 20, op := Op.call { callee := Callee.value (Operand.func 19), args := #[Operand.const (Value.int IntKind.i64 9), Operand.tmp 18, Operand.tmp 19], argTypes := #[3, 24, 24] }, type := 24, pos := _, after := #[{ on := 3, ground := Ground.data }, { on := 4, ground := Ground.data }, { on := 2, ground := Ground.chain }], guard := none }, rfl, fun K' hK => ?_⟩
          go_simp
          go_at_call 19
          refine (C19.out y30 9 hB_y30).mono ?_
          rintro e y31 ⟨k9, rfl, xk9_y31, hb⟩
          dsimp only
          have hB_y31 := hB_y30.trans (hb.mono hB_y30.size)
          have xb8_y31 := alloc_le hb xb8_y30
          have xk8_y31 := alloc_le hb xk8_y30
          clear hb
          refine hK.out _ _ (fun _ => HS.out _ hB_y31) (fun _ => ?_)
          clear hK K'
          (try simp only [Act.put, List.setIfInBounds_toArray, List.set_cons_zero, List.set_cons_succ])
          clear xb8_y30 xk8_y30 hB_y30
          refine G_alt (l := [7]) (by kernel_rfl) (by decide) ?_
          intro i hi
          have hi2 : i = 7 := by simpa using hi
          clear hi
          subst hi2
          refine ⟨{ dst := some 9, op := Op.alloc 24, type := 0, pos := _, after := #[], guard := none }, rfl, fun K' hK => ?_⟩
          go_simp
          obtain ⟨y32, hy32⟩ : ∃ q, q = y31.alloc (.cells #[.int .i64 0, .int .i64 0, .slice none 0 0] 24) := ⟨_, rfl⟩
          rw [← hy32]
          obtain ⟨b9, hb9⟩ : ∃ q, q = y31.heap.size := ⟨_, rfl⟩
          have hb : Below y31.heap.size y31 y32 := by rw [hy32]; exact box_below _ _
          have xb9_y32 : y32.heap[b9]? = some (.cells #[.int .i64 0, .int .i64 0, .slice none 0 0] 24) := by rw [hy32, hb9]; exact Go.Deep.blk_alloc_new _ _
          have hB_y32 := hB_y31.trans (hb.mono hB_y31.size)
          have hl9 : z.heap.size ≤ b9 := by rw [hb9]; exact hB_y31.size
          have hne : b8 ≠ b9 := by have h := (Array.getElem?_eq_some_iff.1 xb8_y31).1; omega
          have xb8_y32 := alloc_le hb xb8_y31
          have xk8_y32 := alloc_le hb xk8_y31
          have xk9_y32 := alloc_le hb xk9_y31
          rw [← hb9]
          clear hb hb9 hy32
          refine hK.out _ _ (fun _ => HS.out _ hB_y32) (fun _ => ?_)
          clear hK K'
          (try simp only [Act.put, List.setIfInBounds_toArray, List.set_cons_zero, List.set_cons_succ])
          clear xb8_y31 xk8_y31 xk9_y31 hB_y31
          refine G_alt (l := [8]) (by kernel_rfl) (by decide) ?_
          intro i hi
          have hi2 : i = 8 := by simpa using hi
          clear hi
          subst hi2
          refine ⟨{ dst := none, op := Op.store 24 (Operand.tmp 8) (Operand.tmp 17), type := 0, pos := _, after := #[{ on := 6, ground := Ground.data }, { on := 2, ground := Ground.data }, { on := 5, ground := Ground.chain }, { on := 0, ground := Ground.phase }, { on := 1, ground := Ground.phase }, { on := 2, ground := Ground.phase }, { on := 3, ground := Ground.textOnly Departure.lateStores }, { on := 4, ground := Ground.textOnly Departure.lateStores }, { on := 5, ground := Ground.textOnly Departure.lateStoresUnsure }, { on := 6, ground := Ground.phase }, { on := 7, ground := Ground.phase }], guard := none }, rfl, fun K' hK => ?_⟩
          have d0 := cell_of_cells (i := 0) xb8_y32 rfl
          have d1 := cell_of_cells (i := 1) xb8_y32 rfl
          have d2 := cell_of_cells (i := 2) xb8_y32 rfl
          have e0 := fz_of xb8_y32 0
          have e1 := fz_of xb8_y32 1
          have e2 := fz_of xb8_y32 2
          go_simp
          obtain ⟨y33, hy33⟩ : ∃ q, q = ((y32.setCell ⟨b8, 0, none⟩ (.int .i64 8)).setCell ⟨b8, 1, none⟩ (.int .i64 0)).setCell ⟨b8, 2, none⟩ (.slice (some ⟨k8, 0, none⟩) 2 2) := ⟨_, rfl⟩
          rw [← hy33]
          have hbut : But b8 y32 y33 := by rw [hy33]; exact (((But.refl _ _).setCell _ _).setCell _ _).setCell _ _
          have xb8_y33 : y33.heap[b8]? = some (.cells #[.int .i64 8, .int .i64 0, .slice (some ⟨k8, 0, none⟩) 2 2] 24) := by rw [hy33]; exact three_set xb8_y32 _ _ _
          have hB_y33 := hB_y32.trans (hbut.below hl8 hB_y32.size)
          have xb9_y33 := (hbut.block _ (Array.getElem?_eq_some_iff.1 xb9_y32).1 (by omega)).trans xb9_y32
          have xk8_y33 := (hbut.block _ (Array.getElem?_eq_some_iff.1 xk8_y32).1 (six_three xk8_y32 xb8_y32)).trans xk8_y32
          have xk9_y33 := (hbut.block _ (Array.getElem?_eq_some_iff.1 xk9_y32).1 (six_three xk9_y32 xb8_y32)).trans xk9_y32
          clear hbut hy33 d0 d1 d2 e0 e1 e2
          refine hK.out _ _ (fun _ => HS.out _ hB_y33) (fun _ => ?_)
          clear hK K'
          (try simp only [Act.put, List.setIfInBounds_toArray, List.set_cons_zero, List.set_cons_succ])
          clear xb8_y32 xb9_y32 xk8_y32 xk9_y32 hB_y32
          refine G_alt (l := [9]) (by kernel_rfl) (by decide) ?_
          intro i hi
          have hi2 : i = 9 := by simpa using hi
          clear hi
          subst hi2
          refine ⟨{ dst := none, op := Op.store 24 (Operand.tmp 9) (Operand.tmp 20), type := 0, pos := _, after := #[{ on := 7, ground := Ground.data }, { on := 5, ground := Ground.data }, { on := 8, ground := Ground.chain }, { on := 0, ground := Ground.phase }, { on := 1, ground := Ground.phase }, { on := 2, ground := Ground.phase }, { on := 3, ground := Ground.phase }, { on := 4, ground := Ground.phase }, { on := 5, ground := Ground.phase }, { on := 6, ground := Ground.phase }, { on := 7, ground := Ground.phase }, { on := 8, ground := Ground.phase }], guard := none }, rfl, fun K' hK => ?_⟩
          have d0 := cell_of_cells (i := 0) xb9_y33 rfl
          have d1 := cell_of_cells (i := 1) xb9_y33 rfl
          have d2 := cell_of_cells (i := 2) xb9_y33 rfl
          have e0 := fz_of xb9_y33 0
          have e1 := fz_of xb9_y33 1
          have e2 := fz_of xb9_y33 2
          go_simp
          obtain ⟨y34, hy34⟩ : ∃ q, q = ((y33.setCell ⟨b9, 0, none⟩ (.int .i64 9)).setCell ⟨b9, 1, none⟩ (.int .i64 0)).setCell ⟨b9, 2, none⟩ (.slice (some ⟨k9, 0, none⟩) 2 2) := ⟨_, rfl⟩
          rw [← hy34]
          have hbut : But b9 y33 y34 := by rw [hy34]; exact (((But.refl _ _).setCell _ _).setCell _ _).setCell _ _
          have xb9_y34 : y34.heap[b9]? = some (.cells #[.int .i64 9, .int .i64 0, .slice (some ⟨k9, 0, none⟩) 2 2] 24) := by rw [hy34]; exact three_set xb9_y33 _ _ _
          have hB_y34 := hB_y33.trans (hbut.below hl9 hB_y33.size)
          have xb8_y34 := (hbut.block _ (Array.getElem?_eq_some_iff.1 xb8_y33).1 (by omega)).trans xb8_y33
          have xk8_y34 := (hbut.block _ (Array.getElem?_eq_some_iff.1 xk8_y33).1 (six_three xk8_y33 xb9_y33)).trans xk8_y33
          have xk9_y34 := (hbut.block _ (Array.getElem?_eq_some_iff.1 xk9_y33).1 (six_three xk9_y33 xb9_y33)).trans xk9_y33
          clear hbut hy34 d0 d1 d2 e0 e1 e2
          refine hK.out _ _ (fun _ => HS.out _ hB_y34) (fun _ => ?_)
          clear hK K'
          (try simp only [Act.put, List.setIfInBounds_toArray, List.set_cons_zero, List.set_cons_succ])
          clear xb8_y33 xb9_y33 xk8_y33 xk9_y33 hB_y33
          refine G_done (by kernel_rfl) ?_ _
          have HFIN : Hid (Below z.heap.size z y34 ∧ Fb y34 b8 (tw 8 f g) (some ⟨k8, 0, none⟩) 2 ∧ Fb y34 b9 (tw 9 f g) (some ⟨k9, 0, none⟩) 2 ∧ Kds y34 (tw 8 f g) (some ⟨k8, 0, none⟩) ∧ Kds y34 (tw 9 f g) (some ⟨k9, 0, none⟩)) := ⟨hB_y34, fb_of xb8_y34, fb_of xb9_y34, kds_tw (cap := cap0) (cap2 := cap1) xk8_y34 hfc (HKF.out.1.below hB_y34) hgc (HKF.out.2.below hB_y34), kds_tw (cap := cap0) (cap2 := cap1) xk9_y34 hfc (HKF.out.1.below hB_y34) hgc (HKF.out.2.below hB_y34)⟩
          clear xb8_y34 xb9_y34 xk8_y34 xk9_y34 hB_y34
          go_wp2_with fail
          go_meet
          exact ⟨b8, b9, _, _, _, _, rfl, rfl, HFIN⟩
        · refine ⟨{ dst := some 9, op := Op.alloc 24, type := 0, pos := _, after := #[], guard := none }, rfl, fun K' hK => ?_⟩
          go_simp
          obtain ⟨y35, hy35⟩ : ∃ q, q = y30.alloc (.cells #[.int .i64 0, .int .i64 0, .slice none 0 0] 24) := ⟨_, rfl⟩
          rw [← hy35]
          obtain ⟨b9, hb9⟩ : ∃ q, q = y30.heap.size := ⟨_, rfl⟩
          have hb : Below y30.heap.size y30 y35 := by rw [hy35]; exact box_below _ _
          have xb9_y35 : y35.heap[b9]? = some (.cells #[.int .i64 0, .int .i64 0, .slice none 0 0] 24) := by rw [hy35, hb9]; exact Go.Deep.blk_alloc_new _ _
          have hB_y35 := hB_y30.trans (hb.mono hB_y30.size)
          have hl9 : z.heap.size ≤ b9 := by rw [hb9]; exact hB_y30.size
          have hne : b8 ≠ b9 := by have h := (Array.getElem?_eq_some_iff.1 xb8_y30).1; omega
          have xb8_y35 := alloc_le hb xb8_y30
          have xk8_y35 := alloc_le hb xk8_y30
          rw [← hb9]
          clear hb hb9 hy35
          refine hK.out _ _ (fun _ => HS.out _ hB_y35) (fun _ => ?_)
          clear hK K'
          (try simp only [Act.put, List.setIfInBounds_toArray, List.set_cons_zero, List.set_cons_succ])
          clear xb8_y30 xk8_y30 hB_y30
          refine G_alt (l := [5]) (by kernel_rfl) (by decide) ?_
          intro i hi
          have hi2 : i = 5 := by simpa using hi
          clear hi
          subst hi2
          refine ⟨{ dst := some 20, op := Op.call { callee := Callee.value (Operand.func 19), args := #[Operand.const (Value.int IntKind.i64 9), Operand.tmp 18, Operand.tmp 19], argTypes := #[3, 24, 24] }, type := 24, pos := _, after := #[{ on := 3, ground := Ground.data }, { on := 4, ground := Ground.data }, { on := 2, ground := Ground.chain }], guard := none }, rfl, fun K' hK => ?_⟩
          go_simp
          go_at_call 19
          refine (C19.out y35 9 hB_y35).mono ?_
          rintro e y36 ⟨k9, rfl, xk9_y36, hb⟩
          dsimp only
          have hB_y36 := hB_y35.trans (hb.mono hB_y35.size)
          have xb8_y36 := alloc_le hb xb8_y35
          have xk8_y36 := alloc_le hb xk8_y35
          have xb9_y36 := alloc_le hb xb9_y35
          clear hb
          refine hK.out _ _ (fun _ => HS.out _ hB_y36) (fun _ => ?_)
          clear hK K'
          (try simp only [Act.put, List.setIfInBounds_toArray, List.set_cons_zero, List.set_cons_succ])
          clear xb8_y35 xk8_y35 xb9_y35 hB_y35
          refine G_alt (l := [8]) (by kernel_rfl) (by decide) ?_
          intro i hi
          have hi2 : i = 8 := by simpa using hi
          clear hi
          subst hi2
          refine ⟨{ dst := none, op := Op.store 24 (Operand.tmp 8) (Operand.tmp 17), type := 0, pos := _, after := #[{ on := 6, ground := Ground.data }, { on := 2, ground := Ground.data }, { on := 5, ground := Ground.chain }, { on := 0, ground := Ground.phase }, { on := 1, ground := Ground.phase }, { on := 2, ground := Ground.phase }, { on := 3, ground := Ground.textOnly Departure.lateStores }, { on := 4, ground := Ground.textOnly Departure.lateStores }, { on := 5, ground := Ground.textOnly Departure.lateStoresUnsure }, { on := 6, ground := Ground.phase }, { on := 7, ground := Ground.phase }], guard := none }, rfl, fun K' hK => ?_⟩
          have d0 := cell_of_cells (i := 0) xb8_y36 rfl
          have d1 := cell_of_cells (i := 1) xb8_y36 rfl
          have d2 := cell_of_cells (i := 2) xb8_y36 rfl
          have e0 := fz_of xb8_y36 0
          have e1 := fz_of xb8_y36 1
          have e2 := fz_of xb8_y36 2
          go_simp
          obtain ⟨y37, hy37⟩ : ∃ q, q = ((y36.setCell ⟨b8, 0, none⟩ (.int .i64 8)).setCell ⟨b8, 1, none⟩ (.int .i64 0)).setCell ⟨b8, 2, none⟩ (.slice (some ⟨k8, 0, none⟩) 2 2) := ⟨_, rfl⟩
          rw [← hy37]
          have hbut : But b8 y36 y37 := by rw [hy37]; exact (((But.refl _ _).setCell _ _).setCell _ _).setCell _ _
          have xb8_y37 : y37.heap[b8]? = some (.cells #[.int .i64 8, .int .i64 0, .slice (some ⟨k8, 0, none⟩) 2 2] 24) := by rw [hy37]; exact three_set xb8_y36 _ _ _
          have hB_y37 := hB_y36.trans (hbut.below hl8 hB_y36.size)
          have xb9_y37 := (hbut.block _ (Array.getElem?_eq_some_iff.1 xb9_y36).1 (by omega)).trans xb9_y36
          have xk8_y37 := (hbut.block _ (Array.getElem?_eq_some_iff.1 xk8_y36).1 (six_three xk8_y36 xb8_y36)).trans xk8_y36
          have xk9_y37 := (hbut.block _ (Array.getElem?_eq_some_iff.1 xk9_y36).1 (six_three xk9_y36 xb8_y36)).trans xk9_y36
          clear hbut hy37 d0 d1 d2 e0 e1 e2
          refine hK.out _ _ (fun _ => HS.out _ hB_y37) (fun _ => ?_)
          clear hK K'
          (try simp only [Act.put, List.setIfInBounds_toArray, List.set_cons_zero, List.set_cons_succ])
          clear xb8_y36 xb9_y36 xk8_y36 xk9_y36 hB_y36
          refine G_alt (l := [9]) (by kernel_rfl) (by decide) ?_
          intro i hi
          have hi2 : i = 9 := by simpa using hi
          clear hi
          subst hi2
          refine ⟨{ dst := none, op := Op.store 24 (Operand.tmp 9) (Operand.tmp 20), type := 0, pos := _, after := #[{ on := 7, ground := Ground.data }, { on := 5, ground := Ground.data }, { on := 8, ground := Ground.chain }, { on := 0, ground := Ground.phase }, { on := 1, ground := Ground.phase }, { on := 2, ground := Ground.phase }, { on := 3, ground := Ground.phase }, { on := 4, ground := Ground.phase }, { on := 5, ground := Ground.phase }, { on := 6, ground := Ground.phase }, { on := 7, ground := Ground.phase }, { on := 8, ground := Ground.phase }], guard := none }, rfl, fun K' hK => ?_⟩
          have d0 := cell_of_cells (i := 0) xb9_y37 rfl
          have d1 := cell_of_cells (i := 1) xb9_y37 rfl
          have d2 := cell_of_cells (i := 2) xb9_y37 rfl
          have e0 := fz_of xb9_y37 0
          have e1 := fz_of xb9_y37 1
          have e2 := fz_of xb9_y37 2
          go_simp
          obtain ⟨y38, hy38⟩ : ∃ q, q = ((y37.setCell ⟨b9, 0, none⟩ (.int .i64 9)).setCell ⟨b9, 1, none⟩ (.int .i64 0)).setCell ⟨b9, 2, none⟩ (.slice (some ⟨k9, 0, none⟩) 2 2) := ⟨_, rfl⟩
          rw [← hy38]
          have hbut : But b9 y37 y38 := by rw [hy38]; exact (((But.refl _ _).setCell _ _).setCell _ _).setCell _ _
          have xb9_y38 : y38.heap[b9]? = some (.cells #[.int .i64 9, .int .i64 0, .slice (some ⟨k9, 0, none⟩) 2 2] 24) := by rw [hy38]; exact three_set xb9_y37 _ _ _
          have hB_y38 := hB_y37.trans (hbut.below hl9 hB_y37.size)
          have xb8_y38 := (hbut.block _ (Array.getElem?_eq_some_iff.1 xb8_y37).1 (by omega)).trans xb8_y37
          have xk8_y38 := (hbut.block _ (Array.getElem?_eq_some_iff.1 xk8_y37).1 (six_three xk8_y37 xb9_y37)).trans xk8_y37
          have xk9_y38 := (hbut.block _ (Array.getElem?_eq_some_iff.1 xk9_y37).1 (six_three xk9_y37 xb9_y37)).trans xk9_y37
          clear hbut hy38 d0 d1 d2 e0 e1 e2
          refine hK.out _ _ (fun _ => HS.out _ hB_y38) (fun _ => ?_)
          clear hK K'
          (try simp only [Act.put, List.setIfInBounds_toArray, List.set_cons_zero, List.set_cons_succ])
          clear xb8_y37 xb9_y37 xk8_y37 xk9_y37 hB_y37
          refine G_done (by kernel_rfl) ?_ _
          have HFIN : Hid (Below z.heap.size z y38 ∧ Fb y38 b8 (tw 8 f g) (some ⟨k8, 0, none⟩) 2 ∧ Fb y38 b9 (tw 9 f g) (some ⟨k9, 0, none⟩) 2 ∧ Kds y38 (tw 8 f g) (some ⟨k8, 0, none⟩) ∧ Kds y38 (tw 9 f g) (some ⟨k9, 0, none⟩)) := ⟨hB_y38, fb_of xb8_y38, fb_of xb9_y38, kds_tw (cap := cap0) (cap2 := cap1) xk8_y38 hfc (HKF.out.1.below hB_y38) hgc (HKF.out.2.below hB_y38), kds_tw (cap := cap0) (cap2 := cap1) xk9_y38 hfc (HKF.out.1.below hB_y38) hgc (HKF.out.2.below hB_y38)⟩
          clear xb8_y38 xb9_y38 xk8_y38 xk9_y38 hB_y38
          go_wp2_with fail
          go_meet
          exact ⟨b8, b9, _, _, _, _, rfl, rfl, HFIN⟩
      · refine ⟨{ dst := some 9, op := Op.alloc 24, type := 0, pos := _, after := #[], guard := none }, rfl, fun K' hK => ?_⟩
        go_simp
        obtain ⟨y39, hy39⟩ : ∃ q, q = y29.alloc (.cells #[.int .i64 0, .int .i64 0, .slice none 0 0] 24) := ⟨_, rfl⟩
        rw [← hy39]
        obtain ⟨b9, hb9⟩ : ∃ q, q = y29.heap.size := ⟨_, rfl⟩
        have hb : Below y29.heap.size y29 y39 := by rw [hy39]; exact box_below _ _
        have xb9_y39 : y39.heap[b9]? = some (.cells #[.int .i64 0, .int .i64 0, .slice none 0 0] 24) := by rw [hy39, hb9]; exact Go.Deep.blk_alloc_new _ _
        have hB_y39 := hB_y29.trans (hb.mono hB_y29.size)
        have hl9 : z.heap.size ≤ b9 := by rw [hb9]; exact hB_y29.size
        have hne : b8 ≠ b9 := by have h := (Array.getElem?_eq_some_iff.1 xb8_y29).1; omega
        have xb8_y39 := alloc_le hb xb8_y29
        rw [← hb9]
        clear hb hb9 hy39
        refine hK.out _ _ (fun _ => HS.out _ hB_y39) (fun _ => ?_)
        clear hK K'
        (try simp only [Act.put, List.setIfInBounds_toArray, List.set_cons_zero, List.set_cons_succ])
        clear xb8_y29 hB_y29
        refine G_alt (l := [2]) (by kernel_rfl) (by decide) ?_
        intro i hi
        have hi2 : i = 2 := by simpa using hi
        clear hi
        subst hi2
        refine ⟨{ dst := some 17, op := Op.call { callee := Callee.value (Operand.func 19), args := #[Operand.const (Value.int IntKind.i64 8), Operand.tmp 15, Operand.tmp 16], argTypes := #[3, 24, 24] }, type := 24, pos := _, after := #[{ on := 0, ground := Ground.data }, { on := 1, ground := Ground.data }], guard := none }, rfl, fun K' hK => ?_⟩
        go_simp
        go_at_call 19
        refine (C19.out y39 8 hB_y39).mono ?_
        rintro e y40 ⟨k8, rfl, xk8_y40, hb⟩
        dsimp only
        have hB_y40 := hB_y39.trans (hb.mono hB_y39.size)
        have xb8_y40 := alloc_le hb xb8_y39
        have xb9_y40 := alloc_le hb xb9_y39
        clear hb
        refine hK.out _ _ (fun _ => HS.out _ hB_y40) (fun _ => ?_)
        clear hK K'
        (try simp only [Act.put, List.setIfInBounds_toArray, List.set_cons_zero, List.set_cons_succ])
        clear xb8_y39 xb9_y39 hB_y39
        refine G_alt (l := [5]) (by kernel_rfl) (by decide) ?_
        intro i hi
        have hi2 : i = 5 := by simpa using hi
        clear hi
        subst hi2
        refine ⟨{ dst := some 20, op := Op.call { callee := Callee.value (Operand.func 19), args := #[Operand.const (Value.int IntKind.i64 9), Operand.tmp 18, Operand.tmp 19], argTypes := #[3, 24, 24] }, type := 24, pos := _, after := #[{ on := 3, ground := Ground.data }, { on := 4, ground := Ground.data }, { on := 2, ground := Ground.chain }], guard := none }, rfl, fun K' hK => ?_⟩
        go_simp
        go_at_call 19
        refine (C19.out y40 9 hB_y40).mono ?_
        rintro e y41 ⟨k9, rfl, xk9_y41, hb⟩
        dsimp only
        have hB_y41 := hB_y40.trans (hb.mono hB_y40.size)
        have xb8_y41 := alloc_le hb xb8_y40
        have xb9_y41 := alloc_le hb xb9_y40
        have xk8_y41 := alloc_le hb xk8_y40
        clear hb
        refine hK.out _ _ (fun _ => HS.out _ hB_y41) (fun _ => ?_)
        clear hK K'
        (try simp only [Act.put, List.setIfInBounds_toArray, List.set_cons_zero, List.set_cons_succ])
        clear xb8_y40 xb9_y40 xk8_y40 hB_y40
        refine G_alt (l := [8]) (by kernel_rfl) (by decide) ?_
        intro i hi
        have hi2 : i = 8 := by simpa using hi
        clear hi
        subst hi2
        refine ⟨{ dst := none, op := Op.store 24 (Operand.tmp 8) (Operand.tmp 17), type := 0, pos := _, after := #[{ on := 6, ground := Ground.data }, { on := 2, ground := Ground.data }, { on := 5, ground := Ground.chain }, { on := 0, ground := Ground.phase }, { on := 1, ground := Ground.phase }, { on := 2, ground := Ground.phase }, { on := 3, ground := Ground.textOnly Departure.lateStores }, { on := 4, ground := Ground.textOnly Departure.lateStores }, { on := 5, ground := Ground.textOnly Departure.lateStoresUnsure }, { on := 6, ground := Ground.phase }, { on := 7, ground := Ground.phase }], guard := none }, rfl, fun K' hK => ?_⟩
        have d0 := cell_of_cells (i := 0) xb8_y41 rfl
        have d1 := cell_of_cells (i := 1) xb8_y41 rfl
        have d2 := cell_of_cells (i := 2) xb8_y41 rfl
        have e0 := fz_of xb8_y41 0
        have e1 := fz_of xb8_y41 1
        have e2 := fz_of xb8_y41 2
        go_simp
        obtain ⟨y42, hy42⟩ : ∃ q, q = ((y41.setCell ⟨b8, 0, none⟩ (.int .i64 8)).setCell ⟨b8, 1, none⟩ (.int .i64 0)).setCell ⟨b8, 2, none⟩ (.slice (some ⟨k8, 0, none⟩) 2 2) := ⟨_, rfl⟩
        rw [← hy42]
        have hbut : But b8 y41 y42 := by rw [hy42]; exact (((But.refl _ _).setCell _ _).setCell _ _).setCell _ _
        have xb8_y42 : y42.heap[b8]? = some (.cells #[.int .i64 8, .int .i64 0, .slice (some ⟨k8, 0, none⟩) 2 2] 24) := by rw [hy42]; exact three_set xb8_y41 _ _ _
        have hB_y42 := hB_y41.trans (hbut.below hl8 hB_y41.size)
        have xb9_y42 := (hbut.block _ (Array.getElem?_eq_some_iff.1 xb9_y41).1 (by omega)).trans xb9_y41
        have xk8_y42 := (hbut.block _ (Array.getElem?_eq_some_iff.1 xk8_y41).1 (six_three xk8_y41 xb8_y41)).trans xk8_y41
        have xk9_y42 := (hbut.block _ (Array.getElem?_eq_some_iff.1 xk9_y41).1 (six_three xk9_y41 xb8_y41)).trans xk9_y41
        clear hbut hy42 d0 d1 d2 e0 e1 e2
        refine hK.out _ _ (fun _ => HS.out _ hB_y42) (fun _ => ?_)
        clear hK K'
        (try simp only [Act.put, List.setIfInBounds_toArray, List.set_cons_zero, List.set_cons_succ])
        clear xb8_y41 xb9_y41 xk8_y41 xk9_y41 hB_y41
        refine G_alt (l := [9]) (by kernel_rfl) (by decide) ?_
        intro i hi
        have hi2 : i = 9 := by simpa using hi
        clear hi
        subst hi2
        refine ⟨{ dst := none, op := Op.store 24 (Operand.tmp 9) (Operand.tmp 20), type := 0, pos := _, after := #[{ on := 7, ground := Ground.data }, { on := 5, ground := Ground.data }, { on := 8, ground := Ground.chain }, { on := 0, ground := Ground.phase }, { on := 1, ground := Ground.phase }, { on := 2, ground := Ground.phase }, { on := 3, ground := Ground.phase }, { on := 4, ground := Ground.phase }, { on := 5, ground := Ground.phase }, { on := 6, ground := Ground.phase }, { on := 7, ground := Ground.phase }, { on := 8, ground := Ground.phase }], guard := none }, rfl, fun K' hK => ?_⟩
        have d0 := cell_of_cells (i := 0) xb9_y42 rfl
        have d1 := cell_of_cells (i := 1) xb9_y42 rfl
        have d2 := cell_of_cells (i := 2) xb9_y42 rfl
        have e0 := fz_of xb9_y42 0
        have e1 := fz_of xb9_y42 1
        have e2 := fz_of xb9_y42 2
        go_simp
        obtain ⟨y43, hy43⟩ : ∃ q, q = ((y42.setCell ⟨b9, 0, none⟩ (.int .i64 9)).setCell ⟨b9, 1, none⟩ (.int .i64 0)).setCell ⟨b9, 2, none⟩ (.slice (some ⟨k9, 0, none⟩) 2 2) := ⟨_, rfl⟩
        rw [← hy43]
        have hbut : But b9 y42 y43 := by rw [hy43]; exact (((But.refl _ _).setCell _ _).setCell _ _).setCell _ _
        have xb9_y43 : y43.heap[b9]? = some (.cells #[.int .i64 9, .int .i64 0, .slice (some ⟨k9, 0, none⟩) 2 2] 24) := by rw [hy43]; exact three_set xb9_y42 _ _ _
        have hB_y43 := hB_y42.trans (hbut.below hl9 hB_y42.size)
        have xb8_y43 := (hbut.block _ (Array.getElem?_eq_some_iff.1 xb8_y42).1 (by omega)).trans xb8_y42
        have xk8_y43 := (hbut.block _ (Array.getElem?_eq_some_iff.1 xk8_y42).1 (six_three xk8_y42 xb9_y42)).trans xk8_y42
        have xk9_y43 := (hbut.block _ (Array.getElem?_eq_some_iff.1 xk9_y42).1 (six_three xk9_y42 xb9_y42)).trans xk9_y42
        clear hbut hy43 d0 d1 d2 e0 e1 e2
        refine hK.out _ _ (fun _ => HS.out _ hB_y43) (fun _ => ?_)
        clear hK K'
        (try simp only [Act.put, List.setIfInBounds_toArray, List.set_cons_zero, List.set_cons_succ])
        clear xb8_y42 xb9_y42 xk8_y42 xk9_y42 hB_y42
        refine G_done (by kernel_rfl) ?_ _
        have HFIN : Hid (Below z.heap.size z y43 ∧ Fb y43 b8 (tw 8 f g) (some ⟨k8, 0, none⟩) 2 ∧ Fb y43 b9 (tw 9 f g) (some ⟨k9, 0, none⟩) 2 ∧ Kds y43 (tw 8 f g) (some ⟨k8, 0, none⟩) ∧ Kds y43 (tw 9 f g) (some ⟨k9, 0, none⟩)) := ⟨hB_y43, fb_of xb8_y43, fb_of xb9_y43, kds_tw (cap := cap0) (cap2 := cap1) xk8_y43 hfc (HKF.out.1.below hB_y43) hgc (HKF.out.2.below hB_y43), kds_tw (cap := cap0) (cap2 := cap1) xk9_y43 hfc (HKF.out.1.below hB_y43) hgc (HKF.out.2.below hB_y43)⟩
        clear xb8_y43 xb9_y43 xk8_y43 xk9_y43 hB_y43
        go_wp2_with fail
        go_meet
        exact ⟨b8, b9, _, _, _, _, rfl, rfl, HFIN⟩
    · refine ⟨{ dst := some 9, op := Op.alloc 24, type := 0, pos := _, after := #[], guard := none }, rfl, fun K' hK => ?_⟩
      go_simp
      obtain ⟨y44, hy44⟩ : ∃ q, q = y0.alloc (.cells #[.int .i64 0, .int .i64 0, .slice none 0 0] 24) := ⟨_, rfl⟩
      rw [← hy44]
      obtain ⟨b9, hb9⟩ : ∃ q, q = y0.heap.size := ⟨_, rfl⟩
      have hb : Below y0.heap.size y0 y44 := by rw [hy44]; exact box_below _ _
      have xb9_y44 : y44.heap[b9]? = some (.cells #[.int .i64 0, .int .i64 0, .slice none 0 0] 24) := by rw [hy44, hb9]; exact Go.Deep.blk_alloc_new _ _
      have hB_y44 := hB_y0.trans (hb.mono hB_y0.size)
      have hl9 : z.heap.size ≤ b9 := by rw [hb9]; exact hB_y0.size
      rw [← hb9]
      clear hb hb9 hy44
      refine hK.out _ _ (fun _ => HS.out _ hB_y44) (fun _ => ?_)
      clear hK K'
      (try simp only [Act.put, List.setIfInBounds_toArray, List.set_cons_zero, List.set_cons_succ])
      clear hB_y0
      refine G_alt (l := [2, 6]) (by kernel_rfl) (by decide) ?_
      intro i hi
      have hi2 : i = 2 ∨ i = 6 := by simpa using hi
      clear hi
      rcases hi2 with rfl | rfl
      · refine ⟨{ dst := some 17, op := Op.call { callee := Callee.value (Operand.func 19), args := #[Operand.const (Value.int IntKind.i64 8), Operand.tmp 15, Operand.tmp 16], argTypes := #[3, 24, 24] }, type := 24, pos := _, after := #[{ on := 0, ground := Ground.data }, { on := 1, ground := Ground.data }], guard := none }, rfl, fun K' hK => ?_⟩
        go_simp
        go_at_call 19
        refine (C19.out y44 8 hB_y44).mono ?_
        rintro e y45 ⟨k8, rfl, xk8_y45, hb⟩
        dsimp only
        have hB_y45 := hB_y44.trans (hb.mono hB_y44.size)
        have xb9_y45 := alloc_le hb xb9_y44
        clear hb
        refine hK.out _ _ (fun _ => HS.out _ hB_y45) (fun _ => ?_)
        clear hK K'
        (try simp only [Act.put, List.setIfInBounds_toArray, List.set_cons_zero, List.set_cons_succ])
        clear xb9_y44 hB_y44
        refine G_alt (l := [5, 6]) (by kernel_rfl) (by decide) ?_
        intro i hi
        have hi2 : i = 5 ∨ i = 6 := by simpa using hi
        clear hi
        rcases hi2 with rfl | rfl
        · refine ⟨{ dst := some 20, op := Op.call { callee := Callee.value (Operand.func 19), args := #[Operand.const (Value.int IntKind.i64 9), Operand.tmp 18, Operand.tmp 19], argTypes := #[3, 24, 24] }, type := 24, pos := _, after := #[{ on := 3, ground := Ground.data }, { on := 4, ground := Ground.data }, { on := 2, ground := Ground.chain }], guard := none }, rfl, fun K' hK => ?_⟩
          go_simp
          go_at_call 19
          refine (C19.out y45 9 hB_y45).mono ?_
          rintro e y46 ⟨k9, rfl, xk9_y46, hb⟩
          dsimp only
          have hB_y46 := hB_y45.trans (hb.mono hB_y45.size)
          have xb9_y46 := alloc_le hb xb9_y45
          have xk8_y46 := alloc_le hb xk8_y45
          clear hb
          refine hK.out _ _ (fun _ => HS.out _ hB_y46) (fun _ => ?_)
          clear hK K'
          (try simp only [Act.put, List.setIfInBounds_toArray, List.set_cons_zero, List.set_cons_succ])
          clear xb9_y45 xk8_y45 hB_y45
          refine G_alt (l := [6]) (by kernel_rfl) (by decide) ?_
          intro i hi
          have hi2 : i = 6 := by simpa using hi
          clear hi
          subst hi2
          refine ⟨{ dst := some 8, op := Op.alloc 24, type := 0, pos := _, after := #[], guard := none }, rfl, fun K' hK => ?_⟩
          go_simp
          obtain ⟨y47, hy47⟩ : ∃ q, q = y46.alloc (.cells #[.int .i64 0, .int .i64 0, .slice none 0 0] 24) := ⟨_, rfl⟩
          rw [← hy47]
          obtain ⟨b8, hb8⟩ : ∃ q, q = y46.heap.size := ⟨_, rfl⟩
          have hb : Below y46.heap.size y46 y47 := by rw [hy47]; exact box_below _ _
          have xb8_y47 : y47.heap[b8]? = some (.cells #[.int .i64 0, .int .i64 0, .slice none 0 0] 24) := by rw [hy47, hb8]; exact Go.Deep.blk_alloc_new _ _
          have hB_y47 := hB_y46.trans (hb.mono hB_y46.size)
          have hl8 : z.heap.size ≤ b8 := by rw [hb8]; exact hB_y46.size
          have hne : b8 ≠ b9 := by have h := (Array.getElem?_eq_some_iff.1 xb9_y46).1; omega
          have xb9_y47 := alloc_le hb xb9_y46
          have xk8_y47 := alloc_le hb xk8_y46
          have xk9_y47 := alloc_le hb xk9_y46
          rw [← hb8]
          clear hb hb8 hy47
          refine hK.out _ _ (fun _ => HS.out _ hB_y47) (fun _ => ?_)
          clear hK K'
          (try simp only [Act.put, List.setIfInBounds_toArray, List.set_cons_zero, List.set_cons_succ])
          clear xb9_y46 xk8_y46 xk9_y46 hB_y46
          refine G_alt (l := [8]) (by kernel_rfl) (by decide) ?_
          intro i hi
          have hi2 : i = 8 := by simpa using hi
          clear hi
          subst hi2
          refine ⟨{ dst := none, op := Op.store 24 (Operand.tmp 8) (Operand.tmp 17), type := 0, pos := _, after := #[{ on := 6, ground := Ground.data }, { on := 2, ground := Ground.data }, { on := 5, ground := Ground.chain }, { on := 0, ground := Ground.phase }, { on := 1, ground := Ground.phase }, { on := 2, ground := Ground.phase }, { on := 3, ground := Ground.textOnly Departure.lateStores }, { on := 4, ground := Ground.textOnly Departure.lateStores }, { on := 5, ground := Ground.textOnly Departure.lateStoresUnsure }, { on := 6, ground := Ground.phase }, { on := 7, ground := Ground.phase }], guard := none }, rfl, fun K' hK => ?_⟩
          have d0 := cell_of_cells (i := 0) xb8_y47 rfl
          have d1 := cell_of_cells (i := 1) xb8_y47 rfl
          have d2 := cell_of_cells (i := 2) xb8_y47 rfl
          have e0 := fz_of xb8_y47 0
          have e1 := fz_of xb8_y47 1
          have e2 := fz_of xb8_y47 2
          go_simp
          obtain ⟨y48, hy48⟩ : ∃ q, q = ((y47.setCell ⟨b8, 0, none⟩ (.int .i64 8)).setCell ⟨b8, 1, none⟩ (.int .i64 0)).setCell ⟨b8, 2, none⟩ (.slice (some ⟨k8, 0, none⟩) 2 2) := ⟨_, rfl⟩
          rw [← hy48]
          have hbut : But b8 y47 y48 := by rw [hy48]; exact (((But.refl _ _).setCell _ _).setCell _ _).setCell _ _
          have xb8_y48 : y48.heap[b8]? = some (.cells #[.int .i64 8, .int .i64 0, .slice (some ⟨k8, 0, none⟩) 2 2] 24) := by rw [hy48]; exact three_set xb8_y47 _ _ _
          have hB_y48 := hB_y47.trans (hbut.below hl8 hB_y47.size)
          have xb9_y48 := (hbut.block _ (Array.getElem?_eq_some_iff.1 xb9_y47).1 (by omega)).trans xb9_y47
          have xk8_y48 := (hbut.block _ (Array.getElem?_eq_some_iff.1 xk8_y47).1 (six_three xk8_y47 xb8_y47)).trans xk8_y47
          have xk9_y48 := (hbut.block _ (Array.getElem?_eq_some_iff.1 xk9_y47).1 (six_three xk9_y47 xb8_y47)).trans xk9_y47
          clear hbut hy48 d0 d1 d2 e0 e1 e2
          refine hK.out _ _ (fun _ => HS.out _ hB_y48) (fun _ => ?_)
          clear hK K'
          (try simp only [Act.put, List.setIfInBounds_toArray, List.set_cons_zero, List.set_cons_succ])
          clear xb8_y47 xb9_y47 xk8_y47 xk9_y47 hB_y47
          refine G_alt (l := [9]) (by kernel_rfl) (by decide) ?_
          intro i hi
          have hi2 : i = 9 := by simpa using hi
          clear hi
          subst hi2
          refine ⟨{ dst := none, op := Op.store 24 (Operand.tmp 9) (Operand.tmp 20), type := 0, pos := _, after := #[{ on := 7, ground := Ground.data }, { on := 5, ground := Ground.data }, { on := 8, ground := Ground.chain }, { on := 0, ground := Ground.phase }, { on := 1, ground := Ground.phase }, { on := 2, ground := Ground.phase }, { on := 3, ground := Ground.phase }, { on := 4, ground := Ground.phase }, { on := 5, ground := Ground.phase }, { on := 6, ground := Ground.phase }, { on := 7, ground := Ground.phase }, { on := 8, ground := Ground.phase }], guard := none }, rfl, fun K' hK => ?_⟩
          have d0 := cell_of_cells (i := 0) xb9_y48 rfl
          have d1 := cell_of_cells (i := 1) xb9_y48 rfl
          have d2 := cell_of_cells (i := 2) xb9_y48 rfl
          have e0 := fz_of xb9_y48 0
          have e1 := fz_of xb9_y48 1
          have e2 := fz_of xb9_y48 2
          go_simp
          obtain ⟨y49, hy49⟩ : ∃ q, q = ((y48.setCell ⟨b9, 0, none⟩ (.int .i64 9)).setCell ⟨b9, 1, none⟩ (.int .i64 0)).setCell ⟨b9, 2, none⟩ (.slice (some ⟨k9, 0, none⟩) 2 2) := ⟨_, rfl⟩
          rw [← hy49]
          have hbut : But b9 y48 y49 := by rw [hy49]; exact (((But.refl _ _).setCell _ _).setCell _ _).setCell _ _
          have xb9_y49 : y49.heap[b9]? = some (.cells #[.int .i64 9, .int .i64 0, .slice (some ⟨k9, 0, none⟩) 2 2] 24) := by rw [hy49]; exact three_set xb9_y48 _ _ _
          have hB_y49 := hB_y48.trans (hbut.below hl9 hB_y48.size)
          have xb8_y49 := (hbut.block _ (Array.getElem?_eq_some_iff.1 xb8_y48).1 (by omega)).trans xb8_y48
          have xk8_y49 := (hbut.block _ (Array.getElem?_eq_some_iff.1 xk8_y48).1 (six_three xk8_y48 xb9_y48)).trans xk8_y48
          have xk9_y49 := (hbut.block _ (Array.getElem?_eq_some_iff.1 xk9_y48).1 (six_three xk9_y48 xb9_y48)).trans xk9_y48
          clear hbut hy49 d0 d1 d2 e0 e1 e2
          refine hK.out _ _ (fun _ => HS.out _ hB_y49) (fun _ => ?_)
          clear hK K'
          (try simp only [Act.put, List.setIfInBounds_toArray, List.set_cons_zero, List.set_cons_succ])
          clear xb8_y48 xb9_y48 xk8_y48 xk9_y48 hB_y48
          refine G_done (by kernel_rfl) ?_ _
          have HFIN : Hid (Below z.heap.size z y49 ∧ Fb y49 b8 (tw 8 f g) (some ⟨k8, 0, none⟩) 2 ∧ Fb y49 b9 (tw 9 f g) (some ⟨k9, 0, none⟩) 2 ∧ Kds y49 (tw 8 f g) (some ⟨k8, 0, none⟩) ∧ Kds y49 (tw 9 f g) (some ⟨k9, 0, none⟩)) := ⟨hB_y49, fb_of xb8_y49, fb_of xb9_y49, kds_tw (cap := cap0) (cap2 := cap1) xk8_y49 hfc (HKF.out.1.below hB_y49) hgc (HKF.out.2.below hB_y49), kds_tw (cap := cap0) (cap2 := cap1) xk9_y49 hfc (HKF.out.1.below hB_y49) hgc (HKF.out.2.below hB_y49)⟩
          clear xb8_y49 xb9_y49 xk8_y49 xk9_y49 hB_y49
          go_wp2_with fail
          go_meet
          exact ⟨b8, b9, _, _, _, _, rfl, rfl, HFIN⟩
        · refine ⟨{ dst := some 8, op := Op.alloc 24, type := 0, pos := _, after := #[], guard := none }, rfl, fun K' hK => ?_⟩
          go_simp
          obtain ⟨y50, hy50⟩ : ∃ q, q = y45.alloc (.cells #[.int .i64 0, .int .i64 0, .slice none 0 0] 24) := ⟨_, rfl⟩
          rw [← hy50]
          obtain ⟨b8, hb8⟩ : ∃ q, q = y45.heap.size := ⟨_, rfl⟩
          have hb : Below y45.heap.size y45 y50 := by rw [hy50]; exact box_below _ _
          have xb8_y50 : y50.heap[b8]? = some (.cells #[.int .i64 0, .int .i64 0, .slice none 0 0] 24) := by rw [hy50, hb8]; exact Go.Deep.blk_alloc_new _ _
          have hB_y50 := hB_y45.trans (hb.mono hB_y45.size)
          have hl8 : z.heap.size ≤ b8 := by rw [hb8]; exact hB_y45.size
          have hne : b8 ≠ b9 := by have h := (Array.getElem?_eq_some_iff.1 xb9_y45).1; omega
          have xb9_y50 := alloc_le hb xb9_y45
          have xk8_y50 := alloc_le hb xk8_y45
          rw [← hb8]
          clear hb hb8 hy50
          refine hK.out _ _ (fun _ => HS.out _ hB_y50) (fun _ => ?_)
          clear hK K'
          (try simp only [Act.put, List.setIfInBounds_toArray, List.set_cons_zero, List.set_cons_succ])
          clear xb9_y45 xk8_y45 hB_y45
          refine G_alt (l := [5]) (by kernel_rfl) (by decide) ?_
          intro i hi
          have hi2 : i = 5 := by simpa using hi
          clear hi
          subst hi2
          refine ⟨{ dst := some 20, op := Op.call { callee := Callee.value (Operand.func 19), args := #[Operand.const (Value.int IntKind.i64 9), Operand.tmp 18, Operand.tmp 19], argTypes := #[3, 24, 24] }, type := 24, pos := _, after := #[{ on := 3, ground := Ground.data }, { on := 4, ground := Ground.data }, { on := 2, ground := Ground.chain }], guard := none }, rfl, fun K' hK => ?_⟩
          go_simp
          go_at_call 19
          refine (C19.out y50 9 hB_y50).mono ?_
          rintro e y51 ⟨k9, rfl, xk9_y51, hb⟩
          dsimp only
          have hB_y51 := hB_y50.trans (hb.mono hB_y50.size)
          have xb9_y51 := alloc_le hb xb9_y50
          have xk8_y51 := alloc_le hb xk8_y50
          have xb8_y51 := alloc_le hb xb8_y50
          clear hb
          refine hK.out _ _ (fun _ => HS.out _ hB_y51) (fun _ => ?_)
          clear hK K'
          (try simp only [Act.put, List.setIfInBounds_toArray, List.set_cons_zero, List.set_cons_succ])
          clear xb9_y50 xk8_y50 xb8_y50 hB_y50
          refine G_alt (l := [8]) (by kernel_rfl) (by decide) ?_
          intro i hi
          have hi2 : i = 8 := by simpa using hi
          clear hi
          subst hi2
          refine ⟨{ dst := none, op := Op.store 24 (Operand.tmp 8) (Operand.tmp 17), type := 0, pos := _, after := #[{ on := 6, ground := Ground.data }, { on := 2, ground := Ground.data }, { on := 5, ground := Ground.chain }, { on := 0, ground := Ground.phase }, { on := 1, ground := Ground.phase }, { on := 2, ground := Ground.phase }, { on := 3, ground := Ground.textOnly Departure.lateStores }, { on := 4, ground := Ground.textOnly Departure.lateStores }, { on := 5, ground := Ground.textOnly Departure.lateStoresUnsure }, { on := 6, ground := Ground.phase }, { on := 7, ground := Ground.phase }], guard := none }, rfl, fun K' hK => ?_⟩
          have d0 := cell_of_cells (i := 0) xb8_y51 rfl
          have d1 := cell_of_cells (i := 1) xb8_y51 rfl
          have d2 := cell_of_cells (i := 2) xb8_y51 rfl
          have e0 := fz_of xb8_y51 0
          have e1 := fz_of xb8_y51 1
          have e2 := fz_of xb8_y51 2
          go_simp
          obtain ⟨y52, hy52⟩ : ∃ q, q = ((y51.setCell ⟨b8, 0, none⟩ (.int .i64 8)).setCell ⟨b8, 1, none⟩ (.int .i64 0)).setCell ⟨b8, 2, none⟩ (.slice (some ⟨k8, 0, none⟩) 2 2) := ⟨_, rfl⟩
          rw [← hy52]
          have hbut : But b8 y51 y52 := by rw [hy52]; exact (((But.refl _ _).setCell _ _).setCell _ _).setCell _ _
          have xb8_y52 : y52.heap[b8]? = some (.cells #[.int .i64 8, .int .i64 0, .slice (some ⟨k8, 0, none⟩) 2 2] 24) := by rw [hy52]; exact three_set xb8_y51 _ _ _
          have hB_y52 := hB_y51.trans (hbut.below hl8 hB_y51.size)
          have xb9_y52 := (hbut.block _ (Array.getElem?_eq_some_iff.1 xb9_y51).1 (by omega)).trans xb9_y51
          have xk8_y52 := (hbut.block _ (Array.getElem?_eq_some_iff.1 xk8_y51).1 (six_three xk8_y51 xb8_y51)).trans xk8_y51
          have xk9_y52 := (hbut.block _ (Array.getElem?_eq_some_iff.1 xk9_y51).1 (six_three xk9_y51 xb8_y51)).trans xk9_y51
          clear hbut hy52 d0 d1 d2 e0 e1 e2
          refine hK.out _ _ (fun _ => HS.out _ hB_y52) (fun _ => ?_)
          clear hK K'
          (try simp only [Act.put, List.setIfInBounds_toArray, List.set_cons_zero, List.set_cons_succ])
          clear xb8_y51 xb9_y51 xk8_y51 xk9_y51 hB_y51
          refine G_alt (l := [9]) (by kernel_rfl) (by decide) ?_
          intro i hi
          have hi2 : i = 9 := by simpa using hi
          clear hi
          subst hi2
          refine ⟨{ dst := none, op := Op.store 24 (Operand.tmp 9) (Operand.tmp 20), type := 0, pos := _, after := #[{ on := 7, ground := Ground.data }, { on := 5, ground := Ground.data }, { on := 8, ground := Ground.chain }, { on := 0, ground := Ground.phase }, { on := 1, ground := Ground.phase }, { on := 2, ground := Ground.phase }, { on := 3, ground := Ground.phase }, { on := 4, ground := Ground.phase }, { on := 5, ground := Ground.phase }, { on := 6, ground := Ground.phase }, { on := 7, ground := Ground.phase }, { on := 8, ground := Ground.phase }], guard := none }, rfl, fun K' hK => ?_⟩
          have d0 := cell_of_cells (i := 0) xb9_y52 rfl
          have d1 := cell_of_cells (i := 1) xb9_y52 rfl
          have d2 := cell_of_cells (i := 2) xb9_y52 rfl
          have e0 := fz_of xb9_y52 0
          have e1 := fz_of xb9_y52 1
          have e2 := fz_of xb9_y52 2
          go_simp
          obtain ⟨y53, hy53⟩ : ∃ q, q = ((y52.setCell ⟨b9, 0, none⟩ (.int .i64 9)).setCell ⟨b9, 1, none⟩ (.int .i64 0)).setCell ⟨b9, 2, none⟩ (.slice (some ⟨k9, 0, none⟩) 2 2) := ⟨_, rfl⟩
          rw [← hy53]
          have hbut : But b9 y52 y53 := by rw [hy53]; exact (((But.refl _ _).setCell _ _).setCell _ _).setCell _ _
          have xb9_y53 : y53.heap[b9]? = some (.cells #[.int .i64 9, .int .i64 0, .slice (some ⟨k9, 0, none⟩) 2 2] 24) := by rw [hy53]; exact three_set xb9_y52 _ _ _
          have hB_y53 := hB_y52.trans (hbut.below hl9 hB_y52.size)
          have xb8_y53 := (hbut.block _ (Array.getElem?_eq_some_iff.1 xb8_y52).1 (by omega)).trans xb8_y52
          have xk8_y53 := (hbut.block _ (Array.getElem?_eq_some_iff.1 xk8_y52).1 (six_three xk8_y52 xb9_y52)).trans xk8_y52
          have xk9_y53 := (hbut.block _ (Array.getElem?_eq_some_iff.1 xk9_y52).1 (six_three xk9_y52 xb9_y52)).trans xk9_y52
          clear hbut hy53 d0 d1 d2 e0 e1 e2
          refine hK.out _ _ (fun _ => HS.out _ hB_y53) (fun _ => ?_)
          clear hK K'
          (try simp only [Act.put, List.setIfInBounds_toArray, List.set_cons_zero, List.set_cons_succ])
          clear xb8_y52 xb9_y52 xk8_y52 xk9_y52 hB_y52
          refine G_done (by kernel_rfl) ?_ _
          have HFIN : Hid (Below z.heap.size z y53 ∧ Fb y53 b8 (tw 8 f g) (some ⟨k8, 0, none⟩) 2 ∧ Fb y53 b9 (tw 9 f g) (some ⟨k9, 0, none⟩) 2 ∧ Kds y53 (tw 8 f g) (some ⟨k8, 0, none⟩) ∧ Kds y53 (tw 9 f g) (some ⟨k9, 0, none⟩)) := ⟨hB_y53, fb_of xb8_y53, fb_of xb9_y53, kds_tw (cap := cap0) (cap2 := cap1) xk8_y53 hfc (HKF.out.1.below hB_y53) hgc (HKF.out.2.below hB_y53), kds_tw (cap := cap0) (cap2 := cap1) xk9_y53 hfc (HKF.out.1.below hB_y53) hgc (HKF.out.2.below hB_y53)⟩
          clear xb8_y53 xb9_y53 xk8_y53 xk9_y53 hB_y53
          go_wp2_with fail
          go_meet
          exact ⟨b8, b9, _, _, _, _, rfl, rfl, HFIN⟩
      · refine ⟨{ dst := some 8, op := Op.alloc 24, type := 0, pos := _, after := #[], guard := none }, rfl, fun K' hK => ?_⟩
        go_simp
        obtain ⟨y54, hy54⟩ : ∃ q, q = y44.alloc (.cells #[.int .i64 0, .int .i64 0, .slice none 0 0] 24) := ⟨_, rfl⟩
        rw [← hy54]
        obtain ⟨b8, hb8⟩ : ∃ q, q = y44.heap.size := ⟨_, rfl⟩
        have hb : Below y44.heap.size y44 y54 := by rw [hy54]; exact box_below _ _
        have xb8_y54 : y54.heap[b8]? = some (.cells #[.int .i64 0, .int .i64 0, .slice none 0 0] 24) := by rw [hy54, hb8]; exact Go.Deep.blk_alloc_new _ _
        have hB_y54 := hB_y44.trans (hb.mono hB_y44.size)
        have hl8 : z.heap.size ≤ b8 := by rw [hb8]; exact hB_y44.size
        have hne : b8 ≠ b9 := by have h := (Array.getElem?_eq_some_iff.1 xb9_y44).1; omega
        have xb9_y54 := alloc_le hb xb9_y44
        rw [← hb8]
        clear hb hb8 hy54
        refine hK.out _ _ (fun _ => HS.out _ hB_y54) (fun _ => ?_)
        clear hK K'
        (try simp only [Act.put, List.setIfInBounds_toArray, List.set_cons_zero, List.set_cons_succ])
        clear xb9_y44 hB_y44
        refine G_alt (l := [2]) (by kernel_rfl) (by decide) ?_
        intro i hi
        have hi2 : i = 2 := by simpa using hi
        clear hi
        subst hi2
        refine ⟨{ dst := some 17, op := Op.call { callee := Callee.value (Operand.func 19), args := #[Operand.const (Value.int IntKind.i64 8), Operand.tmp 15, Operand.tmp 16], argTypes := #[3, 24, 24] }, type := 24, pos := _, after := #[{ on := 0, ground := Ground.data }, { on := 1, ground := Ground.data }], guard := none }, rfl, fun K' hK => ?_⟩
        go_simp
        go_at_call 19
        refine (C19.out y54 8 hB_y54).mono ?_
        rintro e y55 ⟨k8, rfl, xk8_y55, hb⟩
        dsimp only
        have hB_y55 := hB_y54.trans (hb.mono hB_y54.size)
        have xb9_y55 := alloc_le hb xb9_y54
        have xb8_y55 := alloc_le hb xb8_y54
        clear hb
        refine hK.out _ _ (fun _ => HS.out _ hB_y55) (fun _ => ?_)
        clear hK K'
        (try simp only [Act.put, List.setIfInBounds_toArray, List.set_cons_zero, List.set_cons_succ])
        clear xb9_y54 xb8_y54 hB_y54
        refine G_alt (l := [5]) (by kernel_rfl) (by decide) ?_
        intro i hi
        have hi2 : i = 5 := by simpa using hi
        clear hi
        subst hi2
        refine ⟨{ dst := some 20, op := Op.call { callee := Callee.value (Operand.func 19), args := #[Operand.const (Value.int IntKind.i64 9), Operand.tmp 18, Operand.tmp 19], argTypes := #[3, 24, 24] }, type := 24, pos := _, after := #[{ on := 3, ground := Ground.data }, { on := 4, ground := Ground.data }, { on := 2, ground := Ground.chain }], guard := none }, rfl, fun K' hK => ?_⟩
        go_simp
        go_at_call 19
        refine (C19.out y55 9 hB_y55).mono ?_
        rintro e y56 ⟨k9, rfl, xk9_y56, hb⟩
        dsimp only
        have hB_y56 := hB_y55.trans (hb.mono hB_y55.size)
        have xb9_y56 := alloc_le hb xb9_y55
        have xb8_y56 := alloc_le hb xb8_y55
        have xk8_y56 := alloc_le hb xk8_y55
        clear hb
        refine hK.out _ _ (fun _ => HS.out _ hB_y56) (fun _ => ?_)
        clear hK K'
        (try simp only [Act.put, List.setIfInBounds_toArray, List.set_cons_zero, List.set_cons_succ])
        clear xb9_y55 xb8_y55 xk8_y55 hB_y55
        refine G_alt (l := [8]) (by kernel_rfl) (by decide) ?_
        intro i hi
        have hi2 : i = 8 := by simpa using hi
        clear hi
        subst hi2
        refine ⟨{ dst := none, op := Op.store 24 (Operand.tmp 8) (Operand.tmp 17), type := 0, pos := _, after := #[{ on := 6, ground := Ground.data }, { on := 2, ground := Ground.data }, { on := 5, ground := Ground.chain }, { on := 0, ground := Ground.phase }, { on := 1, ground := Ground.phase }, { on := 2, ground := Ground.phase }, { on := 3, ground := Ground.textOnly Departure.lateStores }, { on := 4, ground := Ground.textOnly Departure.lateStores }, { on := 5, ground := Ground.textOnly Departure.lateStoresUnsure }, { on := 6, ground := Ground.phase }, { on := 7, ground := Ground.phase }], guard := none }, rfl, fun K' hK => ?_⟩
        have d0 := cell_of_cells (i := 0) xb8_y56 rfl
        have d1 := cell_of_cells (i := 1) xb8_y56 rfl
        have d2 := cell_of_cells (i := 2) xb8_y56 rfl
        have e0 := fz_of xb8_y56 0
        have e1 := fz_of xb8_y56 1
        have e2 := fz_of xb8_y56 2
        go_simp
        obtain ⟨y57, hy57⟩ : ∃ q, q = ((y56.setCell ⟨b8, 0, none⟩ (.int .i64 8)).setCell ⟨b8, 1, none⟩ (.int .i64 0)).setCell ⟨b8, 2, none⟩ (.slice (some ⟨k8, 0, none⟩) 2 2) := ⟨_, rfl⟩
        rw [← hy57]
        have hbut : But b8 y56 y57 := by rw [hy57]; exact (((But.refl _ _).setCell _ _).setCell _ _).setCell _ _
        have xb8_y57 : y57.heap[b8]? = some (.cells #[.int .i64 8, .int .i64 0, .slice (some ⟨k8, 0, none⟩) 2 2] 24) := by rw [hy57]; exact three_set xb8_y56 _ _ _
        have hB_y57 := hB_y56.trans (hbut.below hl8 hB_y56.size)
        have xb9_y57 := (hbut.block _ (Array.getElem?_eq_some_iff.1 xb9_y56).1 (by omega)).trans xb9_y56
        have xk8_y57 := (hbut.block _ (Array.getElem?_eq_some_iff.1 xk8_y56).1 (six_three xk8_y56 xb8_y56)).trans xk8_y56
        have xk9_y57 := (hbut.block _ (Array.getElem?_eq_some_iff.1 xk9_y56).1 (six_three xk9_y56 xb8_y56)).trans xk9_y56
        clear hbut hy57 d0 d1 d2 e0 e1 e2
        refine hK.out _ _ (fun _ => HS.out _ hB_y57) (fun _ => ?_)
        clear hK K'
        (try simp only [Act.put, List.setIfInBounds_toArray, List.set_cons_zero, List.set_cons_succ])
        clear xb8_y56 xb9_y56 xk8_y56 xk9_y56 hB_y56
        refine G_alt (l := [9]) (by kernel_rfl) (by decide) ?_
        intro i hi
        have hi2 : i = 9 := by simpa using hi
        clear hi
        subst hi2
        refine ⟨{ dst := none, op := Op.store 24 (Operand.tmp 9) (Operand.tmp 20), type := 0, pos := _, after := #[{ on := 7, ground := Ground.data }, { on := 5, ground := Ground.data }, { on := 8, ground := Ground.chain }, { on := 0, ground := Ground.phase }, { on := 1, ground := Ground.phase }, { on := 2, ground := Ground.phase }, { on := 3, ground := Ground.phase }, { on := 4, ground := Ground.phase }, { on := 5, ground := Ground.phase }, { on := 6, ground := Ground.phase }, { on := 7, ground := Ground.phase }, { on := 8, ground := Ground.phase }], guard := none }, rfl, fun K' hK => ?_⟩
        have d0 := cell_of_cells (i := 0) xb9_y57 rfl
        have d1 := cell_of_cells (i := 1) xb9_y57 rfl
        have d2 := cell_of_cells (i := 2) xb9_y57 rfl
        have e0 := fz_of xb9_y57 0
        have e1 := fz_of xb9_y57 1
        have e2 := fz_of xb9_y57 2
        go_simp
        obtain ⟨y58, hy58⟩ : ∃ q, q = ((y57.setCell ⟨b9, 0, none⟩ (.int .i64 9)).setCell ⟨b9, 1, none⟩ (.int .i64 0)).setCell ⟨b9, 2, none⟩ (.slice (some ⟨k9, 0, none⟩) 2 2) := ⟨_, rfl⟩
        rw [← hy58]
        have hbut : But b9 y57 y58 := by rw [hy58]; exact (((But.refl _ _).setCell _ _).setCell _ _).setCell _ _
        have xb9_y58 : y58.heap[b9]? = some (.cells #[.int .i64 9, .int .i64 0, .slice (some ⟨k9, 0, none⟩) 2 2] 24) := by rw [hy58]; exact three_set xb9_y57 _ _ _
        have hB_y58 := hB_y57.trans (hbut.below hl9 hB_y57.size)
        have xb8_y58 := (hbut.block _ (Array.getElem?_eq_some_iff.1 xb8_y57).1 (by omega)).trans xb8_y57
        have xk8_y58 := (hbut.block _ (Array.getElem?_eq_some_iff.1 xk8_y57).1 (six_three xk8_y57 xb9_y57)).trans xk8_y57
        have xk9_y58 := (hbut.block _ (Array.getElem?_eq_some_iff.1 xk9_y57).1 (six_three xk9_y57 xb9_y57)).trans xk9_y57
        clear hbut hy58 d0 d1 d2 e0 e1 e2
        refine hK.out _ _ (fun _ => HS.out _ hB_y58) (fun _ => ?_)
        clear hK K'
        (try simp only [Act.put, List.setIfInBounds_toArray, List.set_cons_zero, List.set_cons_succ])
        clear xb8_y57 xb9_y57 xk8_y57 xk9_y57 hB_y57
        refine G_done (by kernel_rfl) ?_ _
        have HFIN : Hid (Below z.heap.size z y58 ∧ Fb y58 b8 (tw 8 f g) (some ⟨k8, 0, none⟩) 2 ∧ Fb y58 b9 (tw 9 f g) (some ⟨k9, 0, none⟩) 2 ∧ Kds y58 (tw 8 f g) (some ⟨k8, 0, none⟩) ∧ Kds y58 (tw 9 f g) (some ⟨k9, 0, none⟩)) := ⟨hB_y58, fb_of xb8_y58, fb_of xb9_y58, kds_tw (cap := cap0) (cap2 := cap1) xk8_y58 hfc (HKF.out.1.below hB_y58) hgc (HKF.out.2.below hB_y58), kds_tw (cap := cap0) (cap2 := cap1) xk9_y58 hfc (HKF.out.1.below hB_y58) hgc (HKF.out.2.below hB_y58)⟩
        clear xb8_y58 xb9_y58 xk8_y58 xk9_y58 hB_y58
        go_wp2_with fail
        go_meet
        exact ⟨b8, b9, _, _, _, _, rfl, rfl, HFIN⟩
  obtain ⟨ub, rb, a8, c8, a9, c9, rfl, rfl, HC⟩ := hcut
  obtain ⟨U, hU⟩ : ∃ y, y = tw 8 f g := ⟨_, rfl⟩
  obtain ⟨R, hR⟩ : ∃ y, y = tw 9 f g := ⟨_, rfl⟩
  obtain ⟨Y, hY⟩ : ∃ y, y = nd 1 0 := ⟨_, rfl⟩
  have HU := hid hU
  have HR := hid hR
  have HY := hid hY
  have nU : Hid (U.cnt ≤ 9223372036854775807) := hid (by rw [hU]; exact (by decide : (2 : Nat) ≤ 9223372036854775807))
  have nR : Hid (R.cnt ≤ 9223372036854775807) := hid (by rw [hR]; exact (by decide : (2 : Nat) ≤ 9223372036854775807))
  have nY : Hid (Y.cnt ≤ 9223372036854775807) := hid (by rw [hY]; exact (by decide : (0 : Nat) ≤ 9223372036854775807))
  rw [← hU, ← hR] at HC
  clear hU hR f0 f1 f2 g0 g1 g2 n1 n2 k1 k2 HSZ
  go_upto_region 7 with fail
  obtain ⟨yb, hyb⟩ : ∃ q, q = wc.heap.size := ⟨_, rfl⟩
  obtain ⟨x1, hx1⟩ : ∃ q, q = wc.alloc (.cells #[.int .i64 1, .int .i64 0, .slice none 0 0] 24) := ⟨_, rfl⟩
  obtain ⟨x, hx⟩ : ∃ q, q = x1.drew := ⟨_, rfl⟩
  rw [← hx1, ← hyb]
  have hb1 : Below wc.heap.size wc x1 := by rw [hx1]; exact box_below _ _
  have hb2 : Below x1.heap.size x1 x := by rw [hx]; exact below_drewN (Below.refl _ _) 1
  have hb3 := hb1.trans (hb2.mono hb1.size)
  have xy1 : x1.heap[yb]? = some (.cells #[.int .i64 Y.kind, .int .i64 Y.num, .slice none Y.cnt 0] 24) := by rw [hx1, hyb, hY]; exact Go.Deep.blk_alloc_new _ _
  have xy := (fb_of xy1).below hb2
  have hcz := HC.out.1
  have hux : Below u.heap.size u x := HZ.out.trans ((hcz.trans (hb3.mono hcz.size)).mono HZ.out.size)
  have HS : Hid (∀ y, Below x.heap.size x y → (fun y => y.cell? ⟨w.heap.size, 0, none⟩ = some (.int .i64 f.kind) ∧ y.cell? ⟨w.heap.size, 1, none⟩ = some (.int .i64 f.num) ∧ y.cell? ⟨w.heap.size, 2, none⟩ = some (.slice a0 f.cnt cap0) ∧ y.cell? ⟨w.heap.size + 1, 0, none⟩ = some (.int .i64 g.kind) ∧ y.cell? ⟨w.heap.size + 1, 1, none⟩ = some (.int .i64 g.num) ∧ y.cell? ⟨w.heap.size + 1, 2, none⟩ = some (.slice a1 g.cnt cap1) ∧ y.cell? ⟨ub, 0, none⟩ = some (.int .i64 U.kind) ∧ y.cell? ⟨ub, 1, none⟩ = some (.int .i64 U.num) ∧ y.cell? ⟨ub, 2, none⟩ = some (.slice a8 U.cnt c8) ∧ y.cell? ⟨rb, 0, none⟩ = some (.int .i64 R.kind) ∧ y.cell? ⟨rb, 1, none⟩ = some (.int .i64 R.num) ∧ y.cell? ⟨rb, 2, none⟩ = some (.slice a9 R.cnt c9) ∧ y.cell? ⟨yb, 0, none⟩ = some (.int .i64 Y.kind) ∧ y.cell? ⟨yb, 1, none⟩ = some (.int .i64 Y.num) ∧ y.cell? ⟨yb, 2, none⟩ = some (.slice none Y.cnt 0)) y) := fun y hy => by
    have hy2 := hux.trans (hy.mono hux.size)
    have q1 := (HX.out y hy2).1
    have q2 := (HX.out y hy2).2.1
    have q3 := (HC.out.2.1.below hb3).below hy
    have q4 := (HC.out.2.2.1.below hb3).below hy
    have q5 := xy.below hy
    exact ⟨q1.c0, q1.c1, q1.c2, q2.c0, q2.c1, q2.c2, q3.c0, q3.c1, q3.c2, q4.c0, q4.c1, q4.c2, q5.c0, q5.c1, q5.c2⟩
  have HK : Hid (∀ y, Below x.heap.size x y → Wl y sa s sc la m lc S L ∧ Wb y (w.heap.size + 1 + 1) sa s sc la m lc ∧ Kds y f a0 ∧ Kds y g a1 ∧ Kds y U a8 ∧ Kds y R a9 ∧ Kds y Y none) := fun y hy => by
    have hy2 := hux.trans (hy.mono hux.size)
    have q := HX.out y hy2
    exact ⟨q.2.2.2.1, q.2.2.1, q.2.2.2.2.1, q.2.2.2.2.2.1, (HC.out.2.2.2.1.below hb3).below hy, (HC.out.2.2.2.2.below hb3).below hy, by rw [hY]; exact kds_nd _ _ _ _⟩
  have HW : Hid (∀ y, Below x.heap.size x y → Below w.heap.size w y) := fun y hy => (HX.out y (hux.trans (hy.mono hux.size))).2.2.2.2.2.2
  have hB_x : Below x.heap.size x x := Below.refl _ _
  refine G_region (fun y => y.cell? ⟨w.heap.size, 0, none⟩ = some (.int .i64 f.kind) ∧ y.cell? ⟨w.heap.size, 1, none⟩ = some (.int .i64 f.num) ∧ y.cell? ⟨w.heap.size, 2, none⟩ = some (.slice a0 f.cnt cap0) ∧ y.cell? ⟨w.heap.size + 1, 0, none⟩ = some (.int .i64 g.kind) ∧ y.cell? ⟨w.heap.size + 1, 1, none⟩ = some (.int .i64 g.num) ∧ y.cell? ⟨w.heap.size + 1, 2, none⟩ = some (.slice a1 g.cnt cap1) ∧ y.cell? ⟨ub, 0, none⟩ = some (.int .i64 U.kind) ∧ y.cell? ⟨ub, 1, none⟩ = some (.int .i64 U.num) ∧ y.cell? ⟨ub, 2, none⟩ = some (.slice a8 U.cnt c8) ∧ y.cell? ⟨rb, 0, none⟩ = some (.int .i64 R.kind) ∧ y.cell? ⟨rb, 1, none⟩ = some (.int .i64 R.num) ∧ y.cell? ⟨rb, 2, none⟩ = some (.slice a9 R.cnt c9) ∧ y.cell? ⟨yb, 0, none⟩ = some (.int .i64 Y.kind) ∧ y.cell? ⟨yb, 1, none⟩ = some (.int .i64 Y.num) ∧ y.cell? ⟨yb, 2, none⟩ = some (.slice none Y.cnt 0)) (fun _ => false) (by kernel_rfl) (by rw [← hx]; exact HS.out _ hB_x) (fun _ => ?_)
  rw [← hx]
  clear hx hx1 hyb hb1 hb2 hb3 xy1 xy hcz hux HX HC HZ hY
  refine G_take (i := 0) (oi := { dst := some 22, op := Op.move (Operand.tmp 7), type := 44, pos := _, after := #[], guard := none }) (v := .func (.func 17) #[] #[.pointer (some ⟨w.heap.size + 1 + 1, 0, none⟩)]) rfl (by kernel_rfl) (by kernel_rfl) (by kernel_rfl) (by kernel_rfl) (fun _ _ _ h => h) (by rfl) (fun u hu => ?_) (HS.out _ hB_x) ?_
  · (try dsimp only at hu); go_simp
  (try simp only [Act.put, List.setIfInBounds_toArray, List.set_cons_zero, List.set_cons_succ])
  refine G_take (i := 1) (oi := { dst := some 23, op := Op.load 24 (Operand.tmp 8), type := 24, pos := _, after := #[], guard := none }) (v := .agg #[.int .i64 U.kind, .int .i64 U.num, .slice a8 U.cnt c8]) rfl (by kernel_rfl) (by kernel_rfl) (by kernel_rfl) (by kernel_rfl) (fun _ _ _ h => h) (by rfl) (fun u hu => ?_) (HS.out _ hB_x) ?_
  · (try dsimp only at hu); go_simp
  (try simp only [Act.put, List.setIfInBounds_toArray, List.set_cons_zero, List.set_cons_succ])
  refine G_take (i := 2) (oi := { dst := some 24, op := Op.load 24 (Operand.tmp 4), type := 24, pos := _, after := #[], guard := none }) (v := .agg #[.int .i64 g.kind, .int .i64 g.num, .slice a1 g.cnt cap1]) rfl (by kernel_rfl) (by kernel_rfl) (by kernel_rfl) (by kernel_rfl) (fun _ _ _ h => h) (by rfl) (fun u hu => ?_) (HS.out _ hB_x) ?_
  · (try dsimp only at hu); go_simp
  (try simp only [Act.put, List.setIfInBounds_toArray, List.set_cons_zero, List.set_cons_succ])
  refine G_take (i := 3) (oi := { dst := some 25, op := Op.load 24 (Operand.tmp 3), type := 24, pos := _, after := #[], guard := none }) (v := .agg #[.int .i64 f.kind, .int .i64 f.num, .slice a0 f.cnt cap0]) rfl (by kernel_rfl) (by kernel_rfl) (by kernel_rfl) (by kernel_rfl) (fun _ _ _ h => h) (by rfl) (fun u hu => ?_) (HS.out _ hB_x) ?_
  · (try dsimp only at hu); go_simp
  (try simp only [Act.put, List.setIfInBounds_toArray, List.set_cons_zero, List.set_cons_succ])
  refine G_take (i := 4) (oi := { dst := some 26, op := Op.load 24 (Operand.tmp 8), type := 24, pos := _, after := #[], guard := none }) (v := .agg #[.int .i64 U.kind, .int .i64 U.num, .slice a8 U.cnt c8]) rfl (by kernel_rfl) (by kernel_rfl) (by kernel_rfl) (by kernel_rfl) (fun _ _ _ h => h) (by rfl) (fun u hu => ?_) (HS.out _ hB_x) ?_
  · (try dsimp only at hu); go_simp
  (try simp only [Act.put, List.setIfInBounds_toArray, List.set_cons_zero, List.set_cons_succ])
  have D := hid (one_f 7 U a8 c8 x (HK.out x hB_x).2.2.2.2.1 nU.out)
  refine G_step (i := 5) (o := { dst := some 27, op := Op.call { callee := Callee.value (Operand.func 21), args := #[Operand.const (Value.int IntKind.i64 7), Operand.tmp 26], argTypes := #[3, 24] }, type := 24, pos := _, after := #[{ on := 4, ground := Ground.data }], guard := none }) (by kernel_rfl) rfl (fun K' hK => ?_)
  go_simp
  go_at_call 21
  refine D.out.mono ?_
  rintro e y1 ⟨aT27, cT27, rfl, k, hb⟩
  dsimp only
  clear D
  obtain ⟨T27, hT27⟩ : ∃ q, q = on 7 U := ⟨_, rfl⟩
  have HT27 := hid hT27
  have kT27_y1 := hid k
  rw [← hT27] at kT27_y1
  simp only [← hT27]
  have nT27 : Hid (T27.cnt ≤ 9223372036854775807) := hid (by rw [hT27]; exact (by decide : (1 : Nat) ≤ 9223372036854775807))
  clear hT27 k
  have hB_y1 := hB_x.trans (hb.mono hB_x.size)
  refine hK.out _ _ (fun _ => HS.out _ hB_y1) (fun _ => ?_)
  clear hK K' hB_x hb
  (try simp only [Act.put, List.setIfInBounds_toArray, List.set_cons_zero, List.set_cons_succ])
  have D := hid (two_f 5 f a0 cap0 T27 aT27 cT27 y1 (HK.out y1 hB_y1).2.2.1 hfc kT27_y1.out nT27.out)
  refine G_step (i := 6) (o := { dst := some 28, op := Op.call { callee := Callee.value (Operand.func 19), args := #[Operand.const (Value.int IntKind.i64 5), Operand.tmp 25, Operand.tmp 27], argTypes := #[3, 24, 24] }, type := 24, pos := _, after := #[{ on := 3, ground := Ground.data }, { on := 5, ground := Ground.data }, { on := 5, ground := Ground.chain }], guard := none }) (by kernel_rfl) rfl (fun K' hK => ?_)
  go_simp
  go_at_call 19
  refine D.out.mono ?_
  rintro e y2 ⟨aT28, cT28, rfl, k, hb⟩
  dsimp only
  clear D
  obtain ⟨T28, hT28⟩ : ∃ q, q = tw 5 f T27 := ⟨_, rfl⟩
  have HT28 := hid hT28
  have kT28_y2 := hid k
  rw [← hT28] at kT28_y2
  simp only [← hT28]
  have nT28 : Hid (T28.cnt ≤ 9223372036854775807) := hid (by rw [hT28]; exact (by decide : (2 : Nat) ≤ 9223372036854775807))
  clear hT28 k
  have hB_y2 := hB_y1.trans (hb.mono hB_y1.size)
  have kT27_y2 := hid (kT27_y1.out.below hb)
  refine hK.out _ _ (fun _ => HS.out _ hB_y2) (fun _ => ?_)
  clear hK K' kT27_y1 hB_y1 hb
  (try simp only [Act.put, List.setIfInBounds_toArray, List.set_cons_zero, List.set_cons_succ])
  have D := hid (two_f 6 g a1 cap1 T28 aT28 cT28 y2 (HK.out y2 hB_y2).2.2.2.1 hgc kT28_y2.out nT28.out)
  refine G_step (i := 7) (o := { dst := some 29, op := Op.call { callee := Callee.value (Operand.func 19), args := #[Operand.const (Value.int IntKind.i64 6), Operand.tmp 24, Operand.tmp 28], argTypes := #[3, 24, 24] }, type := 24, pos := _, after := #[{ on := 2, ground := Ground.data }, { on := 6, ground := Ground.data }, { on := 6, ground := Ground.chain }], guard := none }) (by kernel_rfl) rfl (fun K' hK => ?_)
  go_simp
  go_at_call 19
  refine D.out.mono ?_
  rintro e y3 ⟨aT29, cT29, rfl, k, hb⟩
  dsimp only
  clear D
  obtain ⟨T29, hT29⟩ : ∃ q, q = tw 6 g T28 := ⟨_, rfl⟩
  have HT29 := hid hT29
  have kT29_y3 := hid k
  rw [← hT29] at kT29_y3
  simp only [← hT29]
  have nT29 : Hid (T29.cnt ≤ 9223372036854775807) := hid (by rw [hT29]; exact (by decide : (2 : Nat) ≤ 9223372036854775807))
  clear hT29 k
  have hB_y3 := hB_y2.trans (hb.mono hB_y2.size)
  have kT27_y3 := hid (kT27_y2.out.below hb)
  have kT28_y3 := hid (kT28_y2.out.below hb)
  refine hK.out _ _ (fun _ => HS.out _ hB_y3) (fun _ => ?_)
  clear hK K' kT27_y2 kT28_y2 hB_y2 hb
  (try simp only [Act.put, List.setIfInBounds_toArray, List.set_cons_zero, List.set_cons_succ])
  have D := hid (same_any (c1 := c8) (c2 := cT29) (HK.out y3 hB_y3).1 (HK.out y3 hB_y3).2.1 (HK.out y3 hB_y3).2.2.2.2.1 kT29_y3.out nU.out nT29.out (fun A => by (repeat (first | rw [HT29.out] | rw [HT28.out] | rw [HT27.out] | rw [HU.out] | rw [HR.out] | rw [HY.out])); exact law_until ..))
  refine G_step (i := 8) (o := { dst := some 30, op := Op.call { callee := Callee.value (Operand.tmp 22), args := #[Operand.tmp 23, Operand.tmp 29], argTypes := #[24, 24] }, type := 4, pos := _, after := #[{ on := 0, ground := Ground.data }, { on := 1, ground := Ground.data }, { on := 7, ground := Ground.data }, { on := 7, ground := Ground.chain }], guard := none }) (by kernel_rfl) rfl (fun K' hK => ?_)
  go_simp
  go_at_call 17
  refine D.out.mono ?_
  rintro e y4 ⟨rfl, hb⟩
  dsimp only
  clear D
  have hB_y4 := hB_y3.trans (hb.mono hB_y3.size)
  have kT27_y4 := hid (kT27_y3.out.below hb)
  have kT28_y4 := hid (kT28_y3.out.below hb)
  have kT29_y4 := hid (kT29_y3.out.below hb)
  refine hK.out _ _ (fun _ => HS.out _ hB_y4) (fun _ => ?_)
  clear hK K' kT27_y3 kT28_y3 kT29_y3 hB_y3 hb
  (try simp only [Act.put, List.setIfInBounds_toArray, List.set_cons_zero, List.set_cons_succ])
  clear kT27_y4 HT27 nT27 kT28_y4 HT28 nT28 kT29_y4 HT29 nT29
  skip
  refine G_take (i := 9) (oi := { dst := some 31, op := Op.move (Operand.tmp 30), type := 4, pos := _, after := #[{ on := 8, ground := Ground.data }, { on := 8, ground := Ground.chain }], guard := none }) (v := .bool true) rfl (by kernel_rfl) (by kernel_rfl) (by kernel_rfl) (by kernel_rfl) (fun _ _ _ h => h) (by rfl) (fun u hu => ?_) (HS.out _ hB_y4) ?_
  · (try dsimp only at hu); go_simp
  (try simp only [Act.put, List.setIfInBounds_toArray, List.set_cons_zero, List.set_cons_succ])
  refine G_take (i := 10) (oi := { dst := some 32, op := Op.move (Operand.tmp 7), type := 44, pos := _, after := #[{ on := 9, ground := Ground.guard }], guard := some (9, true) }) (v := .func (.func 17) #[] #[.pointer (some ⟨w.heap.size + 1 + 1, 0, none⟩)]) rfl (by kernel_rfl) (by kernel_rfl) (by kernel_rfl) (by kernel_rfl) (fun _ _ _ h => h) (by rfl) (fun u hu => ?_) (HS.out _ hB_y4) ?_
  · (try dsimp only at hu); go_simp
  (try simp only [Act.put, List.setIfInBounds_toArray, List.set_cons_zero, List.set_cons_succ])
  refine G_take (i := 11) (oi := { dst := some 33, op := Op.load 24 (Operand.tmp 9), type := 24, pos := _, after := #[{ on := 9, ground := Ground.guard }], guard := some (9, true) }) (v := .agg #[.int .i64 R.kind, .int .i64 R.num, .slice a9 R.cnt c9]) rfl (by kernel_rfl) (by kernel_rfl) (by kernel_rfl) (by kernel_rfl) (fun _ _ _ h => h) (by rfl) (fun u hu => ?_) (HS.out _ hB_y4) ?_
  · (try dsimp only at hu); go_simp
  (try simp only [Act.put, List.setIfInBounds_toArray, List.set_cons_zero, List.set_cons_succ])
  refine G_take (i := 12) (oi := { dst := some 34, op := Op.load 24 (Operand.tmp 4), type := 24, pos := _, after := #[{ on := 9, ground := Ground.guard }], guard := some (9, true) }) (v := .agg #[.int .i64 g.kind, .int .i64 g.num, .slice a1 g.cnt cap1]) rfl (by kernel_rfl) (by kernel_rfl) (by kernel_rfl) (by kernel_rfl) (fun _ _ _ h => h) (by rfl) (fun u hu => ?_) (HS.out _ hB_y4) ?_
  · (try dsimp only at hu); go_simp
  (try simp only [Act.put, List.setIfInBounds_toArray, List.set_cons_zero, List.set_cons_succ])
  refine G_take (i := 13) (oi := { dst := some 35, op := Op.load 24 (Operand.tmp 3), type := 24, pos := _, after := #[{ on := 9, ground := Ground.guard }], guard := some (9, true) }) (v := .agg #[.int .i64 f.kind, .int .i64 f.num, .slice a0 f.cnt cap0]) rfl (by kernel_rfl) (by kernel_rfl) (by kernel_rfl) (by kernel_rfl) (fun _ _ _ h => h) (by rfl) (fun u hu => ?_) (HS.out _ hB_y4) ?_
  · (try dsimp only at hu); go_simp
  (try simp only [Act.put, List.setIfInBounds_toArray, List.set_cons_zero, List.set_cons_succ])
  refine G_take (i := 14) (oi := { dst := some 36, op := Op.load 24 (Operand.tmp 9), type := 24, pos := _, after := #[{ on := 9, ground := Ground.guard }], guard := some (9, true) }) (v := .agg #[.int .i64 R.kind, .int .i64 R.num, .slice a9 R.cnt c9]) rfl (by kernel_rfl) (by kernel_rfl) (by kernel_rfl) (by kernel_rfl) (fun _ _ _ h => h) (by rfl) (fun u hu => ?_) (HS.out _ hB_y4) ?_
  · (try dsimp only at hu); go_simp
  (try simp only [Act.put, List.setIfInBounds_toArray, List.set_cons_zero, List.set_cons_succ])
  have D := hid (one_f 7 R a9 c9 y4 (HK.out y4 hB_y4).2.2.2.2.2.1 nR.out)
  refine G_step (i := 15) (o := { dst := some 37, op := Op.call { callee := Callee.value (Operand.func 21), args := #[Operand.const (Value.int IntKind.i64 7), Operand.tmp 36], argTypes := #[3, 24] }, type := 24, pos := _, after := #[{ on := 14, ground := Ground.data }, { on := 9, ground := Ground.chain }, { on := 9, ground := Ground.guard }], guard := some (9, true) }) (by kernel_rfl) rfl (fun K' hK => ?_)
  go_simp
  go_at_call 21
  refine D.out.mono ?_
  rintro e y5 ⟨aT37, cT37, rfl, k, hb⟩
  dsimp only
  clear D
  obtain ⟨T37, hT37⟩ : ∃ q, q = on 7 R := ⟨_, rfl⟩
  have HT37 := hid hT37
  have kT37_y5 := hid k
  rw [← hT37] at kT37_y5
  simp only [← hT37]
  have nT37 : Hid (T37.cnt ≤ 9223372036854775807) := hid (by rw [hT37]; exact (by decide : (1 : Nat) ≤ 9223372036854775807))
  clear hT37 k
  have hB_y5 := hB_y4.trans (hb.mono hB_y4.size)
  refine hK.out _ _ (fun _ => HS.out _ hB_y5) (fun _ => ?_)
  clear hK K' hB_y4 hb
  (try simp only [Act.put, List.setIfInBounds_toArray, List.set_cons_zero, List.set_cons_succ])
  have D := hid (two_f 6 f a0 cap0 T37 aT37 cT37 y5 (HK.out y5 hB_y5).2.2.1 hfc kT37_y5.out nT37.out)
  refine G_step (i := 16) (o := { dst := some 38, op := Op.call { callee := Callee.value (Operand.func 19), args := #[Operand.const (Value.int IntKind.i64 6), Operand.tmp 35, Operand.tmp 37], argTypes := #[3, 24, 24] }, type := 24, pos := _, after := #[{ on := 13, ground := Ground.data }, { on := 15, ground := Ground.data }, { on := 15, ground := Ground.chain }, { on := 9, ground := Ground.guard }], guard := some (9, true) }) (by kernel_rfl) rfl (fun K' hK => ?_)
  go_simp
  go_at_call 19
  refine D.out.mono ?_
  rintro e y6 ⟨aT38, cT38, rfl, k, hb⟩
  dsimp only
  clear D
  obtain ⟨T38, hT38⟩ : ∃ q, q = tw 6 f T37 := ⟨_, rfl⟩
  have HT38 := hid hT38
  have kT38_y6 := hid k
  rw [← hT38] at kT38_y6
  simp only [← hT38]
  have nT38 : Hid (T38.cnt ≤ 9223372036854775807) := hid (by rw [hT38]; exact (by decide : (2 : Nat) ≤ 9223372036854775807))
  clear hT38 k
  have hB_y6 := hB_y5.trans (hb.mono hB_y5.size)
  have kT37_y6 := hid (kT37_y5.out.below hb)
  refine hK.out _ _ (fun _ => HS.out _ hB_y6) (fun _ => ?_)
  clear hK K' kT37_y5 hB_y5 hb
  (try simp only [Act.put, List.setIfInBounds_toArray, List.set_cons_zero, List.set_cons_succ])
  have D := hid (two_f 5 g a1 cap1 T38 aT38 cT38 y6 (HK.out y6 hB_y6).2.2.2.1 hgc kT38_y6.out nT38.out)
  refine G_step (i := 17) (o := { dst := some 39, op := Op.call { callee := Callee.value (Operand.func 19), args := #[Operand.const (Value.int IntKind.i64 5), Operand.tmp 34, Operand.tmp 38], argTypes := #[3, 24, 24] }, type := 24, pos := _, after := #[{ on := 12, ground := Ground.data }, { on := 16, ground := Ground.data }, { on := 16, ground := Ground.chain }, { on := 9, ground := Ground.guard }], guard := some (9, true) }) (by kernel_rfl) rfl (fun K' hK => ?_)
  go_simp
  go_at_call 19
  refine D.out.mono ?_
  rintro e y7 ⟨aT39, cT39, rfl, k, hb⟩
  dsimp only
  clear D
  obtain ⟨T39, hT39⟩ : ∃ q, q = tw 5 g T38 := ⟨_, rfl⟩
  have HT39 := hid hT39
  have kT39_y7 := hid k
  rw [← hT39] at kT39_y7
  simp only [← hT39]
  have nT39 : Hid (T39.cnt ≤ 9223372036854775807) := hid (by rw [hT39]; exact (by decide : (2 : Nat) ≤ 9223372036854775807))
  clear hT39 k
  have hB_y7 := hB_y6.trans (hb.mono hB_y6.size)
  have kT37_y7 := hid (kT37_y6.out.below hb)
  have kT38_y7 := hid (kT38_y6.out.below hb)
  refine hK.out _ _ (fun _ => HS.out _ hB_y7) (fun _ => ?_)
  clear hK K' kT37_y6 kT38_y6 hB_y6 hb
  (try simp only [Act.put, List.setIfInBounds_toArray, List.set_cons_zero, List.set_cons_succ])
  have D := hid (same_any (c1 := c9) (c2 := cT39) (HK.out y7 hB_y7).1 (HK.out y7 hB_y7).2.1 (HK.out y7 hB_y7).2.2.2.2.2.1 kT39_y7.out nR.out nT39.out (fun A => by (repeat (first | rw [HT39.out] | rw [HT38.out] | rw [HT37.out] | rw [HU.out] | rw [HR.out] | rw [HY.out])); exact law_release ..))
  refine G_step (i := 18) (o := { dst := some 40, op := Op.call { callee := Callee.value (Operand.tmp 32), args := #[Operand.tmp 33, Operand.tmp 39], argTypes := #[24, 24] }, type := 4, pos := _, after := #[{ on := 10, ground := Ground.data }, { on := 11, ground := Ground.data }, { on := 17, ground := Ground.data }, { on := 17, ground := Ground.chain }, { on := 9, ground := Ground.guard }], guard := some (9, true) }) (by kernel_rfl) rfl (fun K' hK => ?_)
  go_simp
  go_at_call 17
  refine D.out.mono ?_
  rintro e y8 ⟨rfl, hb⟩
  dsimp only
  clear D
  have hB_y8 := hB_y7.trans (hb.mono hB_y7.size)
  have kT37_y8 := hid (kT37_y7.out.below hb)
  have kT38_y8 := hid (kT38_y7.out.below hb)
  have kT39_y8 := hid (kT39_y7.out.below hb)
  refine hK.out _ _ (fun _ => HS.out _ hB_y8) (fun _ => ?_)
  clear hK K' kT37_y7 kT38_y7 kT39_y7 hB_y7 hb
  (try simp only [Act.put, List.setIfInBounds_toArray, List.set_cons_zero, List.set_cons_succ])
  clear kT37_y8 HT37 nT37 kT38_y8 HT38 nT38 kT39_y8 HT39 nT39
  skip
  refine G_take (i := 19) (oi := { dst := some 41, op := Op.pick (Operand.tmp 31) (Operand.tmp 40) (Operand.const (Value.bool false)), type := 4, pos := _, after := #[{ on := 9, ground := Ground.data }, { on := 18, ground := Ground.data }], guard := none }) (v := .bool true) rfl (by kernel_rfl) (by kernel_rfl) (by kernel_rfl) (by kernel_rfl) (fun _ _ _ h => h) (by rfl) (fun u hu => ?_) (HS.out _ hB_y8) ?_
  · (try dsimp only at hu); go_simp
  (try simp only [Act.put, List.setIfInBounds_toArray, List.set_cons_zero, List.set_cons_succ])
  refine G_take (i := 20) (oi := { dst := some 42, op := Op.move (Operand.tmp 41), type := 4, pos := _, after := #[{ on := 19, ground := Ground.data }, { on := 18, ground := Ground.chain }], guard := none }) (v := .bool true) rfl (by kernel_rfl) (by kernel_rfl) (by kernel_rfl) (by kernel_rfl) (fun _ _ _ h => h) (by rfl) (fun u hu => ?_) (HS.out _ hB_y8) ?_
  · (try dsimp only at hu); go_simp
  (try simp only [Act.put, List.setIfInBounds_toArray, List.set_cons_zero, List.set_cons_succ])
  refine G_take (i := 21) (oi := { dst := some 43, op := Op.move (Operand.tmp 7), type := 44, pos := _, after := #[{ on := 20, ground := Ground.guard }], guard := some (20, true) }) (v := .func (.func 17) #[] #[.pointer (some ⟨w.heap.size + 1 + 1, 0, none⟩)]) rfl (by kernel_rfl) (by kernel_rfl) (by kernel_rfl) (by kernel_rfl) (fun _ _ _ h => h) (by rfl) (fun u hu => ?_) (HS.out _ hB_y8) ?_
  · (try dsimp only at hu); go_simp
  (try simp only [Act.put, List.setIfInBounds_toArray, List.set_cons_zero, List.set_cons_succ])
  refine G_take (i := 22) (oi := { dst := some 44, op := Op.move (Operand.tmp 10), type := 47, pos := _, after := #[{ on := 20, ground := Ground.guard }], guard := some (20, true) }) (v := .func (.func 20) #[] #[]) rfl (by kernel_rfl) (by kernel_rfl) (by kernel_rfl) (by kernel_rfl) (fun _ _ _ h => h) (by rfl) (fun u hu => ?_) (HS.out _ hB_y8) ?_
  · (try dsimp only at hu); go_simp
  (try simp only [Act.put, List.setIfInBounds_toArray, List.set_cons_zero, List.set_cons_succ])
  refine G_take (i := 23) (oi := { dst := some 45, op := Op.load 24 (Operand.tmp 8), type := 24, pos := _, after := #[{ on := 20, ground := Ground.guard }], guard := some (20, true) }) (v := .agg #[.int .i64 U.kind, .int .i64 U.num, .slice a8 U.cnt c8]) rfl (by kernel_rfl) (by kernel_rfl) (by kernel_rfl) (by kernel_rfl) (fun _ _ _ h => h) (by rfl) (fun u hu => ?_) (HS.out _ hB_y8) ?_
  · (try dsimp only at hu); go_simp
  (try simp only [Act.put, List.setIfInBounds_toArray, List.set_cons_zero, List.set_cons_succ])
  refine G_take (i := 25) (oi := { dst := some 47, op := Op.move (Operand.tmp 10), type := 47, pos := _, after := #[{ on := 20, ground := Ground.guard }], guard := some (20, true) }) (v := .func (.func 20) #[] #[]) rfl (by kernel_rfl) (by kernel_rfl) (by kernel_rfl) (by kernel_rfl) (fun _ _ _ h => h) (by rfl) (fun u hu => ?_) (HS.out _ hB_y8) ?_
  · (try dsimp only at hu); go_simp
  (try simp only [Act.put, List.setIfInBounds_toArray, List.set_cons_zero, List.set_cons_succ])
  refine G_take (i := 26) (oi := { dst := some 48, op := Op.load 24 (Operand.tmp 3), type := 24, pos := _, after := #[{ on := 20, ground := Ground.guard }], guard := some (20, true) }) (v := .agg #[.int .i64 f.kind, .int .i64 f.num, .slice a0 f.cnt cap0]) rfl (by kernel_rfl) (by kernel_rfl) (by kernel_rfl) (by kernel_rfl) (fun _ _ _ h => h) (by rfl) (fun u hu => ?_) (HS.out _ hB_y8) ?_
  · (try dsimp only at hu); go_simp
  (try simp only [Act.put, List.setIfInBounds_toArray, List.set_cons_zero, List.set_cons_succ])
  refine G_take (i := 28) (oi := { dst := some 50, op := Op.move (Operand.tmp 10), type := 47, pos := _, after := #[{ on := 20, ground := Ground.guard }], guard := some (20, true) }) (v := .func (.func 20) #[] #[]) rfl (by kernel_rfl) (by kernel_rfl) (by kernel_rfl) (by kernel_rfl) (fun _ _ _ h => h) (by rfl) (fun u hu => ?_) (HS.out _ hB_y8) ?_
  · (try dsimp only at hu); go_simp
  (try simp only [Act.put, List.setIfInBounds_toArray, List.set_cons_zero, List.set_cons_succ])
  refine G_take (i := 29) (oi := { dst := some 51, op := Op.load 24 (Operand.tmp 4), type := 24, pos := _, after := #[{ on := 20, ground := Ground.guard }], guard := some (20, true) }) (v := .agg #[.int .i64 g.kind, .int .i64 g.num, .slice a1 g.cnt cap1]) rfl (by kernel_rfl) (by kernel_rfl) (by kernel_rfl) (by kernel_rfl) (fun _ _ _ h => h) (by rfl) (fun u hu => ?_) (HS.out _ hB_y8) ?_
  · (try dsimp only at hu); go_simp
  (try simp only [Act.put, List.setIfInBounds_toArray, List.set_cons_zero, List.set_cons_succ])
  have D := hid (not_f U a8 c8 y8 (HK.out y8 hB_y8).2.2.2.2.1 nU.out)
  refine G_step (i := 24) (o := { dst := some 46, op := Op.call { callee := Callee.value (Operand.tmp 44), args := #[Operand.tmp 45], argTypes := #[24] }, type := 24, pos := _, after := #[{ on := 22, ground := Ground.data }, { on := 23, ground := Ground.data }, { on := 20, ground := Ground.chain }, { on := 20, ground := Ground.guard }], guard := some (20, true) }) (by kernel_rfl) rfl (fun K' hK => ?_)
  go_simp
  go_at_call 20
  refine D.out.mono ?_
  rintro e y9 ⟨aT46, cT46, rfl, k, hb⟩
  dsimp only
  clear D
  obtain ⟨T46, hT46⟩ : ∃ q, q = on 4 U := ⟨_, rfl⟩
  have HT46 := hid hT46
  have kT46_y9 := hid k
  rw [← hT46] at kT46_y9
  simp only [← hT46]
  have nT46 : Hid (T46.cnt ≤ 9223372036854775807) := hid (by rw [hT46]; exact (by decide : (1 : Nat) ≤ 9223372036854775807))
  clear hT46 k
  have hB_y9 := hB_y8.trans (hb.mono hB_y8.size)
  refine hK.out _ _ (fun _ => HS.out _ hB_y9) (fun _ => ?_)
  clear hK K' hB_y8 hb
  (try simp only [Act.put, List.setIfInBounds_toArray, List.set_cons_zero, List.set_cons_succ])
  have D := hid (not_f f a0 cap0 y9 (HK.out y9 hB_y9).2.2.1 hfc)
  refine G_step (i := 27) (o := { dst := some 49, op := Op.call { callee := Callee.value (Operand.tmp 47), args := #[Operand.tmp 48], argTypes := #[24] }, type := 24, pos := _, after := #[{ on := 25, ground := Ground.data }, { on := 26, ground := Ground.data }, { on := 24, ground := Ground.chain }, { on := 20, ground := Ground.guard }], guard := some (20, true) }) (by kernel_rfl) rfl (fun K' hK => ?_)
  go_simp
  go_at_call 20
  refine D.out.mono ?_
  rintro e y10 ⟨aT49, cT49, rfl, k, hb⟩
  dsimp only
  clear D
  obtain ⟨T49, hT49⟩ : ∃ q, q = on 4 f := ⟨_, rfl⟩
  have HT49 := hid hT49
  have kT49_y10 := hid k
  rw [← hT49] at kT49_y10
  simp only [← hT49]
  have nT49 : Hid (T49.cnt ≤ 9223372036854775807) := hid (by rw [hT49]; exact (by decide : (1 : Nat) ≤ 9223372036854775807))
  clear hT49 k
  have hB_y10 := hB_y9.trans (hb.mono hB_y9.size)
  have kT46_y10 := hid (kT46_y9.out.below hb)
  refine hK.out _ _ (fun _ => HS.out _ hB_y10) (fun _ => ?_)
  clear hK K' kT46_y9 hB_y9 hb
  (try simp only [Act.put, List.setIfInBounds_toArray, List.set_cons_zero, List.set_cons_succ])
  have D := hid (not_f g a1 cap1 y10 (HK.out y10 hB_y10).2.2.2.1 hgc)
  refine G_step (i := 30) (o := { dst := some 52, op := Op.call { callee := Callee.value (Operand.tmp 50), args := #[Operand.tmp 51], argTypes := #[24] }, type := 24, pos := _, after := #[{ on := 28, ground := Ground.data }, { on := 29, ground := Ground.data }, { on := 27, ground := Ground.chain }, { on := 20, ground := Ground.guard }], guard := some (20, true) }) (by kernel_rfl) rfl (fun K' hK => ?_)
  go_simp
  go_at_call 20
  refine D.out.mono ?_
  rintro e y11 ⟨aT52, cT52, rfl, k, hb⟩
  dsimp only
  clear D
  obtain ⟨T52, hT52⟩ : ∃ q, q = on 4 g := ⟨_, rfl⟩
  have HT52 := hid hT52
  have kT52_y11 := hid k
  rw [← hT52] at kT52_y11
  simp only [← hT52]
  have nT52 : Hid (T52.cnt ≤ 9223372036854775807) := hid (by rw [hT52]; exact (by decide : (1 : Nat) ≤ 9223372036854775807))
  clear hT52 k
  have hB_y11 := hB_y10.trans (hb.mono hB_y10.size)
  have kT46_y11 := hid (kT46_y10.out.below hb)
  have kT49_y11 := hid (kT49_y10.out.below hb)
  refine hK.out _ _ (fun _ => HS.out _ hB_y11) (fun _ => ?_)
  clear hK K' kT46_y10 kT49_y10 hB_y10 hb
  (try simp only [Act.put, List.setIfInBounds_toArray, List.set_cons_zero, List.set_cons_succ])
  have D := hid (two_f 9 T49 aT49 cT49 T52 aT52 cT52 y11 kT49_y11.out nT49.out kT52_y11.out nT52.out)
  refine G_step (i := 31) (o := { dst := some 53, op := Op.call { callee := Callee.value (Operand.func 19), args := #[Operand.const (Value.int IntKind.i64 9), Operand.tmp 49, Operand.tmp 52], argTypes := #[3, 24, 24] }, type := 24, pos := _, after := #[{ on := 27, ground := Ground.data }, { on := 30, ground := Ground.data }, { on := 30, ground := Ground.chain }, { on := 20, ground := Ground.guard }], guard := some (20, true) }) (by kernel_rfl) rfl (fun K' hK => ?_)
  go_simp
  go_at_call 19
  refine D.out.mono ?_
  rintro e y12 ⟨aT53, cT53, rfl, k, hb⟩
  dsimp only
  clear D
  obtain ⟨T53, hT53⟩ : ∃ q, q = tw 9 T49 T52 := ⟨_, rfl⟩
  have HT53 := hid hT53
  have kT53_y12 := hid k
  rw [← hT53] at kT53_y12
  simp only [← hT53]
  have nT53 : Hid (T53.cnt ≤ 9223372036854775807) := hid (by rw [hT53]; exact (by decide : (2 : Nat) ≤ 9223372036854775807))
  clear hT53 k
  have hB_y12 := hB_y11.trans (hb.mono hB_y11.size)
  have kT46_y12 := hid (kT46_y11.out.below hb)
  have kT49_y12 := hid (kT49_y11.out.below hb)
  have kT52_y12 := hid (kT52_y11.out.below hb)
  refine hK.out _ _ (fun _ => HS.out _ hB_y12) (fun _ => ?_)
  clear hK K' kT46_y11 kT49_y11 kT52_y11 hB_y11 hb
  (try simp only [Act.put, List.setIfInBounds_toArray, List.set_cons_zero, List.set_cons_succ])
  have D := hid (same_any (c1 := cT46) (c2 := cT53) (HK.out y12 hB_y12).1 (HK.out y12 hB_y12).2.1 kT46_y12.out kT53_y12.out nT46.out nT53.out (fun A => by (repeat (first | rw [HT53.out] | rw [HT52.out] | rw [HT49.out] | rw [HT46.out] | rw [HU.out] | rw [HR.out] | rw [HY.out])); exact law_not ..))
  refine G_step (i := 32) (o := { dst := some 54, op := Op.call { callee := Callee.value (Operand.tmp 43), args := #[Operand.tmp 46, Operand.tmp 53], argTypes := #[24, 24] }, type := 4, pos := _, after := #[{ on := 21, ground := Ground.data }, { on := 24, ground := Ground.data }, { on := 31, ground := Ground.data }, { on := 31, ground := Ground.chain }, { on := 20, ground := Ground.guard }], guard := some (20, true) }) (by kernel_rfl) rfl (fun K' hK => ?_)
  go_simp
  go_at_call 17
  refine D.out.mono ?_
  rintro e y13 ⟨rfl, hb⟩
  dsimp only
  clear D
  have hB_y13 := hB_y12.trans (hb.mono hB_y12.size)
  have kT46_y13 := hid (kT46_y12.out.below hb)
  have kT49_y13 := hid (kT49_y12.out.below hb)
  have kT52_y13 := hid (kT52_y12.out.below hb)
  have kT53_y13 := hid (kT53_y12.out.below hb)
  refine hK.out _ _ (fun _ => HS.out _ hB_y13) (fun _ => ?_)
  clear hK K' kT46_y12 kT49_y12 kT52_y12 kT53_y12 hB_y12 hb
  (try simp only [Act.put, List.setIfInBounds_toArray, List.set_cons_zero, List.set_cons_succ])
  clear kT46_y13 HT46 nT46 kT49_y13 HT49 nT49 kT52_y13 HT52 nT52 kT53_y13 HT53 nT53
  skip
  refine G_take (i := 33) (oi := { dst := some 55, op := Op.pick (Operand.tmp 42) (Operand.tmp 54) (Operand.const (Value.bool false)), type := 4, pos := _, after := #[{ on := 20, ground := Ground.data }, { on := 32, ground := Ground.data }], guard := none }) (v := .bool true) rfl (by kernel_rfl) (by kernel_rfl) (by kernel_rfl) (by kernel_rfl) (fun _ _ _ h => h) (by rfl) (fun u hu => ?_) (HS.out _ hB_y13) ?_
  · (try dsimp only at hu); go_simp
  (try simp only [Act.put, List.setIfInBounds_toArray, List.set_cons_zero, List.set_cons_succ])
  refine G_take (i := 34) (oi := { dst := some 56, op := Op.move (Operand.tmp 55), type := 4, pos := _, after := #[{ on := 33, ground := Ground.data }, { on := 32, ground := Ground.chain }], guard := none }) (v := .bool true) rfl (by kernel_rfl) (by kernel_rfl) (by kernel_rfl) (by kernel_rfl) (fun _ _ _ h => h) (by rfl) (fun u hu => ?_) (HS.out _ hB_y13) ?_
  · (try dsimp only at hu); go_simp
  (try simp only [Act.put, List.setIfInBounds_toArray, List.set_cons_zero, List.set_cons_succ])
  refine G_take (i := 35) (oi := { dst := some 57, op := Op.move (Operand.tmp 7), type := 44, pos := _, after := #[{ on := 34, ground := Ground.guard }], guard := some (34, true) }) (v := .func (.func 17) #[] #[.pointer (some ⟨w.heap.size + 1 + 1, 0, none⟩)]) rfl (by kernel_rfl) (by kernel_rfl) (by kernel_rfl) (by kernel_rfl) (fun _ _ _ h => h) (by rfl) (fun u hu => ?_) (HS.out _ hB_y13) ?_
  · (try dsimp only at hu); go_simp
  (try simp only [Act.put, List.setIfInBounds_toArray, List.set_cons_zero, List.set_cons_succ])
  refine G_take (i := 36) (oi := { dst := some 58, op := Op.load 24 (Operand.tmp 4), type := 24, pos := _, after := #[{ on := 34, ground := Ground.guard }], guard := some (34, true) }) (v := .agg #[.int .i64 g.kind, .int .i64 g.num, .slice a1 g.cnt cap1]) rfl (by kernel_rfl) (by kernel_rfl) (by kernel_rfl) (by kernel_rfl) (fun _ _ _ h => h) (by rfl) (fun u hu => ?_) (HS.out _ hB_y13) ?_
  · (try dsimp only at hu); go_simp
  (try simp only [Act.put, List.setIfInBounds_toArray, List.set_cons_zero, List.set_cons_succ])
  refine G_take (i := 38) (oi := { dst := some 60, op := Op.load 24 (Operand.tmp 11), type := 24, pos := _, after := #[{ on := 34, ground := Ground.guard }], guard := some (34, true) }) (v := .agg #[.int .i64 Y.kind, .int .i64 Y.num, .slice none Y.cnt 0]) rfl (by kernel_rfl) (by kernel_rfl) (by kernel_rfl) (by kernel_rfl) (fun _ _ _ h => h) (by rfl) (fun u hu => ?_) (HS.out _ hB_y13) ?_
  · (try dsimp only at hu); go_simp
  (try simp only [Act.put, List.setIfInBounds_toArray, List.set_cons_zero, List.set_cons_succ])
  refine G_take (i := 39) (oi := { dst := some 61, op := Op.load 24 (Operand.tmp 4), type := 24, pos := _, after := #[{ on := 34, ground := Ground.guard }], guard := some (34, true) }) (v := .agg #[.int .i64 g.kind, .int .i64 g.num, .slice a1 g.cnt cap1]) rfl (by kernel_rfl) (by kernel_rfl) (by kernel_rfl) (by kernel_rfl) (fun _ _ _ h => h) (by rfl) (fun u hu => ?_) (HS.out _ hB_y13) ?_
  · (try dsimp only at hu); go_simp
  (try simp only [Act.put, List.setIfInBounds_toArray, List.set_cons_zero, List.set_cons_succ])
  have D := hid (one_f 10 g a1 cap1 y13 (HK.out y13 hB_y13).2.2.2.1 hgc)
  refine G_step (i := 37) (o := { dst := some 59, op := Op.call { callee := Callee.value (Operand.func 21), args := #[Operand.const (Value.int IntKind.i64 10), Operand.tmp 58], argTypes := #[3, 24] }, type := 24, pos := _, after := #[{ on := 36, ground := Ground.data }, { on := 34, ground := Ground.chain }, { on := 34, ground := Ground.guard }], guard := some (34, true) }) (by kernel_rfl) rfl (fun K' hK => ?_)
  go_simp
  go_at_call 21
  refine D.out.mono ?_
  rintro e y14 ⟨aT59, cT59, rfl, k, hb⟩
  dsimp only
  clear D
  obtain ⟨T59, hT59⟩ : ∃ q, q = on 10 g := ⟨_, rfl⟩
  have HT59 := hid hT59
  have kT59_y14 := hid k
  rw [← hT59] at kT59_y14
  simp only [← hT59]
  have nT59 : Hid (T59.cnt ≤ 9223372036854775807) := hid (by rw [hT59]; exact (by decide : (1 : Nat) ≤ 9223372036854775807))
  clear hT59 k
  have hB_y14 := hB_y13.trans (hb.mono hB_y13.size)
  refine hK.out _ _ (fun _ => HS.out _ hB_y14) (fun _ => ?_)
  clear hK K' hB_y13 hb
  (try simp only [Act.put, List.setIfInBounds_toArray, List.set_cons_zero, List.set_cons_succ])
  have D := hid (two_f 8 Y none 0 g a1 cap1 y14 (HK.out y14 hB_y14).2.2.2.2.2.2 nY.out (HK.out y14 hB_y14).2.2.2.1 hgc)
  refine G_step (i := 40) (o := { dst := some 62, op := Op.call { callee := Callee.value (Operand.func 19), args := #[Operand.const (Value.int IntKind.i64 8), Operand.tmp 60, Operand.tmp 61], argTypes := #[3, 24, 24] }, type := 24, pos := _, after := #[{ on := 38, ground := Ground.data }, { on := 39, ground := Ground.data }, { on := 37, ground := Ground.chain }, { on := 34, ground := Ground.guard }], guard := some (34, true) }) (by kernel_rfl) rfl (fun K' hK => ?_)
  go_simp
  go_at_call 19
  refine D.out.mono ?_
  rintro e y15 ⟨aT62, cT62, rfl, k, hb⟩
  dsimp only
  clear D
  obtain ⟨T62, hT62⟩ : ∃ q, q = tw 8 Y g := ⟨_, rfl⟩
  have HT62 := hid hT62
  have kT62_y15 := hid k
  rw [← hT62] at kT62_y15
  simp only [← hT62]
  have nT62 : Hid (T62.cnt ≤ 9223372036854775807) := hid (by rw [hT62]; exact (by decide : (2 : Nat) ≤ 9223372036854775807))
  clear hT62 k
  have hB_y15 := hB_y14.trans (hb.mono hB_y14.size)
  have kT59_y15 := hid (kT59_y14.out.below hb)
  refine hK.out _ _ (fun _ => HS.out _ hB_y15) (fun _ => ?_)
  clear hK K' kT59_y14 hB_y14 hb
  (try simp only [Act.put, List.setIfInBounds_toArray, List.set_cons_zero, List.set_cons_succ])
  have D := hid (same_any (c1 := cT59) (c2 := cT62) (HK.out y15 hB_y15).1 (HK.out y15 hB_y15).2.1 kT59_y15.out kT62_y15.out nT59.out nT62.out (fun A => by (repeat (first | rw [HT62.out] | rw [HT59.out] | rw [HU.out] | rw [HR.out] | rw [HY.out])); exact law_finally ..))
  refine G_step (i := 41) (o := { dst := some 63, op := Op.call { callee := Callee.value (Operand.tmp 57), args := #[Operand.tmp 59, Operand.tmp 62], argTypes := #[24, 24] }, type := 4, pos := _, after := #[{ on := 35, ground := Ground.data }, { on := 37, ground := Ground.data }, { on := 40, ground := Ground.data }, { on := 40, ground := Ground.chain }, { on := 34, ground := Ground.guard }], guard := some (34, true) }) (by kernel_rfl) rfl (fun K' hK => ?_)
  go_simp
  go_at_call 17
  refine D.out.mono ?_
  rintro e y16 ⟨rfl, hb⟩
  dsimp only
  clear D
  have hB_y16 := hB_y15.trans (hb.mono hB_y15.size)
  have kT59_y16 := hid (kT59_y15.out.below hb)
  have kT62_y16 := hid (kT62_y15.out.below hb)
  refine hK.out _ _ (fun _ => HS.out _ hB_y16) (fun _ => ?_)
  clear hK K' kT59_y15 kT62_y15 hB_y15 hb
  (try simp only [Act.put, List.setIfInBounds_toArray, List.set_cons_zero, List.set_cons_succ])
  clear kT59_y16 HT59 nT59 kT62_y16 HT62 nT62
  skip
  refine G_take (i := 42) (oi := { dst := some 64, op := Op.pick (Operand.tmp 56) (Operand.tmp 63) (Operand.const (Value.bool false)), type := 4, pos := _, after := #[{ on := 34, ground := Ground.data }, { on := 41, ground := Ground.data }], guard := none }) (v := .bool true) rfl (by kernel_rfl) (by kernel_rfl) (by kernel_rfl) (by kernel_rfl) (fun _ _ _ h => h) (by rfl) (fun u hu => ?_) (HS.out _ hB_y16) ?_
  · (try dsimp only at hu); go_simp
  (try simp only [Act.put, List.setIfInBounds_toArray, List.set_cons_zero, List.set_cons_succ])
  refine G_take (i := 43) (oi := { dst := some 65, op := Op.move (Operand.tmp 64), type := 4, pos := _, after := #[{ on := 42, ground := Ground.data }, { on := 41, ground := Ground.chain }], guard := none }) (v := .bool true) rfl (by kernel_rfl) (by kernel_rfl) (by kernel_rfl) (by kernel_rfl) (fun _ _ _ h => h) (by rfl) (fun u hu => ?_) (HS.out _ hB_y16) ?_
  · (try dsimp only at hu); go_simp
  (try simp only [Act.put, List.setIfInBounds_toArray, List.set_cons_zero, List.set_cons_succ])
  refine G_take (i := 44) (oi := { dst := some 66, op := Op.move (Operand.tmp 7), type := 44, pos := _, after := #[{ on := 43, ground := Ground.guard }], guard := some (43, true) }) (v := .func (.func 17) #[] #[.pointer (some ⟨w.heap.size + 1 + 1, 0, none⟩)]) rfl (by kernel_rfl) (by kernel_rfl) (by kernel_rfl) (by kernel_rfl) (fun _ _ _ h => h) (by rfl) (fun u hu => ?_) (HS.out _ hB_y16) ?_
  · (try dsimp only at hu); go_simp
  (try simp only [Act.put, List.setIfInBounds_toArray, List.set_cons_zero, List.set_cons_succ])
  refine G_take (i := 45) (oi := { dst := some 67, op := Op.move (Operand.tmp 10), type := 47, pos := _, after := #[{ on := 43, ground := Ground.guard }], guard := some (43, true) }) (v := .func (.func 20) #[] #[]) rfl (by kernel_rfl) (by kernel_rfl) (by kernel_rfl) (by kernel_rfl) (fun _ _ _ h => h) (by rfl) (fun u hu => ?_) (HS.out _ hB_y16) ?_
  · (try dsimp only at hu); go_simp
  (try simp only [Act.put, List.setIfInBounds_toArray, List.set_cons_zero, List.set_cons_succ])
  refine G_take (i := 46) (oi := { dst := some 68, op := Op.load 24 (Operand.tmp 4), type := 24, pos := _, after := #[{ on := 43, ground := Ground.guard }], guard := some (43, true) }) (v := .agg #[.int .i64 g.kind, .int .i64 g.num, .slice a1 g.cnt cap1]) rfl (by kernel_rfl) (by kernel_rfl) (by kernel_rfl) (by kernel_rfl) (fun _ _ _ h => h) (by rfl) (fun u hu => ?_) (HS.out _ hB_y16) ?_
  · (try dsimp only at hu); go_simp
  (try simp only [Act.put, List.setIfInBounds_toArray, List.set_cons_zero, List.set_cons_succ])
  refine G_take (i := 49) (oi := { dst := some 71, op := Op.move (Operand.tmp 10), type := 47, pos := _, after := #[{ on := 43, ground := Ground.guard }], guard := some (43, true) }) (v := .func (.func 20) #[] #[]) rfl (by kernel_rfl) (by kernel_rfl) (by kernel_rfl) (by kernel_rfl) (fun _ _ _ h => h) (by rfl) (fun u hu => ?_) (HS.out _ hB_y16) ?_
  · (try dsimp only at hu); go_simp
  (try simp only [Act.put, List.setIfInBounds_toArray, List.set_cons_zero, List.set_cons_succ])
  refine G_take (i := 50) (oi := { dst := some 72, op := Op.load 24 (Operand.tmp 4), type := 24, pos := _, after := #[{ on := 43, ground := Ground.guard }], guard := some (43, true) }) (v := .agg #[.int .i64 g.kind, .int .i64 g.num, .slice a1 g.cnt cap1]) rfl (by kernel_rfl) (by kernel_rfl) (by kernel_rfl) (by kernel_rfl) (fun _ _ _ h => h) (by rfl) (fun u hu => ?_) (HS.out _ hB_y16) ?_
  · (try dsimp only at hu); go_simp
  (try simp only [Act.put, List.setIfInBounds_toArray, List.set_cons_zero, List.set_cons_succ])
  have D := hid (one_f 10 g a1 cap1 y16 (HK.out y16 hB_y16).2.2.2.1 hgc)
  refine G_step (i := 47) (o := { dst := some 69, op := Op.call { callee := Callee.value (Operand.func 21), args := #[Operand.const (Value.int IntKind.i64 10), Operand.tmp 68], argTypes := #[3, 24] }, type := 24, pos := _, after := #[{ on := 46, ground := Ground.data }, { on := 43, ground := Ground.chain }, { on := 43, ground := Ground.guard }], guard := some (43, true) }) (by kernel_rfl) rfl (fun K' hK => ?_)
  go_simp
  go_at_call 21
  refine D.out.mono ?_
  rintro e y17 ⟨aT69, cT69, rfl, k, hb⟩
  dsimp only
  clear D
  obtain ⟨T69, hT69⟩ : ∃ q, q = on 10 g := ⟨_, rfl⟩
  have HT69 := hid hT69
  have kT69_y17 := hid k
  rw [← hT69] at kT69_y17
  simp only [← hT69]
  have nT69 : Hid (T69.cnt ≤ 9223372036854775807) := hid (by rw [hT69]; exact (by decide : (1 : Nat) ≤ 9223372036854775807))
  clear hT69 k
  have hB_y17 := hB_y16.trans (hb.mono hB_y16.size)
  refine hK.out _ _ (fun _ => HS.out _ hB_y17) (fun _ => ?_)
  clear hK K' hB_y16 hb
  (try simp only [Act.put, List.setIfInBounds_toArray, List.set_cons_zero, List.set_cons_succ])
  have D := hid (not_f T69 aT69 cT69 y17 kT69_y17.out nT69.out)
  refine G_step (i := 48) (o := { dst := some 70, op := Op.call { callee := Callee.value (Operand.tmp 67), args := #[Operand.tmp 69], argTypes := #[24] }, type := 24, pos := _, after := #[{ on := 45, ground := Ground.data }, { on := 47, ground := Ground.data }, { on := 47, ground := Ground.chain }, { on := 43, ground := Ground.guard }], guard := some (43, true) }) (by kernel_rfl) rfl (fun K' hK => ?_)
  go_simp
  go_at_call 20
  refine D.out.mono ?_
  rintro e y18 ⟨aT70, cT70, rfl, k, hb⟩
  dsimp only
  clear D
  obtain ⟨T70, hT70⟩ : ∃ q, q = on 4 T69 := ⟨_, rfl⟩
  have HT70 := hid hT70
  have kT70_y18 := hid k
  rw [← hT70] at kT70_y18
  simp only [← hT70]
  have nT70 : Hid (T70.cnt ≤ 9223372036854775807) := hid (by rw [hT70]; exact (by decide : (1 : Nat) ≤ 9223372036854775807))
  clear hT70 k
  have hB_y18 := hB_y17.trans (hb.mono hB_y17.size)
  have kT69_y18 := hid (kT69_y17.out.below hb)
  refine hK.out _ _ (fun _ => HS.out _ hB_y18) (fun _ => ?_)
  clear hK K' kT69_y17 hB_y17 hb
  (try simp only [Act.put, List.setIfInBounds_toArray, List.set_cons_zero, List.set_cons_succ])
  have D := hid (not_f g a1 cap1 y18 (HK.out y18 hB_y18).2.2.2.1 hgc)
  refine G_step (i := 51) (o := { dst := some 73, op := Op.call { callee := Callee.value (Operand.tmp 71), args := #[Operand.tmp 72], argTypes := #[24] }, type := 24, pos := _, after := #[{ on := 49, ground := Ground.data }, { on := 50, ground := Ground.data }, { on := 48, ground := Ground.chain }, { on := 43, ground := Ground.guard }], guard := some (43, true) }) (by kernel_rfl) rfl (fun K' hK => ?_)
  go_simp
  go_at_call 20
  refine D.out.mono ?_
  rintro e y19 ⟨aT73, cT73, rfl, k, hb⟩
  dsimp only
  clear D
  obtain ⟨T73, hT73⟩ : ∃ q, q = on 4 g := ⟨_, rfl⟩
  have HT73 := hid hT73
  have kT73_y19 := hid k
  rw [← hT73] at kT73_y19
  simp only [← hT73]
  have nT73 : Hid (T73.cnt ≤ 9223372036854775807) := hid (by rw [hT73]; exact (by decide : (1 : Nat) ≤ 9223372036854775807))
  clear hT73 k
  have hB_y19 := hB_y18.trans (hb.mono hB_y18.size)
  have kT69_y19 := hid (kT69_y18.out.below hb)
  have kT70_y19 := hid (kT70_y18.out.below hb)
  refine hK.out _ _ (fun _ => HS.out _ hB_y19) (fun _ => ?_)
  clear hK K' kT69_y18 kT70_y18 hB_y18 hb
  (try simp only [Act.put, List.setIfInBounds_toArray, List.set_cons_zero, List.set_cons_succ])
  have D := hid (one_f 11 T73 aT73 cT73 y19 kT73_y19.out nT73.out)
  refine G_step (i := 52) (o := { dst := some 74, op := Op.call { callee := Callee.value (Operand.func 21), args := #[Operand.const (Value.int IntKind.i64 11), Operand.tmp 73], argTypes := #[3, 24] }, type := 24, pos := _, after := #[{ on := 51, ground := Ground.data }, { on := 51, ground := Ground.chain }, { on := 43, ground := Ground.guard }], guard := some (43, true) }) (by kernel_rfl) rfl (fun K' hK => ?_)
  go_simp
  go_at_call 21
  refine D.out.mono ?_
  rintro e y20 ⟨aT74, cT74, rfl, k, hb⟩
  dsimp only
  clear D
  obtain ⟨T74, hT74⟩ : ∃ q, q = on 11 T73 := ⟨_, rfl⟩
  have HT74 := hid hT74
  have kT74_y20 := hid k
  rw [← hT74] at kT74_y20
  simp only [← hT74]
  have nT74 : Hid (T74.cnt ≤ 9223372036854775807) := hid (by rw [hT74]; exact (by decide : (1 : Nat) ≤ 9223372036854775807))
  clear hT74 k
  have hB_y20 := hB_y19.trans (hb.mono hB_y19.size)
  have kT69_y20 := hid (kT69_y19.out.below hb)
  have kT70_y20 := hid (kT70_y19.out.below hb)
  have kT73_y20 := hid (kT73_y19.out.below hb)
  refine hK.out _ _ (fun _ => HS.out _ hB_y20) (fun _ => ?_)
  clear hK K' kT69_y19 kT70_y19 kT73_y19 hB_y19 hb
  (try simp only [Act.put, List.setIfInBounds_toArray, List.set_cons_zero, List.set_cons_succ])
  have D := hid (same_any (c1 := cT70) (c2 := cT74) (HK.out y20 hB_y20).1 (HK.out y20 hB_y20).2.1 kT70_y20.out kT74_y20.out nT70.out nT74.out (fun A => by (repeat (first | rw [HT74.out] | rw [HT73.out] | rw [HT70.out] | rw [HT69.out] | rw [HU.out] | rw [HR.out] | rw [HY.out])); exact law_never ..))
  refine G_step (i := 53) (o := { dst := some 75, op := Op.call { callee := Callee.value (Operand.tmp 66), args := #[Operand.tmp 70, Operand.tmp 74], argTypes := #[24, 24] }, type := 4, pos := _, after := #[{ on := 44, ground := Ground.data }, { on := 48, ground := Ground.data }, { on := 52, ground := Ground.data }, { on := 52, ground := Ground.chain }, { on := 43, ground := Ground.guard }], guard := some (43, true) }) (by kernel_rfl) rfl (fun K' hK => ?_)
  go_simp
  go_at_call 17
  refine D.out.mono ?_
  rintro e y21 ⟨rfl, hb⟩
  dsimp only
  clear D
  have hB_y21 := hB_y20.trans (hb.mono hB_y20.size)
  have kT69_y21 := hid (kT69_y20.out.below hb)
  have kT70_y21 := hid (kT70_y20.out.below hb)
  have kT73_y21 := hid (kT73_y20.out.below hb)
  have kT74_y21 := hid (kT74_y20.out.below hb)
  refine hK.out _ _ (fun _ => HS.out _ hB_y21) (fun _ => ?_)
  clear hK K' kT69_y20 kT70_y20 kT73_y20 kT74_y20 hB_y20 hb
  (try simp only [Act.put, List.setIfInBounds_toArray, List.set_cons_zero, List.set_cons_succ])
  clear kT69_y21 HT69 nT69 kT70_y21 HT70 nT70 kT73_y21 HT73 nT73 kT74_y21 HT74 nT74
  skip
  refine G_take (i := 54) (oi := { dst := some 76, op := Op.pick (Operand.tmp 65) (Operand.tmp 75) (Operand.const (Value.bool false)), type := 4, pos := _, after := #[{ on := 43, ground := Ground.data }, { on := 53, ground := Ground.data }], guard := none }) (v := .bool true) rfl (by kernel_rfl) (by kernel_rfl) (by kernel_rfl) (by kernel_rfl) (fun _ _ _ h => h) (by rfl) (fun u hu => ?_) (HS.out _ hB_y21) ?_
  · (try dsimp only at hu); go_simp
  (try simp only [Act.put, List.setIfInBounds_toArray, List.set_cons_zero, List.set_cons_succ])
  refine G_take (i := 55) (oi := { dst := some 77, op := Op.move (Operand.tmp 76), type := 4, pos := _, after := #[{ on := 54, ground := Ground.data }, { on := 53, ground := Ground.chain }], guard := none }) (v := .bool true) rfl (by kernel_rfl) (by kernel_rfl) (by kernel_rfl) (by kernel_rfl) (fun _ _ _ h => h) (by rfl) (fun u hu => ?_) (HS.out _ hB_y21) ?_
  · (try dsimp only at hu); go_simp
  (try simp only [Act.put, List.setIfInBounds_toArray, List.set_cons_zero, List.set_cons_succ])
  refine G_take (i := 56) (oi := { dst := some 78, op := Op.move (Operand.tmp 7), type := 44, pos := _, after := #[{ on := 55, ground := Ground.guard }], guard := some (55, true) }) (v := .func (.func 17) #[] #[.pointer (some ⟨w.heap.size + 1 + 1, 0, none⟩)]) rfl (by kernel_rfl) (by kernel_rfl) (by kernel_rfl) (by kernel_rfl) (fun _ _ _ h => h) (by rfl) (fun u hu => ?_) (HS.out _ hB_y21) ?_
  · (try dsimp only at hu); go_simp
  (try simp only [Act.put, List.setIfInBounds_toArray, List.set_cons_zero, List.set_cons_succ])
  refine G_take (i := 57) (oi := { dst := some 79, op := Op.load 24 (Operand.tmp 3), type := 24, pos := _, after := #[{ on := 55, ground := Ground.guard }], guard := some (55, true) }) (v := .agg #[.int .i64 f.kind, .int .i64 f.num, .slice a0 f.cnt cap0]) rfl (by kernel_rfl) (by kernel_rfl) (by kernel_rfl) (by kernel_rfl) (fun _ _ _ h => h) (by rfl) (fun u hu => ?_) (HS.out _ hB_y21) ?_
  · (try dsimp only at hu); go_simp
  (try simp only [Act.put, List.setIfInBounds_toArray, List.set_cons_zero, List.set_cons_succ])
  refine G_take (i := 58) (oi := { dst := some 80, op := Op.load 24 (Operand.tmp 4), type := 24, pos := _, after := #[{ on := 55, ground := Ground.guard }], guard := some (55, true) }) (v := .agg #[.int .i64 g.kind, .int .i64 g.num, .slice a1 g.cnt cap1]) rfl (by kernel_rfl) (by kernel_rfl) (by kernel_rfl) (by kernel_rfl) (fun _ _ _ h => h) (by rfl) (fun u hu => ?_) (HS.out _ hB_y21) ?_
  · (try dsimp only at hu); go_simp
  (try simp only [Act.put, List.setIfInBounds_toArray, List.set_cons_zero, List.set_cons_succ])
  refine G_take (i := 61) (oi := { dst := some 83, op := Op.load 24 (Operand.tmp 3), type := 24, pos := _, after := #[{ on := 55, ground := Ground.guard }], guard := some (55, true) }) (v := .agg #[.int .i64 f.kind, .int .i64 f.num, .slice a0 f.cnt cap0]) rfl (by kernel_rfl) (by kernel_rfl) (by kernel_rfl) (by kernel_rfl) (fun _ _ _ h => h) (by rfl) (fun u hu => ?_) (HS.out _ hB_y21) ?_
  · (try dsimp only at hu); go_simp
  (try simp only [Act.put, List.setIfInBounds_toArray, List.set_cons_zero, List.set_cons_succ])
  refine G_take (i := 63) (oi := { dst := some 85, op := Op.load 24 (Operand.tmp 4), type := 24, pos := _, after := #[{ on := 55, ground := Ground.guard }], guard := some (55, true) }) (v := .agg #[.int .i64 g.kind, .int .i64 g.num, .slice a1 g.cnt cap1]) rfl (by kernel_rfl) (by kernel_rfl) (by kernel_rfl) (by kernel_rfl) (fun _ _ _ h => h) (by rfl) (fun u hu => ?_) (HS.out _ hB_y21) ?_
  · (try dsimp only at hu); go_simp
  (try simp only [Act.put, List.setIfInBounds_toArray, List.set_cons_zero, List.set_cons_succ])
  have D := hid (two_f 5 f a0 cap0 g a1 cap1 y21 (HK.out y21 hB_y21).2.2.1 hfc (HK.out y21 hB_y21).2.2.2.1 hgc)
  refine G_step (i := 59) (o := { dst := some 81, op := Op.call { callee := Callee.value (Operand.func 19), args := #[Operand.const (Value.int IntKind.i64 5), Operand.tmp 79, Operand.tmp 80], argTypes := #[3, 24, 24] }, type := 24, pos := _, after := #[{ on := 57, ground := Ground.data }, { on := 58, ground := Ground.data }, { on := 55, ground := Ground.chain }, { on := 55, ground := Ground.guard }], guard := some (55, true) }) (by kernel_rfl) rfl (fun K' hK => ?_)
  go_simp
  go_at_call 19
  refine D.out.mono ?_
  rintro e y22 ⟨aT81, cT81, rfl, k, hb⟩
  dsimp only
  clear D
  obtain ⟨T81, hT81⟩ : ∃ q, q = tw 5 f g := ⟨_, rfl⟩
  have HT81 := hid hT81
  have kT81_y22 := hid k
  rw [← hT81] at kT81_y22
  simp only [← hT81]
  have nT81 : Hid (T81.cnt ≤ 9223372036854775807) := hid (by rw [hT81]; exact (by decide : (2 : Nat) ≤ 9223372036854775807))
  clear hT81 k
  have hB_y22 := hB_y21.trans (hb.mono hB_y21.size)
  refine hK.out _ _ (fun _ => HS.out _ hB_y22) (fun _ => ?_)
  clear hK K' hB_y21 hb
  (try simp only [Act.put, List.setIfInBounds_toArray, List.set_cons_zero, List.set_cons_succ])
  have D := hid (one_f 7 T81 aT81 cT81 y22 kT81_y22.out nT81.out)
  refine G_step (i := 60) (o := { dst := some 82, op := Op.call { callee := Callee.value (Operand.func 21), args := #[Operand.const (Value.int IntKind.i64 7), Operand.tmp 81], argTypes := #[3, 24] }, type := 24, pos := _, after := #[{ on := 59, ground := Ground.data }, { on := 59, ground := Ground.chain }, { on := 55, ground := Ground.guard }], guard := some (55, true) }) (by kernel_rfl) rfl (fun K' hK => ?_)
  go_simp
  go_at_call 21
  refine D.out.mono ?_
  rintro e y23 ⟨aT82, cT82, rfl, k, hb⟩
  dsimp only
  clear D
  obtain ⟨T82, hT82⟩ : ∃ q, q = on 7 T81 := ⟨_, rfl⟩
  have HT82 := hid hT82
  have kT82_y23 := hid k
  rw [← hT82] at kT82_y23
  simp only [← hT82]
  have nT82 : Hid (T82.cnt ≤ 9223372036854775807) := hid (by rw [hT82]; exact (by decide : (1 : Nat) ≤ 9223372036854775807))
  clear hT82 k
  have hB_y23 := hB_y22.trans (hb.mono hB_y22.size)
  have kT81_y23 := hid (kT81_y22.out.below hb)
  refine hK.out _ _ (fun _ => HS.out _ hB_y23) (fun _ => ?_)
  clear hK K' kT81_y22 hB_y22 hb
  (try simp only [Act.put, List.setIfInBounds_toArray, List.set_cons_zero, List.set_cons_succ])
  have D := hid (one_f 7 f a0 cap0 y23 (HK.out y23 hB_y23).2.2.1 hfc)
  refine G_step (i := 62) (o := { dst := some 84, op := Op.call { callee := Callee.value (Operand.func 21), args := #[Operand.const (Value.int IntKind.i64 7), Operand.tmp 83], argTypes := #[3, 24] }, type := 24, pos := _, after := #[{ on := 61, ground := Ground.data }, { on := 60, ground := Ground.chain }, { on := 55, ground := Ground.guard }], guard := some (55, true) }) (by kernel_rfl) rfl (fun K' hK => ?_)
  go_simp
  go_at_call 21
  refine D.out.mono ?_
  rintro e y24 ⟨aT84, cT84, rfl, k, hb⟩
  dsimp only
  clear D
  obtain ⟨T84, hT84⟩ : ∃ q, q = on 7 f := ⟨_, rfl⟩
  have HT84 := hid hT84
  have kT84_y24 := hid k
  rw [← hT84] at kT84_y24
  simp only [← hT84]
  have nT84 : Hid (T84.cnt ≤ 9223372036854775807) := hid (by rw [hT84]; exact (by decide : (1 : Nat) ≤ 9223372036854775807))
  clear hT84 k
  have hB_y24 := hB_y23.trans (hb.mono hB_y23.size)
  have kT81_y24 := hid (kT81_y23.out.below hb)
  have kT82_y24 := hid (kT82_y23.out.below hb)
  refine hK.out _ _ (fun _ => HS.out _ hB_y24) (fun _ => ?_)
  clear hK K' kT81_y23 kT82_y23 hB_y23 hb
  (try simp only [Act.put, List.setIfInBounds_toArray, List.set_cons_zero, List.set_cons_succ])
  have D := hid (one_f 7 g a1 cap1 y24 (HK.out y24 hB_y24).2.2.2.1 hgc)
  refine G_step (i := 64) (o := { dst := some 86, op := Op.call { callee := Callee.value (Operand.func 21), args := #[Operand.const (Value.int IntKind.i64 7), Operand.tmp 85], argTypes := #[3, 24] }, type := 24, pos := _, after := #[{ on := 63, ground := Ground.data }, { on := 62, ground := Ground.chain }, { on := 55, ground := Ground.guard }], guard := some (55, true) }) (by kernel_rfl) rfl (fun K' hK => ?_)
  go_simp
  go_at_call 21
  refine D.out.mono ?_
  rintro e y25 ⟨aT86, cT86, rfl, k, hb⟩
  dsimp only
  clear D
  obtain ⟨T86, hT86⟩ : ∃ q, q = on 7 g := ⟨_, rfl⟩
  have HT86 := hid hT86
  have kT86_y25 := hid k
  rw [← hT86] at kT86_y25
  simp only [← hT86]
  have nT86 : Hid (T86.cnt ≤ 9223372036854775807) := hid (by rw [hT86]; exact (by decide : (1 : Nat) ≤ 9223372036854775807))
  clear hT86 k
  have hB_y25 := hB_y24.trans (hb.mono hB_y24.size)
  have kT81_y25 := hid (kT81_y24.out.below hb)
  have kT82_y25 := hid (kT82_y24.out.below hb)
  have kT84_y25 := hid (kT84_y24.out.below hb)
  refine hK.out _ _ (fun _ => HS.out _ hB_y25) (fun _ => ?_)
  clear hK K' kT81_y24 kT82_y24 kT84_y24 hB_y24 hb
  (try simp only [Act.put, List.setIfInBounds_toArray, List.set_cons_zero, List.set_cons_succ])
  have D := hid (two_f 5 T84 aT84 cT84 T86 aT86 cT86 y25 kT84_y25.out nT84.out kT86_y25.out nT86.out)
  refine G_step (i := 65) (o := { dst := some 87, op := Op.call { callee := Callee.value (Operand.func 19), args := #[Operand.const (Value.int IntKind.i64 5), Operand.tmp 84, Operand.tmp 86], argTypes := #[3, 24, 24] }, type := 24, pos := _, after := #[{ on := 62, ground := Ground.data }, { on := 64, ground := Ground.data }, { on := 64, ground := Ground.chain }, { on := 55, ground := Ground.guard }], guard := some (55, true) }) (by kernel_rfl) rfl (fun K' hK => ?_)
  go_simp
  go_at_call 19
  refine D.out.mono ?_
  rintro e y26 ⟨aT87, cT87, rfl, k, hb⟩
  dsimp only
  clear D
  obtain ⟨T87, hT87⟩ : ∃ q, q = tw 5 T84 T86 := ⟨_, rfl⟩
  have HT87 := hid hT87
  have kT87_y26 := hid k
  rw [← hT87] at kT87_y26
  simp only [← hT87]
  have nT87 : Hid (T87.cnt ≤ 9223372036854775807) := hid (by rw [hT87]; exact (by decide : (2 : Nat) ≤ 9223372036854775807))
  clear hT87 k
  have hB_y26 := hB_y25.trans (hb.mono hB_y25.size)
  have kT81_y26 := hid (kT81_y25.out.below hb)
  have kT82_y26 := hid (kT82_y25.out.below hb)
  have kT84_y26 := hid (kT84_y25.out.below hb)
  have kT86_y26 := hid (kT86_y25.out.below hb)
  refine hK.out _ _ (fun _ => HS.out _ hB_y26) (fun _ => ?_)
  clear hK K' kT81_y25 kT82_y25 kT84_y25 kT86_y25 hB_y25 hb
  (try simp only [Act.put, List.setIfInBounds_toArray, List.set_cons_zero, List.set_cons_succ])
  have D := hid (same_any (c1 := cT82) (c2 := cT87) (HK.out y26 hB_y26).1 (HK.out y26 hB_y26).2.1 kT82_y26.out kT87_y26.out nT82.out nT87.out (fun A => by (repeat (first | rw [HT87.out] | rw [HT86.out] | rw [HT84.out] | rw [HT82.out] | rw [HT81.out] | rw [HU.out] | rw [HR.out] | rw [HY.out])); exact law_next ..))
  refine G_step (i := 66) (o := { dst := some 88, op := Op.call { callee := Callee.value (Operand.tmp 78), args := #[Operand.tmp 82, Operand.tmp 87], argTypes := #[24, 24] }, type := 4, pos := _, after := #[{ on := 56, ground := Ground.data }, { on := 60, ground := Ground.data }, { on := 65, ground := Ground.data }, { on := 65, ground := Ground.chain }, { on := 55, ground := Ground.guard }], guard := some (55, true) }) (by kernel_rfl) rfl (fun K' hK => ?_)
  go_simp
  go_at_call 17
  refine D.out.mono ?_
  rintro e y27 ⟨rfl, hb⟩
  dsimp only
  clear D
  have hB_y27 := hB_y26.trans (hb.mono hB_y26.size)
  have kT81_y27 := hid (kT81_y26.out.below hb)
  have kT82_y27 := hid (kT82_y26.out.below hb)
  have kT84_y27 := hid (kT84_y26.out.below hb)
  have kT86_y27 := hid (kT86_y26.out.below hb)
  have kT87_y27 := hid (kT87_y26.out.below hb)
  refine hK.out _ _ (fun _ => HS.out _ hB_y27) (fun _ => ?_)
  clear hK K' kT81_y26 kT82_y26 kT84_y26 kT86_y26 kT87_y26 hB_y26 hb
  (try simp only [Act.put, List.setIfInBounds_toArray, List.set_cons_zero, List.set_cons_succ])
  clear kT81_y27 HT81 nT81 kT82_y27 HT82 nT82 kT84_y27 HT84 nT84 kT86_y27 HT86 nT86 kT87_y27 HT87 nT87
  skip
  refine G_take (i := 67) (oi := { dst := some 89, op := Op.pick (Operand.tmp 77) (Operand.tmp 88) (Operand.const (Value.bool false)), type := 4, pos := _, after := #[{ on := 55, ground := Ground.data }, { on := 66, ground := Ground.data }], guard := none }) (v := .bool true) rfl (by kernel_rfl) (by kernel_rfl) (by kernel_rfl) (by kernel_rfl) (fun _ _ _ h => h) (by rfl) (fun u hu => ?_) (HS.out _ hB_y27) ?_
  · (try dsimp only at hu); go_simp
  (try simp only [Act.put, List.setIfInBounds_toArray, List.set_cons_zero, List.set_cons_succ])
  refine G_take (i := 68) (oi := { dst := some 90, op := Op.move (Operand.tmp 89), type := 4, pos := _, after := #[{ on := 67, ground := Ground.data }, { on := 66, ground := Ground.chain }], guard := none }) (v := .bool true) rfl (by kernel_rfl) (by kernel_rfl) (by kernel_rfl) (by kernel_rfl) (fun _ _ _ h => h) (by rfl) (fun u hu => ?_) (HS.out _ hB_y27) ?_
  · (try dsimp only at hu); go_simp
  (try simp only [Act.put, List.setIfInBounds_toArray, List.set_cons_zero, List.set_cons_succ])
  refine G_take (i := 69) (oi := { dst := some 91, op := Op.move (Operand.tmp 7), type := 44, pos := _, after := #[{ on := 68, ground := Ground.guard }], guard := some (68, true) }) (v := .func (.func 17) #[] #[.pointer (some ⟨w.heap.size + 1 + 1, 0, none⟩)]) rfl (by kernel_rfl) (by kernel_rfl) (by kernel_rfl) (by kernel_rfl) (fun _ _ _ h => h) (by rfl) (fun u hu => ?_) (HS.out _ hB_y27) ?_
  · (try dsimp only at hu); go_simp
  (try simp only [Act.put, List.setIfInBounds_toArray, List.set_cons_zero, List.set_cons_succ])
  refine G_take (i := 70) (oi := { dst := some 92, op := Op.load 24 (Operand.tmp 3), type := 24, pos := _, after := #[{ on := 68, ground := Ground.guard }], guard := some (68, true) }) (v := .agg #[.int .i64 f.kind, .int .i64 f.num, .slice a0 f.cnt cap0]) rfl (by kernel_rfl) (by kernel_rfl) (by kernel_rfl) (by kernel_rfl) (fun _ _ _ h => h) (by rfl) (fun u hu => ?_) (HS.out _ hB_y27) ?_
  · (try dsimp only at hu); go_simp
  (try simp only [Act.put, List.setIfInBounds_toArray, List.set_cons_zero, List.set_cons_succ])
  refine G_take (i := 73) (oi := { dst := some 95, op := Op.load 24 (Operand.tmp 3), type := 24, pos := _, after := #[{ on := 68, ground := Ground.guard }], guard := some (68, true) }) (v := .agg #[.int .i64 f.kind, .int .i64 f.num, .slice a0 f.cnt cap0]) rfl (by kernel_rfl) (by kernel_rfl) (by kernel_rfl) (by kernel_rfl) (fun _ _ _ h => h) (by rfl) (fun u hu => ?_) (HS.out _ hB_y27) ?_
  · (try dsimp only at hu); go_simp
  (try simp only [Act.put, List.setIfInBounds_toArray, List.set_cons_zero, List.set_cons_succ])
  have D := hid (one_f 11 f a0 cap0 y27 (HK.out y27 hB_y27).2.2.1 hfc)
  refine G_step (i := 71) (o := { dst := some 93, op := Op.call { callee := Callee.value (Operand.func 21), args := #[Operand.const (Value.int IntKind.i64 11), Operand.tmp 92], argTypes := #[3, 24] }, type := 24, pos := _, after := #[{ on := 70, ground := Ground.data }, { on := 68, ground := Ground.chain }, { on := 68, ground := Ground.guard }], guard := some (68, true) }) (by kernel_rfl) rfl (fun K' hK => ?_)
  go_simp
  go_at_call 21
  refine D.out.mono ?_
  rintro e y28 ⟨aT93, cT93, rfl, k, hb⟩
  dsimp only
  clear D
  obtain ⟨T93, hT93⟩ : ∃ q, q = on 11 f := ⟨_, rfl⟩
  have HT93 := hid hT93
  have kT93_y28 := hid k
  rw [← hT93] at kT93_y28
  simp only [← hT93]
  have nT93 : Hid (T93.cnt ≤ 9223372036854775807) := hid (by rw [hT93]; exact (by decide : (1 : Nat) ≤ 9223372036854775807))
  clear hT93 k
  have hB_y28 := hB_y27.trans (hb.mono hB_y27.size)
  refine hK.out _ _ (fun _ => HS.out _ hB_y28) (fun _ => ?_)
  clear hK K' hB_y27 hb
  (try simp only [Act.put, List.setIfInBounds_toArray, List.set_cons_zero, List.set_cons_succ])
  have D := hid (one_f 11 T93 aT93 cT93 y28 kT93_y28.out nT93.out)
  refine G_step (i := 72) (o := { dst := some 94, op := Op.call { callee := Callee.value (Operand.func 21), args := #[Operand.const (Value.int IntKind.i64 11), Operand.tmp 93], argTypes := #[3, 24] }, type := 24, pos := _, after := #[{ on := 71, ground := Ground.data }, { on := 71, ground := Ground.chain }, { on := 68, ground := Ground.guard }], guard := some (68, true) }) (by kernel_rfl) rfl (fun K' hK => ?_)
  go_simp
  go_at_call 21
  refine D.out.mono ?_
  rintro e y29 ⟨aT94, cT94, rfl, k, hb⟩
  dsimp only
  clear D
  obtain ⟨T94, hT94⟩ : ∃ q, q = on 11 T93 := ⟨_, rfl⟩
  have HT94 := hid hT94
  have kT94_y29 := hid k
  rw [← hT94] at kT94_y29
  simp only [← hT94]
  have nT94 : Hid (T94.cnt ≤ 9223372036854775807) := hid (by rw [hT94]; exact (by decide : (1 : Nat) ≤ 9223372036854775807))
  clear hT94 k
  have hB_y29 := hB_y28.trans (hb.mono hB_y28.size)
  have kT93_y29 := hid (kT93_y28.out.below hb)
  refine hK.out _ _ (fun _ => HS.out _ hB_y29) (fun _ => ?_)
  clear hK K' kT93_y28 hB_y28 hb
  (try simp only [Act.put, List.setIfInBounds_toArray, List.set_cons_zero, List.set_cons_succ])
  have D := hid (one_f 11 f a0 cap0 y29 (HK.out y29 hB_y29).2.2.1 hfc)
  refine G_step (i := 74) (o := { dst := some 96, op := Op.call { callee := Callee.value (Operand.func 21), args := #[Operand.const (Value.int IntKind.i64 11), Operand.tmp 95], argTypes := #[3, 24] }, type := 24, pos := _, after := #[{ on := 73, ground := Ground.data }, { on := 72, ground := Ground.chain }, { on := 68, ground := Ground.guard }], guard := some (68, true) }) (by kernel_rfl) rfl (fun K' hK => ?_)
  go_simp
  go_at_call 21
  refine D.out.mono ?_
  rintro e y30 ⟨aT96, cT96, rfl, k, hb⟩
  dsimp only
  clear D
  obtain ⟨T96, hT96⟩ : ∃ q, q = on 11 f := ⟨_, rfl⟩
  have HT96 := hid hT96
  have kT96_y30 := hid k
  rw [← hT96] at kT96_y30
  simp only [← hT96]
  have nT96 : Hid (T96.cnt ≤ 9223372036854775807) := hid (by rw [hT96]; exact (by decide : (1 : Nat) ≤ 9223372036854775807))
  clear hT96 k
  have hB_y30 := hB_y29.trans (hb.mono hB_y29.size)
  have kT93_y30 := hid (kT93_y29.out.below hb)
  have kT94_y30 := hid (kT94_y29.out.below hb)
  refine hK.out _ _ (fun _ => HS.out _ hB_y30) (fun _ => ?_)
  clear hK K' kT93_y29 kT94_y29 hB_y29 hb
  (try simp only [Act.put, List.setIfInBounds_toArray, List.set_cons_zero, List.set_cons_succ])
  have D := hid (same_any (c1 := cT94) (c2 := cT96) (HK.out y30 hB_y30).1 (HK.out y30 hB_y30).2.1 kT94_y30.out kT96_y30.out nT94.out nT96.out (fun A => by (repeat (first | rw [HT96.out] | rw [HT94.out] | rw [HT93.out] | rw [HU.out] | rw [HR.out] | rw [HY.out])); exact law_always ..))
  refine G_step (i := 75) (o := { dst := some 97, op := Op.call { callee := Callee.value (Operand.tmp 91), args := #[Operand.tmp 94, Operand.tmp 96], argTypes := #[24, 24] }, type := 4, pos := _, after := #[{ on := 69, ground := Ground.data }, { on := 72, ground := Ground.data }, { on := 74, ground := Ground.data }, { on := 74, ground := Ground.chain }, { on := 68, ground := Ground.guard }], guard := some (68, true) }) (by kernel_rfl) rfl (fun K' hK => ?_)
  go_simp
  go_at_call 17
  refine D.out.mono ?_
  rintro e y31 ⟨rfl, hb⟩
  dsimp only
  clear D
  have hB_y31 := hB_y30.trans (hb.mono hB_y30.size)
  have kT93_y31 := hid (kT93_y30.out.below hb)
  have kT94_y31 := hid (kT94_y30.out.below hb)
  have kT96_y31 := hid (kT96_y30.out.below hb)
  refine hK.out _ _ (fun _ => HS.out _ hB_y31) (fun _ => ?_)
  clear hK K' kT93_y30 kT94_y30 kT96_y30 hB_y30 hb
  (try simp only [Act.put, List.setIfInBounds_toArray, List.set_cons_zero, List.set_cons_succ])
  clear kT93_y31 HT93 nT93 kT94_y31 HT94 nT94 kT96_y31 HT96 nT96
  skip
  refine G_take (i := 76) (oi := { dst := some 98, op := Op.pick (Operand.tmp 90) (Operand.tmp 97) (Operand.const (Value.bool false)), type := 4, pos := _, after := #[{ on := 68, ground := Ground.data }, { on := 75, ground := Ground.data }], guard := none }) (v := .bool true) rfl (by kernel_rfl) (by kernel_rfl) (by kernel_rfl) (by kernel_rfl) (fun _ _ _ h => h) (by rfl) (fun u hu => ?_) (HS.out _ hB_y31) ?_
  · (try dsimp only at hu); go_simp
  (try simp only [Act.put, List.setIfInBounds_toArray, List.set_cons_zero, List.set_cons_succ])
  refine G_step (i := 77) (o := { dst := some 6, op := Op.assign (Operand.tmp 98), type := 4, pos := _, after := _, guard := none }) (by kernel_rfl) rfl (fun K' hK => ?_)
  go_simp
  refine hK.out _ _ (fun _ => HS.out _ hB_y31) (fun _ => ?_)
  clear hK K'
  (try simp only [Act.put, List.setIfInBounds_toArray, List.set_cons_zero, List.set_cons_succ])
  refine G_done (by kernel_rfl) ?_ _
  have HFIN := hid (HW.out _ hB_y31)
  clear hB_y31 HS HK HW
  go_wp2_with fail
  go_ret
  exact ⟨rfl, HFIN.out⟩

end Go.Proofs.YtejombhfkobcbaaDoor
