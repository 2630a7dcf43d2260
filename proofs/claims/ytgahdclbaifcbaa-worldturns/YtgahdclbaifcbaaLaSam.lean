/- LassoTurns: Same, of two good words. -/
import Derived.Deep.CutRange
import Derived.Deep.RegionHeld
import Derived.Test.YtgahdclbaifcbaaLaTur
import Derived.Test.YtgahdclbaifcbaaLaUnr
import Derived.Test.YtgahdclbaifcbaaRws
import Derived.Test.YtgahdclbaifcbaaLst
import Derived.Test.YtgahdclbaifcbaaLea
import Derived.Test.YtgahdclbaifcbaaApp
import Derived.Test.YtgahdclbaifcbaaWck
import Derived.Test.YtgahdclbaifcbaaHeld
import Derived.Test.YtgahdclbaifcbaaUnr
import Derived.Test.YtgahdclbaifcbaaSgl
import Derived.Test.YtgahdclbaifcbaaGth
namespace Go.Proofs.Ytgahdclbaifcbaa
open Go.RowKit

section
variable {P : Program} {ops : Array Oper} {Q : Exit → Act → World → Prop} {md : Region.Mode} {S : World → Prop} {ex : Nat → Bool}
/-- Whichever of those that are ready comes up. -/
theorem G_alt2 {f : Nat} {listed : Array Bool} {a : Act} {w : World} {l : List Nat} (hr : Region.ready md ops listed = l) (hl : l ≠ [])
    (h : ∀ i, i ∈ l → ∃ o, ops[i]? = some o ∧ ∀ K' : Act → World → Prop, Shut (∀ a w, (ex i = false → S w) → ((ex i = false → S w) → wpAnyG P md ops Q S ex f (listed.setIfInBounds i true) a w) → K' a w) → if Region.wanted o (yielded ops a.tmps) = true then Oper.wp P o a w K' Q else K' (a.put o.dst undef) w) :
    wpAnyG P md ops Q S ex (f + 1) listed a w := by
  refine ⟨fun h0 => absurd (hr.symm.trans h0) hl, fun j hj => ?_⟩
  rw [hr] at hj
  obtain ⟨o, ho, hh⟩ := h j hj
  exact wpOp_step ho (fun K' hK => hh K' (fun a w hS hW => hK a w ⟨hS, hW hS⟩))
end

set_option maxHeartbeats 8000000 in
theorem sameF_ok {w : World} {sa : Option Addr} {s sc : Nat} {la : Option Addr} {m lc : Nat} {S L : Nat → Int} {sb : Option Addr} {t tc : Nat} {lb : Option Addr} {n nc : Nat} {T K : Nat → Int} (hw : Wd w sa s la m S L) (hsn : sa = none → s = 0 ∧ sc = 0) (hsc : s ≤ sc) (hlc : m ≤ lc) (h60 : s + m ≤ 60) (hm : 0 < m) (hw2 : Wd w sb t lb n T K) (htn : sb = none → t = 0 ∧ tc = 0) (htc : t ≤ tc) (hnc : n ≤ nc) (k60 : t + n ≤ 60) (hn : 0 < n) :
    Calls Try.prog 26 #[.agg #[.slice sa s sc, .slice la m lc], .agg #[.slice sb t tc, .slice lb n nc]] w fun e w' => ∃ st lp st' lp', Lea (ltr s m S L) st lp ∧ Lea (ltr t n T K) st' lp' ∧ e = .returned (.tuple #[.bool (sameU st st' (ltr s m S L) (ltr t n T K) && sameU lp lp' (fun i => ltr s m S L (st + i)) (fun i => ltr t n T K (st' + i))), .int .i64 0]) ∧ Below w.heap.size w w' := by
  obtain ⟨u, hu⟩ : ∃ y, y = (w.alloc (.cells #[.slice sa s sc, .slice la m lc] 41)).alloc (.cells #[.slice sb t tc, .slice lb n nc] 41) := ⟨_, rfl⟩
  have hB : Below w.heap.size w u := by rw [hu]; exact below_alloc2 _ _ _
  have e1 : (w.alloc (.cells #[.slice sa s sc, .slice la m lc] 41)).heap.size = w.heap.size + 1 := by simp
  have x1 : u.heap[w.heap.size]? = some (.cells #[.slice sa s sc, .slice la m lc] 41) := by rw [hu]; exact alloc_old _ (alloc_last _ rfl)
  have x2 : u.heap[w.heap.size + 1]? = some (.cells #[.slice sb t tc, .slice lb n nc] 41) := by rw [hu]; exact alloc_last _ e1
  have HX : Hid (∀ z, Below u.heap.size u z → (fun y => y.cell? ⟨w.heap.size, 0, none⟩ = some (.slice sa s sc) ∧ y.cell? ⟨w.heap.size, 1, none⟩ = some (.slice la m lc) ∧ y.cell? ⟨w.heap.size + 1, 0, none⟩ = some (.slice sb t tc) ∧ y.cell? ⟨w.heap.size + 1, 1, none⟩ = some (.slice lb n nc)) z ∧ Wd z sa s la m S L ∧ Wd z sb t lb n T K ∧ Below w.heap.size w z) := fun z hz => ⟨⟨below_cell hz (Nat.le_refl _) (cell_of_cells x1 rfl), below_cell hz (Nat.le_refl _) (cell_of_cells x1 rfl), below_cell hz (Nat.le_refl _) (cell_of_cells x2 rfl), below_cell hz (Nat.le_refl _) (cell_of_cells x2 rfl)⟩, (hw.below hB).below hz, (hw2.below hB).below hz, hB.trans (hz.mono hB.size)⟩
  have W1 : Hid (∀ y, Calls Try.prog 40 #[.agg #[.slice sa s sc, .slice la m lc]] y fun e w' => e = .returned (.int .i64 0) ∧ Below y.heap.size y w') := fun y => by
    have h := wcheck_any sa s sc la m lc y hw.s47 hw.m47
    rw [wchk_zero h60 hm] at h
    exact h
  have W2 : Hid (∀ y, Calls Try.prog 40 #[.agg #[.slice sb t tc, .slice lb n nc]] y fun e w' => e = .returned (.int .i64 0) ∧ Below y.heap.size y w') := fun y => by
    have h := wcheck_any sb t tc lb n nc y hw2.s47 hw2.m47
    rw [wchk_zero k60 hn] at h
    exact h
  have HU := hid hu
  obtain ⟨f, hf⟩ : ∃ y, y = ltr s m S L := ⟨_, rfl⟩
  obtain ⟨g, hg⟩ : ∃ y, y = ltr t n T K := ⟨_, rfl⟩
  have HFF := hid hf
  have HGG := hid hg
  rw [← hf, ← hg]
  clear hu hB e1 x1 x2 hw hw2 hf hg
  go_enter Try.func26, Try.ntmps26
  go_wp2_with fail
  rw [← HU.out]
  refine (W1.out u).mono ?_
  rintro e z1 ⟨rfl, hz1⟩
  have HZ1 := hid hz1
  clear hz1 HU W1
  obtain ⟨⟨f0, f1, g0, g1⟩, -⟩ := HX.out z1 HZ1.out
  go_wp2_with fail
  refine (W2.out z1).mono ?_
  rintro e z ⟨rfl, hz⟩
  have HZ : Hid (Below u.heap.size u z) := HZ1.out.trans (hz.mono HZ1.out.size)
  clear hz HZ1 W2 f0 f1 g0 g1
  have C8 : Hid (∀ y, Below z.heap.size z y → Calls Try.prog 45 #[.agg #[.slice sa s sc, .slice la m lc]] y fun e w' => ∃ st lp a c b d, (Lea f st lp ∧ st ≤ 1000 ∧ lp ≤ 1000) ∧ e = .returned (.agg #[.slice a st c, .slice b lp d]) ∧ RowU w' a st f ∧ RowU w' b lp (fun i => f (st + i)) ∧ Below y.heap.size y w') := fun y hy => by
    refine (least_any (HX.out y (HZ.out.trans (hy.mono HZ.out.size))).2.1 hsn hsc hlc h60 hm).mono ?_
    rintro e w' ⟨st, lp, h1, h2, h3, a, c, b, d, h4, h5, h6, h7, h8, h9, h10, h11⟩
    rw [← HFF.out] at h1 h9 h10
    exact ⟨st, lp, a, c, b, d, ⟨h1, by omega, by omega⟩, h4, h9, h10, h11⟩
  have C9 : Hid (∀ y, Below z.heap.size z y → Calls Try.prog 45 #[.agg #[.slice sb t tc, .slice lb n nc]] y fun e w' => ∃ st lp a c b d, (Lea g st lp ∧ st ≤ 1000 ∧ lp ≤ 1000) ∧ e = .returned (.agg #[.slice a st c, .slice b lp d]) ∧ RowU w' a st g ∧ RowU w' b lp (fun i => g (st + i)) ∧ Below y.heap.size y w') := fun y hy => by
    refine (least_any (HX.out y (HZ.out.trans (hy.mono HZ.out.size))).2.2.1 htn htc hnc k60 hn).mono ?_
    rintro e w' ⟨st, lp, h1, h2, h3, a, c, b, d, h4, h5, h6, h7, h8, h9, h10, h11⟩
    rw [← HGG.out] at h1 h9 h10
    exact ⟨st, lp, a, c, b, d, ⟨h1, by omega, by omega⟩, h4, h9, h10, h11⟩
  have HS : Hid (∀ y, Below z.heap.size z y → (fun y => y.cell? ⟨w.heap.size, 0, none⟩ = some (.slice sa s sc) ∧ y.cell? ⟨w.heap.size, 1, none⟩ = some (.slice la m lc) ∧ y.cell? ⟨w.heap.size + 1, 0, none⟩ = some (.slice sb t tc) ∧ y.cell? ⟨w.heap.size + 1, 1, none⟩ = some (.slice lb n nc)) y) := fun y hy => (HX.out y (HZ.out.trans (hy.mono HZ.out.size))).1
  obtain ⟨f0, f1, g0, g1⟩ := HS.out z (Below.refl _ _)
  go_upto_region 7 with fail
  go_cut [8, 9] from 20 to 23 (fun v8 v9 wc => ∃ b8 b9 st8 lp8 a8 c8 b8x d8 st9 lp9 a9 c9 b9x d9, v8 = .pointer (some ⟨b8, 0, none⟩) ∧ v9 = .pointer (some ⟨b9, 0, none⟩) ∧ Hid (Below z.heap.size z wc ∧ wc.heap[b8]? = some (.cells #[.slice a8 st8 c8, .slice b8x lp8 d8] 41) ∧ wc.heap[b9]? = some (.cells #[.slice a9 st9 c9, .slice b9x lp9 d9] 41) ∧ (Lea f st8 lp8 ∧ st8 ≤ 1000 ∧ lp8 ≤ 1000) ∧ (Lea g st9 lp9 ∧ st9 ≤ 1000 ∧ lp9 ≤ 1000) ∧ (RowU wc a8 st8 f ∧ RowU wc b8x lp8 (fun i => f (st8 + i))) ∧ (RowU wc a9 st9 g ∧ RowU wc b9x lp9 (fun i => g (st9 + i)))))
  case first =>
    have hB0 : Below z.heap.size z z.drew := below_drewN (Below.refl _ _) 1
    clear f0 f1 g0 g1 HX
    refine G_region (fun y => y.cell? ⟨w.heap.size, 0, none⟩ = some (.slice sa s sc) ∧ y.cell? ⟨w.heap.size, 1, none⟩ = some (.slice la m lc) ∧ y.cell? ⟨w.heap.size + 1, 0, none⟩ = some (.slice sb t tc) ∧ y.cell? ⟨w.heap.size + 1, 1, none⟩ = some (.slice lb n nc)) (fun _ => false) (by kernel_rfl) (HS.out _ hB0) (fun _ => ?_)
    refine G_take (i := 0) (oi := { dst := some 20, op := Op.load 41 (Operand.tmp 2), type := 41, pos := _, after := #[], guard := none }) (v := .agg #[.slice sa s sc, .slice la m lc]) rfl (by kernel_rfl) (by kernel_rfl) (by kernel_rfl) (by kernel_rfl) (fun _ _ _ h => h) (by rfl) (fun u hu => ?_) (HS.out _ hB0) ?_
    · (try dsimp only at hu); go_simp
    (try simp only [Act.put, List.setIfInBounds_toArray, List.set_cons_zero, List.set_cons_succ])
    refine G_take (i := 2) (oi := { dst := some 22, op := Op.load 41 (Operand.tmp 3), type := 41, pos := _, after := #[], guard := none }) (v := .agg #[.slice sb t tc, .slice lb n nc]) rfl (by kernel_rfl) (by kernel_rfl) (by kernel_rfl) (by kernel_rfl) (fun _ _ _ h => h) (by rfl) (fun u hu => ?_) (HS.out _ hB0) ?_
    · (try dsimp only at hu); go_simp
    (try simp only [Act.put, List.setIfInBounds_toArray, List.set_cons_zero, List.set_cons_succ])
    obtain ⟨y0, hy0⟩ : ∃ q, q = z.drew := ⟨_, rfl⟩
    rw [← hy0] at hB0 ⊢
    have hB_y0 := hB0
    clear hB0 hy0
    refine G_alt2 (l := [1, 4, 5]) (by kernel_rfl) (by decide) ?_
    intro i hi
    have hi2 : i = 1 ∨ i = 4 ∨ i = 5 := by simpa using hi
    clear hi
    rcases hi2 with rfl | rfl | rfl
    · refine ⟨{ dst := some 21, op := Op.call { callee := Callee.value (Operand.func 45), args := #[Operand.tmp 20], argTypes := #[41] }, type := 41, pos := _, after := #[{ on := 0, ground := Ground.data }], guard := none }, rfl, fun K' hK => ?_⟩
      go_simp
      go_at_call 45
      refine (C8.out y0 hB_y0).mono ?_
      rintro e y1 ⟨st8, lp8, a8, c8, b8x, d8, hle8, rfl, r1, r2, hb⟩
      dsimp only
      have xk8_y1 := hid (And.intro r1 r2)
      clear r1 r2
      have hB_y1 := hB_y0.trans (hb.mono hB_y0.size)
      clear hb
      refine hK.out _ _ (fun _ => HS.out _ hB_y1) (fun _ => ?_)
      clear hK K'
      (try simp only [Act.put, List.setIfInBounds_toArray, List.set_cons_zero, List.set_cons_succ])
      clear hB_y0
      refine G_alt2 (l := [3, 4, 5]) (by kernel_rfl) (by decide) ?_
      intro i hi
      have hi2 : i = 3 ∨ i = 4 ∨ i = 5 := by simpa using hi
      clear hi
      rcases hi2 with rfl | rfl | rfl
      · refine ⟨{ dst := some 23, op := Op.call { callee := Callee.value (Operand.func 45), args := #[Operand.tmp 22], argTypes := #[41] }, type := 41, pos := _, after := #[{ on := 2, ground := Ground.data }, { on := 1, ground := Ground.chain }], guard := none }, rfl, fun K' hK => ?_⟩
        go_simp
        go_at_call 45
        refine (C9.out y1 hB_y1).mono ?_
        rintro e y2 ⟨st9, lp9, a9, c9, b9x, d9, hle9, rfl, r1, r2, hb⟩
        dsimp only
        have xk9_y2 := hid (And.intro r1 r2)
        clear r1 r2
        have hB_y2 := hB_y1.trans (hb.mono hB_y1.size)
        have xk8_y2 := hid (And.intro (xk8_y1.out.1.below hb) (xk8_y1.out.2.below hb))
        clear hb
        refine hK.out _ _ (fun _ => HS.out _ hB_y2) (fun _ => ?_)
        clear hK K'
        (try simp only [Act.put, List.setIfInBounds_toArray, List.set_cons_zero, List.set_cons_succ])
        clear xk8_y1 hB_y1
        refine G_alt2 (l := [4, 5]) (by kernel_rfl) (by decide) ?_
        intro i hi
        have hi2 : i = 4 ∨ i = 5 := by simpa using hi
        clear hi
        rcases hi2 with rfl | rfl
        · refine ⟨{ dst := some 8, op := Op.alloc 41, type := 0, pos := _, after := #[], guard := none }, rfl, fun K' hK => ?_⟩
          go_simp
          obtain ⟨y3, hy3⟩ : ∃ q, q = y2.alloc (.cells #[.slice none 0 0, .slice none 0 0] 41) := ⟨_, rfl⟩
          rw [← hy3]
          obtain ⟨b8, hb8⟩ : ∃ q, q = y2.heap.size := ⟨_, rfl⟩
          have hb : Below y2.heap.size y2 y3 := by rw [hy3]; exact box_below _ _
          have xb8_y3 : y3.heap[b8]? = some (.cells #[.slice none 0 0, .slice none 0 0] 41) := by rw [hy3, hb8]; exact Go.Deep.blk_alloc_new _ _
          have hB_y3 := hB_y2.trans (hb.mono hB_y2.size)
          have hl8 : z.heap.size ≤ b8 := by rw [hb8]; exact hB_y2.size
          have xk8_y3 := hid (And.intro (xk8_y2.out.1.below hb) (xk8_y2.out.2.below hb))
          have xk9_y3 := hid (And.intro (xk9_y2.out.1.below hb) (xk9_y2.out.2.below hb))
          rw [← hb8]
          clear hb hb8 hy3
          refine hK.out _ _ (fun _ => HS.out _ hB_y3) (fun _ => ?_)
          clear hK K'
          (try simp only [Act.put, List.setIfInBounds_toArray, List.set_cons_zero, List.set_cons_succ])
          clear xk8_y2 xk9_y2 hB_y2
          refine G_alt2 (l := [5]) (by kernel_rfl) (by decide) ?_
          intro i hi
          have hi2 : i = 5 := by simpa using hi
          clear hi
          subst hi2
          refine ⟨{ dst := some 9, op := Op.alloc 41, type := 0, pos := _, after := #[], guard := none }, rfl, fun K' hK => ?_⟩
          go_simp
          obtain ⟨y4, hy4⟩ : ∃ q, q = y3.alloc (.cells #[.slice none 0 0, .slice none 0 0] 41) := ⟨_, rfl⟩
          rw [← hy4]
          obtain ⟨b9, hb9⟩ : ∃ q, q = y3.heap.size := ⟨_, rfl⟩
          have hb : Below y3.heap.size y3 y4 := by rw [hy4]; exact box_below _ _
          have xb9_y4 : y4.heap[b9]? = some (.cells #[.slice none 0 0, .slice none 0 0] 41) := by rw [hy4, hb9]; exact Go.Deep.blk_alloc_new _ _
          have hB_y4 := hB_y3.trans (hb.mono hB_y3.size)
          have hl9 : z.heap.size ≤ b9 := by rw [hb9]; exact hB_y3.size
          have hne : b8 ≠ b9 := by have h := (Array.getElem?_eq_some_iff.1 xb8_y3).1; omega
          have xk8_y4 := hid (And.intro (xk8_y3.out.1.below hb) (xk8_y3.out.2.below hb))
          have xk9_y4 := hid (And.intro (xk9_y3.out.1.below hb) (xk9_y3.out.2.below hb))
          have xb8_y4 := alloc_le hb xb8_y3
          rw [← hb9]
          clear hb hb9 hy4
          refine hK.out _ _ (fun _ => HS.out _ hB_y4) (fun _ => ?_)
          clear hK K'
          (try simp only [Act.put, List.setIfInBounds_toArray, List.set_cons_zero, List.set_cons_succ])
          clear xk8_y3 xk9_y3 xb8_y3 hB_y3
          refine G_alt2 (l := [6]) (by kernel_rfl) (by decide) ?_
          intro i hi
          have hi2 : i = 6 := by simpa using hi
          clear hi
          subst hi2
          refine ⟨{ dst := none, op := Op.store 41 (Operand.tmp 8) (Operand.tmp 21), type := 0, pos := _, after := #[{ on := 4, ground := Ground.data }, { on := 1, ground := Ground.data }, { on := 3, ground := Ground.chain }, { on := 0, ground := Ground.phase }, { on := 1, ground := Ground.phase }, { on := 2, ground := Ground.textOnly Departure.lateStores }, { on := 3, ground := Ground.textOnly Departure.lateStoresUnsure }, { on := 4, ground := Ground.phase }, { on := 5, ground := Ground.phase }], guard := none }, rfl, fun K' hK => ?_⟩
          have d0 := cell_of_cells (i := 0) xb8_y4 rfl
          have d1 := cell_of_cells (i := 1) xb8_y4 rfl
          have e0 := fz_of xb8_y4 0
          have e1 := fz_of xb8_y4 1
          go_simp
          obtain ⟨y5, hy5⟩ : ∃ q, q = (y4.setCell ⟨b8, 0, none⟩ (.slice a8 st8 c8)).setCell ⟨b8, 1, none⟩ (.slice b8x lp8 d8) := ⟨_, rfl⟩
          rw [← hy5]
          have hbut : But b8 y4 y5 := by rw [hy5]; exact ((But.refl _ _).setCell _ _).setCell _ _
          have xb8_y5 : y5.heap[b8]? = some (.cells #[.slice a8 st8 c8, .slice b8x lp8 d8] 41) := by rw [hy5]; exact la_two_set xb8_y4 _ _
          have hB_y5 := hB_y4.trans (hbut.below hl8 hB_y4.size)
          have xb9_y5 := (hbut.block _ (Array.getElem?_eq_some_iff.1 xb9_y4).1 (by omega)).trans xb9_y4
          have xk8_y5 := hid (And.intro (xk8_y4.out.1.butz hbut xb8_y4) (xk8_y4.out.2.butz hbut xb8_y4))
          have xk9_y5 := hid (And.intro (xk9_y4.out.1.butz hbut xb8_y4) (xk9_y4.out.2.butz hbut xb8_y4))
          clear hbut hy5 d0 d1 e0 e1
          refine hK.out _ _ (fun _ => HS.out _ hB_y5) (fun _ => ?_)
          clear hK K'
          (try simp only [Act.put, List.setIfInBounds_toArray, List.set_cons_zero, List.set_cons_succ])
          clear xb8_y4 xb9_y4 xk8_y4 xk9_y4 hB_y4
          refine G_alt2 (l := [7]) (by kernel_rfl) (by decide) ?_
          intro i hi
          have hi2 : i = 7 := by simpa using hi
          clear hi
          subst hi2
          refine ⟨{ dst := none, op := Op.store 41 (Operand.tmp 9) (Operand.tmp 23), type := 0, pos := _, after := #[{ on := 5, ground := Ground.data }, { on := 3, ground := Ground.data }, { on := 6, ground := Ground.chain }, { on := 0, ground := Ground.phase }, { on := 1, ground := Ground.phase }, { on := 2, ground := Ground.phase }, { on := 3, ground := Ground.phase }, { on := 4, ground := Ground.phase }, { on := 5, ground := Ground.phase }, { on := 6, ground := Ground.phase }], guard := none }, rfl, fun K' hK => ?_⟩
          have d0 := cell_of_cells (i := 0) xb9_y5 rfl
          have d1 := cell_of_cells (i := 1) xb9_y5 rfl
          have e0 := fz_of xb9_y5 0
          have e1 := fz_of xb9_y5 1
          go_simp
          obtain ⟨y6, hy6⟩ : ∃ q, q = (y5.setCell ⟨b9, 0, none⟩ (.slice a9 st9 c9)).setCell ⟨b9, 1, none⟩ (.slice b9x lp9 d9) := ⟨_, rfl⟩
          rw [← hy6]
          have hbut : But b9 y5 y6 := by rw [hy6]; exact ((But.refl _ _).setCell _ _).setCell _ _
          have xb9_y6 : y6.heap[b9]? = some (.cells #[.slice a9 st9 c9, .slice b9x lp9 d9] 41) := by rw [hy6]; exact la_two_set xb9_y5 _ _
          have hB_y6 := hB_y5.trans (hbut.below hl9 hB_y5.size)
          have xb8_y6 := (hbut.block _ (Array.getElem?_eq_some_iff.1 xb8_y5).1 (by omega)).trans xb8_y5
          have xk8_y6 := hid (And.intro (xk8_y5.out.1.butz hbut xb9_y5) (xk8_y5.out.2.butz hbut xb9_y5))
          have xk9_y6 := hid (And.intro (xk9_y5.out.1.butz hbut xb9_y5) (xk9_y5.out.2.butz hbut xb9_y5))
          clear hbut hy6 d0 d1 e0 e1
          refine hK.out _ _ (fun _ => HS.out _ hB_y6) (fun _ => ?_)
          clear hK K'
          (try simp only [Act.put, List.setIfInBounds_toArray, List.set_cons_zero, List.set_cons_succ])
          clear xb8_y5 xb9_y5 xk8_y5 xk9_y5 hB_y5
          refine G_done (by kernel_rfl) ?_ _
          have HFIN := hid (And.intro hB_y6 (And.intro xb8_y6 (And.intro xb9_y6 (And.intro hle8 (And.intro hle9 (And.intro xk8_y6.out xk9_y6.out))))))
          clear xb8_y6 xb9_y6 xk8_y6 xk9_y6 hB_y6
          go_wp2_with fail
          go_meet
          exact ⟨b8, b9, st8, lp8, a8, c8, b8x, d8, st9, lp9, a9, c9, b9x, d9, rfl, rfl, HFIN⟩
        · refine ⟨{ dst := some 9, op := Op.alloc 41, type := 0, pos := _, after := #[], guard := none }, rfl, fun K' hK => ?_⟩
          go_simp
          obtain ⟨y7, hy7⟩ : ∃ q, q = y2.alloc (.cells #[.slice none 0 0, .slice none 0 0] 41) := ⟨_, rfl⟩
          rw [← hy7]
          obtain ⟨b9, hb9⟩ : ∃ q, q = y2.heap.size := ⟨_, rfl⟩
          have hb : Below y2.heap.size y2 y7 := by rw [hy7]; exact box_below _ _
          have xb9_y7 : y7.heap[b9]? = some (.cells #[.slice none 0 0, .slice none 0 0] 41) := by rw [hy7, hb9]; exact Go.Deep.blk_alloc_new _ _
          have hB_y7 := hB_y2.trans (hb.mono hB_y2.size)
          have hl9 : z.heap.size ≤ b9 := by rw [hb9]; exact hB_y2.size
          have xk8_y7 := hid (And.intro (xk8_y2.out.1.below hb) (xk8_y2.out.2.below hb))
          have xk9_y7 := hid (And.intro (xk9_y2.out.1.below hb) (xk9_y2.out.2.below hb))
          rw [← hb9]
          clear hb hb9 hy7
          refine hK.out _ _ (fun _ => HS.out _ hB_y7) (fun _ => ?_)
          clear hK K'
          (try simp only [Act.put, List.setIfInBounds_toArray, List.set_cons_zero, List.set_cons_succ])
          clear xk8_y2 xk9_y2 hB_y2
          refine G_alt2 (l := [4]) (by kernel_rfl) (by decide) ?_
          intro i hi
          have hi2 : i = 4 := by simpa using hi
          clear hi
          subst hi2
          refine ⟨{ dst := some 8, op := Op.alloc 41, type := 0, pos := _, after := #[], guard := none }, rfl, fun K' hK => ?_⟩
          go_simp
          obtain ⟨y8, hy8⟩ : ∃ q, q = y7.alloc (.cells #[.slice none 0 0, .slice none 0 0] 41) := ⟨_, rfl⟩
          rw [← hy8]
          obtain ⟨b8, hb8⟩ : ∃ q, q = y7.heap.size := ⟨_, rfl⟩
          have hb : Below y7.heap.size y7 y8 := by rw [hy8]; exact box_below _ _
          have xb8_y8 : y8.heap[b8]? = some (.cells #[.slice none 0 0, .slice none 0 0] 41) := by rw [hy8, hb8]; exact Go.Deep.blk_alloc_new _ _
          have hB_y8 := hB_y7.trans (hb.mono hB_y7.size)
          have hl8 : z.heap.size ≤ b8 := by rw [hb8]; exact hB_y7.size
          have hne : b8 ≠ b9 := by have h := (Array.getElem?_eq_some_iff.1 xb9_y7).1; omega
          have xk8_y8 := hid (And.intro (xk8_y7.out.1.below hb) (xk8_y7.out.2.below hb))
          have xk9_y8 := hid (And.intro (xk9_y7.out.1.below hb) (xk9_y7.out.2.below hb))
          have xb9_y8 := alloc_le hb xb9_y7
          rw [← hb8]
          clear hb hb8 hy8
          refine hK.out _ _ (fun _ => HS.out _ hB_y8) (fun _ => ?_)
          clear hK K'
          (try simp only [Act.put, List.setIfInBounds_toArray, List.set_cons_zero, List.set_cons_succ])
          clear xk8_y7 xk9_y7 xb9_y7 hB_y7
          refine G_alt2 (l := [6]) (by kernel_rfl) (by decide) ?_
          intro i hi
          have hi2 : i = 6 := by simpa using hi
          clear hi
          subst hi2
          refine ⟨{ dst := none, op := Op.store 41 (Operand.tmp 8) (Operand.tmp 21), type := 0, pos := _, after := #[{ on := 4, ground := Ground.data }, { on := 1, ground := Ground.data }, { on := 3, ground := Ground.chain }, { on := 0, ground := Ground.phase }, { on := 1, ground := Ground.phase }, { on := 2, ground := Ground.textOnly Departure.lateStores }, { on := 3, ground := Ground.textOnly Departure.lateStoresUnsure }, { on := 4, ground := Ground.phase }, { on := 5, ground := Ground.phase }], guard := none }, rfl, fun K' hK => ?_⟩
          have d0 := cell_of_cells (i := 0) xb8_y8 rfl
          have d1 := cell_of_cells (i := 1) xb8_y8 rfl
          have e0 := fz_of xb8_y8 0
          have e1 := fz_of xb8_y8 1
          go_simp
          obtain ⟨y9, hy9⟩ : ∃ q, q = (y8.setCell ⟨b8, 0, none⟩ (.slice a8 st8 c8)).setCell ⟨b8, 1, none⟩ (.slice b8x lp8 d8) := ⟨_, rfl⟩
          rw [← hy9]
          have hbut : But b8 y8 y9 := by rw [hy9]; exact ((But.refl _ _).setCell _ _).setCell _ _
          have xb8_y9 : y9.heap[b8]? = some (.cells #[.slice a8 st8 c8, .slice b8x lp8 d8] 41) := by rw [hy9]; exact la_two_set xb8_y8 _ _
          have hB_y9 := hB_y8.trans (hbut.below hl8 hB_y8.size)
          have xb9_y9 := (hbut.block _ (Array.getElem?_eq_some_iff.1 xb9_y8).1 (by omega)).trans xb9_y8
          have xk8_y9 := hid (And.intro (xk8_y8.out.1.butz hbut xb8_y8) (xk8_y8.out.2.butz hbut xb8_y8))
          have xk9_y9 := hid (And.intro (xk9_y8.out.1.butz hbut xb8_y8) (xk9_y8.out.2.butz hbut xb8_y8))
          clear hbut hy9 d0 d1 e0 e1
          refine hK.out _ _ (fun _ => HS.out _ hB_y9) (fun _ => ?_)
          clear hK K'
          (try simp only [Act.put, List.setIfInBounds_toArray, List.set_cons_zero, List.set_cons_succ])
          clear xb8_y8 xb9_y8 xk8_y8 xk9_y8 hB_y8
          refine G_alt2 (l := [7]) (by kernel_rfl) (by decide) ?_
          intro i hi
          have hi2 : i = 7 := by simpa using hi
          clear hi
          subst hi2
          refine ⟨{ dst := none, op := Op.store 41 (Operand.tmp 9) (Operand.tmp 23), type := 0, pos := _, after := #[{ on := 5, ground := Ground.data }, { on := 3, ground := Ground.data }, { on := 6, ground := Ground.chain }, { on := 0, ground := Ground.phase }, { on := 1, ground := Ground.phase }, { on := 2, ground := Ground.phase }, { on := 3, ground := Ground.phase }, { on := 4, ground := Ground.phase }, { on := 5, ground := Ground.phase }, { on := 6, ground := Ground.phase }], guard := none }, rfl, fun K' hK => ?_⟩
          have d0 := cell_of_cells (i := 0) xb9_y9 rfl
          have d1 := cell_of_cells (i := 1) xb9_y9 rfl
          have e0 := fz_of xb9_y9 0
          have e1 := fz_of xb9_y9 1
          go_simp
          obtain ⟨y10, hy10⟩ : ∃ q, q = (y9.setCell ⟨b9, 0, none⟩ (.slice a9 st9 c9)).setCell ⟨b9, 1, none⟩ (.slice b9x lp9 d9) := ⟨_, rfl⟩
          rw [← hy10]
          have hbut : But b9 y9 y10 := by rw [hy10]; exact ((But.refl _ _).setCell _ _).setCell _ _
          have xb9_y10 : y10.heap[b9]? = some (.cells #[.slice a9 st9 c9, .slice b9x lp9 d9] 41) := by rw [hy10]; exact la_two_set xb9_y9 _ _
          have hB_y10 := hB_y9.trans (hbut.below hl9 hB_y9.size)
          have xb8_y10 := (hbut.block _ (Array.getElem?_eq_some_iff.1 xb8_y9).1 (by omega)).trans xb8_y9
          have xk8_y10 := hid (And.intro (xk8_y9.out.1.butz hbut xb9_y9) (xk8_y9.out.2.butz hbut xb9_y9))
          have xk9_y10 := hid (And.intro (xk9_y9.out.1.butz hbut xb9_y9) (xk9_y9.out.2.butz hbut xb9_y9))
          clear hbut hy10 d0 d1 e0 e1
          refine hK.out _ _ (fun _ => HS.out _ hB_y10) (fun _ => ?_)
          clear hK K'
          (try simp only [Act.put, List.setIfInBounds_toArray, List.set_cons_zero, List.set_cons_succ])
          clear xb8_y9 xb9_y9 xk8_y9 xk9_y9 hB_y9
          refine G_done (by kernel_rfl) ?_ _
          have HFIN := hid (And.intro hB_y10 (And.intro xb8_y10 (And.intro xb9_y10 (And.intro hle8 (And.intro hle9 (And.intro xk8_y10.out xk9_y10.out))))))
          clear xb8_y10 xb9_y10 xk8_y10 xk9_y10 hB_y10
          go_wp2_with fail
          go_meet
          exact ⟨b8, b9, st8, lp8, a8, c8, b8x, d8, st9, lp9, a9, c9, b9x, d9, rfl, rfl, HFIN⟩
      · refine ⟨{ dst := some 8, op := Op.alloc 41, type := 0, pos := _, after := #[], guard := none }, rfl, fun K' hK => ?_⟩
        go_simp
        obtain ⟨y11, hy11⟩ : ∃ q, q = y1.alloc (.cells #[.slice none 0 0, .slice none 0 0] 41) := ⟨_, rfl⟩
        rw [← hy11]
        obtain ⟨b8, hb8⟩ : ∃ q, q = y1.heap.size := ⟨_, rfl⟩
        have hb : Below y1.heap.size y1 y11 := by rw [hy11]; exact box_below _ _
        have xb8_y11 : y11.heap[b8]? = some (.cells #[.slice none 0 0, .slice none 0 0] 41) := by rw [hy11, hb8]; exact Go.Deep.blk_alloc_new _ _
        have hB_y11 := hB_y1.trans (hb.mono hB_y1.size)
        have hl8 : z.heap.size ≤ b8 := by rw [hb8]; exact hB_y1.size
        have xk8_y11 := hid (And.intro (xk8_y1.out.1.below hb) (xk8_y1.out.2.below hb))
        rw [← hb8]
        clear hb hb8 hy11
        refine hK.out _ _ (fun _ => HS.out _ hB_y11) (fun _ => ?_)
        clear hK K'
        (try simp only [Act.put, List.setIfInBounds_toArray, List.set_cons_zero, List.set_cons_succ])
        clear xk8_y1 hB_y1
        refine G_alt2 (l := [3, 5]) (by kernel_rfl) (by decide) ?_
        intro i hi
        have hi2 : i = 3 ∨ i = 5 := by simpa using hi
        clear hi
        rcases hi2 with rfl | rfl
        · refine ⟨{ dst := some 23, op := Op.call { callee := Callee.value (Operand.func 45), args := #[Operand.tmp 22], argTypes := #[41] }, type := 41, pos := _, after := #[{ on := 2, ground := Ground.data }, { on := 1, ground := Ground.chain }], guard := none }, rfl, fun K' hK => ?_⟩
          go_simp
          go_at_call 45
          refine (C9.out y11 hB_y11).mono ?_
          rintro e y12 ⟨st9, lp9, a9, c9, b9x, d9, hle9, rfl, r1, r2, hb⟩
          dsimp only
          have xk9_y12 := hid (And.intro r1 r2)
          clear r1 r2
          have hB_y12 := hB_y11.trans (hb.mono hB_y11.size)
          have xk8_y12 := hid (And.intro (xk8_y11.out.1.below hb) (xk8_y11.out.2.below hb))
          have xb8_y12 := alloc_le hb xb8_y11
          clear hb
          refine hK.out _ _ (fun _ => HS.out _ hB_y12) (fun _ => ?_)
          clear hK K'
          (try simp only [Act.put, List.setIfInBounds_toArray, List.set_cons_zero, List.set_cons_succ])
          clear xk8_y11 xb8_y11 hB_y11
          refine G_alt2 (l := [5]) (by kernel_rfl) (by decide) ?_
          intro i hi
          have hi2 : i = 5 := by simpa using hi
          clear hi
          subst hi2
          refine ⟨{ dst := some 9, op := Op.alloc 41, type := 0, pos := _, after := #[], guard := none }, rfl, fun K' hK => ?_⟩
          go_simp
          obtain ⟨y13, hy13⟩ : ∃ q, q = y12.alloc (.cells #[.slice none 0 0, .slice none 0 0] 41) := ⟨_, rfl⟩
          rw [← hy13]
          obtain ⟨b9, hb9⟩ : ∃ q, q = y12.heap.size := ⟨_, rfl⟩
          have hb : Below y12.heap.size y12 y13 := by rw [hy13]; exact box_below _ _
          have xb9_y13 : y13.heap[b9]? = some (.cells #[.slice none 0 0, .slice none 0 0] 41) := by rw [hy13, hb9]; exact Go.Deep.blk_alloc_new _ _
          have hB_y13 := hB_y12.trans (hb.mono hB_y12.size)
          have hl9 : z.heap.size ≤ b9 := by rw [hb9]; exact hB_y12.size
          have hne : b8 ≠ b9 := by have h := (Array.getElem?_eq_some_iff.1 xb8_y12).1; omega
          have xk8_y13 := hid (And.intro (xk8_y12.out.1.below hb) (xk8_y12.out.2.below hb))
          have xb8_y13 := alloc_le hb xb8_y12
          have xk9_y13 := hid (And.intro (xk9_y12.out.1.below hb) (xk9_y12.out.2.below hb))
          rw [← hb9]
          clear hb hb9 hy13
          refine hK.out _ _ (fun _ => HS.out _ hB_y13) (fun _ => ?_)
          clear hK K'
          (try simp only [Act.put, List.setIfInBounds_toArray, List.set_cons_zero, List.set_cons_succ])
          clear xk8_y12 xb8_y12 xk9_y12 hB_y12
          refine G_alt2 (l := [6]) (by kernel_rfl) (by decide) ?_
          intro i hi
          have hi2 : i = 6 := by simpa using hi
          clear hi
          subst hi2
          refine ⟨{ dst := none, op := Op.store 41 (Operand.tmp 8) (Operand.tmp 21), type := 0, pos := _, after := #[{ on := 4, ground := Ground.data }, { on := 1, ground := Ground.data }, { on := 3, ground := Ground.chain }, { on := 0, ground := Ground.phase }, { on := 1, ground := Ground.phase }, { on := 2, ground := Ground.textOnly Departure.lateStores }, { on := 3, ground := Ground.textOnly Departure.lateStoresUnsure }, { on := 4, ground := Ground.phase }, { on := 5, ground := Ground.phase }], guard := none }, rfl, fun K' hK => ?_⟩
          have d0 := cell_of_cells (i := 0) xb8_y13 rfl
          have d1 := cell_of_cells (i := 1) xb8_y13 rfl
          have e0 := fz_of xb8_y13 0
          have e1 := fz_of xb8_y13 1
          go_simp
          obtain ⟨y14, hy14⟩ : ∃ q, q = (y13.setCell ⟨b8, 0, none⟩ (.slice a8 st8 c8)).setCell ⟨b8, 1, none⟩ (.slice b8x lp8 d8) := ⟨_, rfl⟩
          rw [← hy14]
          have hbut : But b8 y13 y14 := by rw [hy14]; exact ((But.refl _ _).setCell _ _).setCell _ _
          have xb8_y14 : y14.heap[b8]? = some (.cells #[.slice a8 st8 c8, .slice b8x lp8 d8] 41) := by rw [hy14]; exact la_two_set xb8_y13 _ _
          have hB_y14 := hB_y13.trans (hbut.below hl8 hB_y13.size)
          have xb9_y14 := (hbut.block _ (Array.getElem?_eq_some_iff.1 xb9_y13).1 (by omega)).trans xb9_y13
          have xk8_y14 := hid (And.intro (xk8_y13.out.1.butz hbut xb8_y13) (xk8_y13.out.2.butz hbut xb8_y13))
          have xk9_y14 := hid (And.intro (xk9_y13.out.1.butz hbut xb8_y13) (xk9_y13.out.2.butz hbut xb8_y13))
          clear hbut hy14 d0 d1 e0 e1
          refine hK.out _ _ (fun _ => HS.out _ hB_y14) (fun _ => ?_)
          clear hK K'
          (try simp only [Act.put, List.setIfInBounds_toArray, List.set_cons_zero, List.set_cons_succ])
          clear xb8_y13 xb9_y13 xk8_y13 xk9_y13 hB_y13
          refine G_alt2 (l := [7]) (by kernel_rfl) (by decide) ?_
          intro i hi
          have hi2 : i = 7 := by simpa using hi
          clear hi
          subst hi2
          refine ⟨{ dst := none, op := Op.store 41 (Operand.tmp 9) (Operand.tmp 23), type := 0, pos := _, after := #[{ on := 5, ground := Ground.data }, { on := 3, ground := Ground.data }, { on := 6, ground := Ground.chain }, { on := 0, ground := Ground.phase }, { on := 1, ground := Ground.phase }, { on := 2, ground := Ground.phase }, { on := 3, ground := Ground.phase }, { on := 4, ground := Ground.phase }, { on := 5, ground := Ground.phase }, { on := 6, ground := Ground.phase }], guard := none }, rfl, fun K' hK => ?_⟩
          have d0 := cell_of_cells (i := 0) xb9_y14 rfl
          have d1 := cell_of_cells (i := 1) xb9_y14 rfl
          have e0 := fz_of xb9_y14 0
          have e1 := fz_of xb9_y14 1
          go_simp
          obtain ⟨y15, hy15⟩ : ∃ q, q = (y14.setCell ⟨b9, 0, none⟩ (.slice a9 st9 c9)).setCell ⟨b9, 1, none⟩ (.slice b9x lp9 d9) := ⟨_, rfl⟩
          rw [← hy15]
          have hbut : But b9 y14 y15 := by rw [hy15]; exact ((But.refl _ _).setCell _ _).setCell _ _
          have xb9_y15 : y15.heap[b9]? = some (.cells #[.slice a9 st9 c9, .slice b9x lp9 d9] 41) := by rw [hy15]; exact la_two_set xb9_y14 _ _
          have hB_y15 := hB_y14.trans (hbut.below hl9 hB_y14.size)
          have xb8_y15 := (hbut.block _ (Array.getElem?_eq_some_iff.1 xb8_y14).1 (by omega)).trans xb8_y14
          have xk8_y15 := hid (And.intro (xk8_y14.out.1.butz hbut xb9_y14) (xk8_y14.out.2.butz hbut xb9_y14))
          have xk9_y15 := hid (And.intro (xk9_y14.out.1.butz hbut xb9_y14) (xk9_y14.out.2.butz hbut xb9_y14))
          clear hbut hy15 d0 d1 e0 e1
          refine hK.out _ _ (fun _ => HS.out _ hB_y15) (fun _ => ?_)
          clear hK K'
          (try simp only [Act.put, List.setIfInBounds_toArray, List.set_cons_zero, List.set_cons_succ])
          clear xb8_y14 xb9_y14 xk8_y14 xk9_y14 hB_y14
          refine G_done (by kernel_rfl) ?_ _
          have HFIN := hid (And.intro hB_y15 (And.intro xb8_y15 (And.intro xb9_y15 (And.intro hle8 (And.intro hle9 (And.intro xk8_y15.out xk9_y15.out))))))
          clear xb8_y15 xb9_y15 xk8_y15 xk9_y15 hB_y15
          go_wp2_with fail
          go_meet
          exact ⟨b8, b9, st8, lp8, a8, c8, b8x, d8, st9, lp9, a9, c9, b9x, d9, rfl, rfl, HFIN⟩
        · refine ⟨{ dst := some 9, op := Op.alloc 41, type := 0, pos := _, after := #[], guard := none }, rfl, fun K' hK => ?_⟩
          go_simp
          obtain ⟨y16, hy16⟩ : ∃ q, q = y11.alloc (.cells #[.slice none 0 0, .slice none 0 0] 41) := ⟨_, rfl⟩
          rw [← hy16]
          obtain ⟨b9, hb9⟩ : ∃ q, q = y11.heap.size := ⟨_, rfl⟩
          have hb : Below y11.heap.size y11 y16 := by rw [hy16]; exact box_below _ _
          have xb9_y16 : y16.heap[b9]? = some (.cells #[.slice none 0 0, .slice none 0 0] 41) := by rw [hy16, hb9]; exact Go.Deep.blk_alloc_new _ _
          have hB_y16 := hB_y11.trans (hb.mono hB_y11.size)
          have hl9 : z.heap.size ≤ b9 := by rw [hb9]; exact hB_y11.size
          have hne : b8 ≠ b9 := by have h := (Array.getElem?_eq_some_iff.1 xb8_y11).1; omega
          have xk8_y16 := hid (And.intro (xk8_y11.out.1.below hb) (xk8_y11.out.2.below hb))
          have xb8_y16 := alloc_le hb xb8_y11
          rw [← hb9]
          clear hb hb9 hy16
          refine hK.out _ _ (fun _ => HS.out _ hB_y16) (fun _ => ?_)
          clear hK K'
          (try simp only [Act.put, List.setIfInBounds_toArray, List.set_cons_zero, List.set_cons_succ])
          clear xk8_y11 xb8_y11 hB_y11
          refine G_alt2 (l := [3]) (by kernel_rfl) (by decide) ?_
          intro i hi
          have hi2 : i = 3 := by simpa using hi
          clear hi
          subst hi2
          refine ⟨{ dst := some 23, op := Op.call { callee := Callee.value (Operand.func 45), args := #[Operand.tmp 22], argTypes := #[41] }, type := 41, pos := _, after := #[{ on := 2, ground := Ground.data }, { on := 1, ground := Ground.chain }], guard := none }, rfl, fun K' hK => ?_⟩
          go_simp
          go_at_call 45
          refine (C9.out y16 hB_y16).mono ?_
          rintro e y17 ⟨st9, lp9, a9, c9, b9x, d9, hle9, rfl, r1, r2, hb⟩
          dsimp only
          have xk9_y17 := hid (And.intro r1 r2)
          clear r1 r2
          have hB_y17 := hB_y16.trans (hb.mono hB_y16.size)
          have xk8_y17 := hid (And.intro (xk8_y16.out.1.below hb) (xk8_y16.out.2.below hb))
          have xb8_y17 := alloc_le hb xb8_y16
          have xb9_y17 := alloc_le hb xb9_y16
          clear hb
          refine hK.out _ _ (fun _ => HS.out _ hB_y17) (fun _ => ?_)
          clear hK K'
          (try simp only [Act.put, List.setIfInBounds_toArray, List.set_cons_zero, List.set_cons_succ])
          clear xk8_y16 xb8_y16 xb9_y16 hB_y16
          refine G_alt2 (l := [6]) (by kernel_rfl) (by decide) ?_
          intro i hi
          have hi2 : i = 6 := by simpa using hi
          clear hi
          subst hi2
          refine ⟨{ dst := none, op := Op.store 41 (Operand.tmp 8) (Operand.tmp 21), type := 0, pos := _, after := #[{ on := 4, ground := Ground.data }, { on := 1, ground := Ground.data }, { on := 3, ground := Ground.chain }, { on := 0, ground := Ground.phase }, { on := 1, ground := Ground.phase }, { on := 2, ground := Ground.textOnly Departure.lateStores }, { on := 3, ground := Ground.textOnly Departure.lateStoresUnsure }, { on := 4, ground := Ground.phase }, { on := 5, ground := Ground.phase }], guard := none }, rfl, fun K' hK => ?_⟩
          have d0 := cell_of_cells (i := 0) xb8_y17 rfl
          have d1 := cell_of_cells (i := 1) xb8_y17 rfl
          have e0 := fz_of xb8_y17 0
          have e1 := fz_of xb8_y17 1
          go_simp
          obtain ⟨y18, hy18⟩ : ∃ q, q = (y17.setCell ⟨b8, 0, none⟩ (.slice a8 st8 c8)).setCell ⟨b8, 1, none⟩ (.slice b8x lp8 d8) := ⟨_, rfl⟩
          rw [← hy18]
          have hbut : But b8 y17 y18 := by rw [hy18]; exact ((But.refl _ _).setCell _ _).setCell _ _
          have xb8_y18 : y18.heap[b8]? = some (.cells #[.slice a8 st8 c8, .slice b8x lp8 d8] 41) := by rw [hy18]; exact la_two_set xb8_y17 _ _
          have hB_y18 := hB_y17.trans (hbut.below hl8 hB_y17.size)
          have xb9_y18 := (hbut.block _ (Array.getElem?_eq_some_iff.1 xb9_y17).1 (by omega)).trans xb9_y17
          have xk8_y18 := hid (And.intro (xk8_y17.out.1.butz hbut xb8_y17) (xk8_y17.out.2.butz hbut xb8_y17))
          have xk9_y18 := hid (And.intro (xk9_y17.out.1.butz hbut xb8_y17) (xk9_y17.out.2.butz hbut xb8_y17))
          clear hbut hy18 d0 d1 e0 e1
          refine hK.out _ _ (fun _ => HS.out _ hB_y18) (fun _ => ?_)
          clear hK K'
          (try simp only [Act.put, List.setIfInBounds_toArray, List.set_cons_zero, List.set_cons_succ])
          clear xb8_y17 xb9_y17 xk8_y17 xk9_y17 hB_y17
          refine G_alt2 (l := [7]) (by kernel_rfl) (by decide) ?_
          intro i hi
          have hi2 : i = 7 := by simpa using hi
          clear hi
          subst hi2
          refine ⟨{ dst := none, op := Op.store 41 (Operand.tmp 9) (Operand.tmp 23), type := 0, pos := _, after := #[{ on := 5, ground := Ground.data }, { on := 3, ground := Ground.data }, { on := 6, ground := Ground.chain }, { on := 0, ground := Ground.phase }, { on := 1, ground := Ground.phase }, { on := 2, ground := Ground.phase }, { on := 3, ground := Ground.phase }, { on := 4, ground := Ground.phase }, { on := 5, ground := Ground.phase }, { on := 6, ground := Ground.phase }], guard := none }, rfl, fun K' hK => ?_⟩
          have d0 := cell_of_cells (i := 0) xb9_y18 rfl
          have d1 := cell_of_cells (i := 1) xb9_y18 rfl
          have e0 := fz_of xb9_y18 0
          have e1 := fz_of xb9_y18 1
          go_simp
          obtain ⟨y19, hy19⟩ : ∃ q, q = (y18.setCell ⟨b9, 0, none⟩ (.slice a9 st9 c9)).setCell ⟨b9, 1, none⟩ (.slice b9x lp9 d9) := ⟨_, rfl⟩
          rw [← hy19]
          have hbut : But b9 y18 y19 := by rw [hy19]; exact ((But.refl _ _).setCell _ _).setCell _ _
          have xb9_y19 : y19.heap[b9]? = some (.cells #[.slice a9 st9 c9, .slice b9x lp9 d9] 41) := by rw [hy19]; exact la_two_set xb9_y18 _ _
          have hB_y19 := hB_y18.trans (hbut.below hl9 hB_y18.size)
          have xb8_y19 := (hbut.block _ (Array.getElem?_eq_some_iff.1 xb8_y18).1 (by omega)).trans xb8_y18
          have xk8_y19 := hid (And.intro (xk8_y18.out.1.butz hbut xb9_y18) (xk8_y18.out.2.butz hbut xb9_y18))
          have xk9_y19 := hid (And.intro (xk9_y18.out.1.butz hbut xb9_y18) (xk9_y18.out.2.butz hbut xb9_y18))
          clear hbut hy19 d0 d1 e0 e1
          refine hK.out _ _ (fun _ => HS.out _ hB_y19) (fun _ => ?_)
          clear hK K'
          (try simp only [Act.put, List.setIfInBounds_toArray, List.set_cons_zero, List.set_cons_succ])
          clear xb8_y18 xb9_y18 xk8_y18 xk9_y18 hB_y18
          refine G_done (by kernel_rfl) ?_ _
          have HFIN := hid (And.intro hB_y19 (And.intro xb8_y19 (And.intro xb9_y19 (And.intro hle8 (And.intro hle9 (And.intro xk8_y19.out xk9_y19.out))))))
          clear xb8_y19 xb9_y19 xk8_y19 xk9_y19 hB_y19
          go_wp2_with fail
          go_meet
          exact ⟨b8, b9, st8, lp8, a8, c8, b8x, d8, st9, lp9, a9, c9, b9x, d9, rfl, rfl, HFIN⟩
      · refine ⟨{ dst := some 9, op := Op.alloc 41, type := 0, pos := _, after := #[], guard := none }, rfl, fun K' hK => ?_⟩
        go_simp
        obtain ⟨y20, hy20⟩ : ∃ q, q = y1.alloc (.cells #[.slice none 0 0, .slice none 0 0] 41) := ⟨_, rfl⟩
        rw [← hy20]
        obtain ⟨b9, hb9⟩ : ∃ q, q = y1.heap.size := ⟨_, rfl⟩
        have hb : Below y1.heap.size y1 y20 := by rw [hy20]; exact box_below _ _
        have xb9_y20 : y20.heap[b9]? = some (.cells #[.slice none 0 0, .slice none 0 0] 41) := by rw [hy20, hb9]; exact Go.Deep.blk_alloc_new _ _
        have hB_y20 := hB_y1.trans (hb.mono hB_y1.size)
        have hl9 : z.heap.size ≤ b9 := by rw [hb9]; exact hB_y1.size
        have xk8_y20 := hid (And.intro (xk8_y1.out.1.below hb) (xk8_y1.out.2.below hb))
        rw [← hb9]
        clear hb hb9 hy20
        refine hK.out _ _ (fun _ => HS.out _ hB_y20) (fun _ => ?_)
        clear hK K'
        (try simp only [Act.put, List.setIfInBounds_toArray, List.set_cons_zero, List.set_cons_succ])
        clear xk8_y1 hB_y1
        refine G_alt2 (l := [3, 4]) (by kernel_rfl) (by decide) ?_
        intro i hi
        have hi2 : i = 3 ∨ i = 4 := by simpa using hi
        clear hi
        rcases hi2 with rfl | rfl
        · refine ⟨{ dst := some 23, op := Op.call { callee := Callee.value (Operand.func 45), args := #[Operand.tmp 22], argTypes := #[41] }, type := 41, pos := _, after := #[{ on := 2, ground := Ground.data }, { on := 1, ground := Ground.chain }], guard := none }, rfl, fun K' hK => ?_⟩
          go_simp
          go_at_call 45
          refine (C9.out y20 hB_y20).mono ?_
          rintro e y21 ⟨st9, lp9, a9, c9, b9x, d9, hle9, rfl, r1, r2, hb⟩
          dsimp only
          have xk9_y21 := hid (And.intro r1 r2)
          clear r1 r2
          have hB_y21 := hB_y20.trans (hb.mono hB_y20.size)
          have xk8_y21 := hid (And.intro (xk8_y20.out.1.below hb) (xk8_y20.out.2.below hb))
          have xb9_y21 := alloc_le hb xb9_y20
          clear hb
          refine hK.out _ _ (fun _ => HS.out _ hB_y21) (fun _ => ?_)
          clear hK K'
          (try simp only [Act.put, List.setIfInBounds_toArray, List.set_cons_zero, List.set_cons_succ])
          clear xk8_y20 xb9_y20 hB_y20
          refine G_alt2 (l := [4]) (by kernel_rfl) (by decide) ?_
          intro i hi
          have hi2 : i = 4 := by simpa using hi
          clear hi
          subst hi2
          refine ⟨{ dst := some 8, op := Op.alloc 41, type := 0, pos := _, after := #[], guard := none }, rfl, fun K' hK => ?_⟩
          go_simp
          obtain ⟨y22, hy22⟩ : ∃ q, q = y21.alloc (.cells #[.slice none 0 0, .slice none 0 0] 41) := ⟨_, rfl⟩
          rw [← hy22]
          obtain ⟨b8, hb8⟩ : ∃ q, q = y21.heap.size := ⟨_, rfl⟩
          have hb : Below y21.heap.size y21 y22 := by rw [hy22]; exact box_below _ _
          have xb8_y22 : y22.heap[b8]? = some (.cells #[.slice none 0 0, .slice none 0 0] 41) := by rw [hy22, hb8]; exact Go.Deep.blk_alloc_new _ _
          have hB_y22 := hB_y21.trans (hb.mono hB_y21.size)
          have hl8 : z.heap.size ≤ b8 := by rw [hb8]; exact hB_y21.size
          have hne : b8 ≠ b9 := by have h := (Array.getElem?_eq_some_iff.1 xb9_y21).1; omega
          have xk8_y22 := hid (And.intro (xk8_y21.out.1.below hb) (xk8_y21.out.2.below hb))
          have xb9_y22 := alloc_le hb xb9_y21
          have xk9_y22 := hid (And.intro (xk9_y21.out.1.below hb) (xk9_y21.out.2.below hb))
          rw [← hb8]
          clear hb hb8 hy22
          refine hK.out _ _ (fun _ => HS.out _ hB_y22) (fun _ => ?_)
          clear hK K'
          (try simp only [Act.put, List.setIfInBounds_toArray, List.set_cons_zero, List.set_cons_succ])
          clear xk8_y21 xb9_y21 xk9_y21 hB_y21
          refine G_alt2 (l := [6]) (by kernel_rfl) (by decide) ?_
          intro i hi
          have hi2 : i = 6 := by simpa using hi
          clear hi
          subst hi2
          refine ⟨{ dst := none, op := Op.store 41 (Operand.tmp 8) (Operand.tmp 21), type := 0, pos := _, after := #[{ on := 4, ground := Ground.data }, { on := 1, ground := Ground.data }, { on := 3, ground := Ground.chain }, { on := 0, ground := Ground.phase }, { on := 1, ground := Ground.phase }, { on := 2, ground := Ground.textOnly Departure.lateStores }, { on := 3, ground := Ground.textOnly Departure.lateStoresUnsure }, { on := 4, ground := Ground.phase }, { on := 5, ground := Ground.phase }], guard := none }, rfl, fun K' hK => ?_⟩
          have d0 := cell_of_cells (i := 0) xb8_y22 rfl
          have d1 := cell_of_cells (i := 1) xb8_y22 rfl
          have e0 := fz_of xb8_y22 0
          have e1 := fz_of xb8_y22 1
          go_simp
          obtain ⟨y23, hy23⟩ : ∃ q, q = (y22.setCell ⟨b8, 0, none⟩ (.slice a8 st8 c8)).setCell ⟨b8, 1, none⟩ (.slice b8x lp8 d8) := ⟨_, rfl⟩
          rw [← hy23]
          have hbut : But b8 y22 y23 := by rw [hy23]; exact ((But.refl _ _).setCell _ _).setCell _ _
          have xb8_y23 : y23.heap[b8]? = some (.cells #[.slice a8 st8 c8, .slice b8x lp8 d8] 41) := by rw [hy23]; exact la_two_set xb8_y22 _ _
          have hB_y23 := hB_y22.trans (hbut.below hl8 hB_y22.size)
          have xb9_y23 := (hbut.block _ (Array.getElem?_eq_some_iff.1 xb9_y22).1 (by omega)).trans xb9_y22
          have xk8_y23 := hid (And.intro (xk8_y22.out.1.butz hbut xb8_y22) (xk8_y22.out.2.butz hbut xb8_y22))
          have xk9_y23 := hid (And.intro (xk9_y22.out.1.butz hbut xb8_y22) (xk9_y22.out.2.butz hbut xb8_y22))
          clear hbut hy23 d0 d1 e0 e1
          refine hK.out _ _ (fun _ => HS.out _ hB_y23) (fun _ => ?_)
          clear hK K'
          (try simp only [Act.put, List.setIfInBounds_toArray, List.set_cons_zero, List.set_cons_succ])
          clear xb8_y22 xb9_y22 xk8_y22 xk9_y22 hB_y22
          refine G_alt2 (l := [7]) (by kernel_rfl) (by decide) ?_
          intro i hi
          have hi2 : i = 7 := by simpa using hi
          clear hi
          subst hi2
          refine ⟨{ dst := none, op := Op.store 41 (Operand.tmp 9) (Operand.tmp 23), type := 0, pos := _, after := #[{ on := 5, ground := Ground.data }, { on := 3, ground := Ground.data }, { on := 6, ground := Ground.chain }, { on := 0, ground := Ground.phase }, { on := 1, ground := Ground.phase }, { on := 2, ground := Ground.phase }, { on := 3, ground := Ground.phase }, { on := 4, ground := Ground.phase }, { on := 5, ground := Ground.phase }, { on := 6, ground := Ground.phase }], guard := none }, rfl, fun K' hK => ?_⟩
          have d0 := cell_of_cells (i := 0) xb9_y23 rfl
          have d1 := cell_of_cells (i := 1) xb9_y23 rfl
          have e0 := fz_of xb9_y23 0
          have e1 := fz_of xb9_y23 1
          go_simp
          obtain ⟨y24, hy24⟩ : ∃ q, q = (y23.setCell ⟨b9, 0, none⟩ (.slice a9 st9 c9)).setCell ⟨b9, 1, none⟩ (.slice b9x lp9 d9) := ⟨_, rfl⟩
          rw [← hy24]
          have hbut : But b9 y23 y24 := by rw [hy24]; exact ((But.refl _ _).setCell _ _).setCell _ _
          have xb9_y24 : y24.heap[b9]? = some (.cells #[.slice a9 st9 c9, .slice b9x lp9 d9] 41) := by rw [hy24]; exact la_two_set xb9_y23 _ _
          have hB_y24 := hB_y23.trans (hbut.below hl9 hB_y23.size)
          have xb8_y24 := (hbut.block _ (Array.getElem?_eq_some_iff.1 xb8_y23).1 (by omega)).trans xb8_y23
          have xk8_y24 := hid (And.intro (xk8_y23.out.1.butz hbut xb9_y23) (xk8_y23.out.2.butz hbut xb9_y23))
          have xk9_y24 := hid (And.intro (xk9_y23.out.1.butz hbut xb9_y23) (xk9_y23.out.2.butz hbut xb9_y23))
          clear hbut hy24 d0 d1 e0 e1
          refine hK.out _ _ (fun _ => HS.out _ hB_y24) (fun _ => ?_)
          clear hK K'
          (try simp only [Act.put, List.setIfInBounds_toArray, List.set_cons_zero, List.set_cons_succ])
          clear xb8_y23 xb9_y23 xk8_y23 xk9_y23 hB_y23
          refine G_done (by kernel_rfl) ?_ _
          have HFIN := hid (And.intro hB_y24 (And.intro xb8_y24 (And.intro xb9_y24 (And.intro hle8 (And.intro hle9 (And.intro xk8_y24.out xk9_y24.out))))))
          clear xb8_y24 xb9_y24 xk8_y24 xk9_y24 hB_y24
          go_wp2_with fail
          go_meet
          exact ⟨b8, b9, st8, lp8, a8, c8, b8x, d8, st9, lp9, a9, c9, b9x, d9, rfl, rfl, HFIN⟩
        · refine ⟨{ dst := some 8, op := Op.alloc 41, type := 0, pos := _, after := #[], guard := none }, rfl, fun K' hK => ?_⟩
          go_simp
          obtain ⟨y25, hy25⟩ : ∃ q, q = y20.alloc (.cells #[.slice none 0 0, .slice none 0 0] 41) := ⟨_, rfl⟩
          rw [← hy25]
          obtain ⟨b8, hb8⟩ : ∃ q, q = y20.heap.size := ⟨_, rfl⟩
          have hb : Below y20.heap.size y20 y25 := by rw [hy25]; exact box_below _ _
          have xb8_y25 : y25.heap[b8]? = some (.cells #[.slice none 0 0, .slice none 0 0] 41) := by rw [hy25, hb8]; exact Go.Deep.blk_alloc_new _ _
          have hB_y25 := hB_y20.trans (hb.mono hB_y20.size)
          have hl8 : z.heap.size ≤ b8 := by rw [hb8]; exact hB_y20.size
          have hne : b8 ≠ b9 := by have h := (Array.getElem?_eq_some_iff.1 xb9_y20).1; omega
          have xk8_y25 := hid (And.intro (xk8_y20.out.1.below hb) (xk8_y20.out.2.below hb))
          have xb9_y25 := alloc_le hb xb9_y20
          rw [← hb8]
          clear hb hb8 hy25
          refine hK.out _ _ (fun _ => HS.out _ hB_y25) (fun _ => ?_)
          clear hK K'
          (try simp only [Act.put, List.setIfInBounds_toArray, List.set_cons_zero, List.set_cons_succ])
          clear xk8_y20 xb9_y20 hB_y20
          refine G_alt2 (l := [3]) (by kernel_rfl) (by decide) ?_
          intro i hi
          have hi2 : i = 3 := by simpa using hi
          clear hi
          subst hi2
          refine ⟨{ dst := some 23, op := Op.call { callee := Callee.value (Operand.func 45), args := #[Operand.tmp 22], argTypes := #[41] }, type := 41, pos := _, after := #[{ on := 2, ground := Ground.data }, { on := 1, ground := Ground.chain }], guard := none }, rfl, fun K' hK => ?_⟩
          go_simp
          go_at_call 45
          refine (C9.out y25 hB_y25).mono ?_
          rintro e y26 ⟨st9, lp9, a9, c9, b9x, d9, hle9, rfl, r1, r2, hb⟩
          dsimp only
          have xk9_y26 := hid (And.intro r1 r2)
          clear r1 r2
          have hB_y26 := hB_y25.trans (hb.mono hB_y25.size)
          have xk8_y26 := hid (And.intro (xk8_y25.out.1.below hb) (xk8_y25.out.2.below hb))
          have xb9_y26 := alloc_le hb xb9_y25
          have xb8_y26 := alloc_le hb xb8_y25
          clear hb
          refine hK.out _ _ (fun _ => HS.out _ hB_y26) (fun _ => ?_)
          clear hK K'
          (try simp only [Act.put, List.setIfInBounds_toArray, List.set_cons_zero, List.set_cons_succ])
          clear xk8_y25 xb9_y25 xb8_y25 hB_y25
          refine G_alt2 (l := [6]) (by kernel_rfl) (by decide) ?_
          intro i hi
          have hi2 : i = 6 := by simpa using hi
          clear hi
          subst hi2
          refine ⟨{ dst := none, op := Op.store 41 (Operand.tmp 8) (Operand.tmp 21), type := 0, pos := _, after := #[{ on := 4, ground := Ground.data }, { on := 1, ground := Ground.data }, { on := 3, ground := Ground.chain }, { on := 0, ground := Ground.phase }, { on := 1, ground := Ground.phase }, { on := 2, ground := Ground.textOnly Departure.lateStores }, { on := 3, ground := Ground.textOnly Departure.lateStoresUnsure }, { on := 4, ground := Ground.phase }, { on := 5, ground := Ground.phase }], guard := none }, rfl, fun K' hK => ?_⟩
          have d0 := cell_of_cells (i := 0) xb8_y26 rfl
          have d1 := cell_of_cells (i := 1) xb8_y26 rfl
          have e0 := fz_of xb8_y26 0
          have e1 := fz_of xb8_y26 1
          go_simp
          obtain ⟨y27, hy27⟩ : ∃ q, q = (y26.setCell ⟨b8, 0, none⟩ (.slice a8 st8 c8)).setCell ⟨b8, 1, none⟩ (.slice b8x lp8 d8) := ⟨_, rfl⟩
          rw [← hy27]
          have hbut : But b8 y26 y27 := by rw [hy27]; exact ((But.refl _ _).setCell _ _).setCell _ _
          have xb8_y27 : y27.heap[b8]? = some (.cells #[.slice a8 st8 c8, .slice b8x lp8 d8] 41) := by rw [hy27]; exact la_two_set xb8_y26 _ _
          have hB_y27 := hB_y26.trans (hbut.below hl8 hB_y26.size)
          have xb9_y27 := (hbut.block _ (Array.getElem?_eq_some_iff.1 xb9_y26).1 (by omega)).trans xb9_y26
          have xk8_y27 := hid (And.intro (xk8_y26.out.1.butz hbut xb8_y26) (xk8_y26.out.2.butz hbut xb8_y26))
          have xk9_y27 := hid (And.intro (xk9_y26.out.1.butz hbut xb8_y26) (xk9_y26.out.2.butz hbut xb8_y26))
          clear hbut hy27 d0 d1 e0 e1
          refine hK.out _ _ (fun _ => HS.out _ hB_y27) (fun _ => ?_)
          clear hK K'
          (try simp only [Act.put, List.setIfInBounds_toArray, List.set_cons_zero, List.set_cons_succ])
          clear xb8_y26 xb9_y26 xk8_y26 xk9_y26 hB_y26
          refine G_alt2 (l := [7]) (by kernel_rfl) (by decide) ?_
          intro i hi
          have hi2 : i = 7 := by simpa using hi
          clear hi
          subst hi2
          refine ⟨{ dst := none, op := Op.store 41 (Operand.tmp 9) (Operand.tmp 23), type := 0, pos := _, after := #[{ on := 5, ground := Ground.data }, { on := 3, ground := Ground.data }, { on := 6, ground := Ground.chain }, { on := 0, ground := Ground.phase }, { on := 1, ground := Ground.phase }, { on := 2, ground := Ground.phase }, { on := 3, ground := Ground.phase }, { on := 4, ground := Ground.phase }, { on := 5, ground := Ground.phase }, { on := 6, ground := Ground.phase }], guard := none }, rfl, fun K' hK => ?_⟩
          have d0 := cell_of_cells (i := 0) xb9_y27 rfl
          have d1 := cell_of_cells (i := 1) xb9_y27 rfl
          have e0 := fz_of xb9_y27 0
          have e1 := fz_of xb9_y27 1
          go_simp
          obtain ⟨y28, hy28⟩ : ∃ q, q = (y27.setCell ⟨b9, 0, none⟩ (.slice a9 st9 c9)).setCell ⟨b9, 1, none⟩ (.slice b9x lp9 d9) := ⟨_, rfl⟩
          rw [← hy28]
          have hbut : But b9 y27 y28 := by rw [hy28]; exact ((But.refl _ _).setCell _ _).setCell _ _
          have xb9_y28 : y28.heap[b9]? = some (.cells #[.slice a9 st9 c9, .slice b9x lp9 d9] 41) := by rw [hy28]; exact la_two_set xb9_y27 _ _
          have hB_y28 := hB_y27.trans (hbut.below hl9 hB_y27.size)
          have xb8_y28 := (hbut.block _ (Array.getElem?_eq_some_iff.1 xb8_y27).1 (by omega)).trans xb8_y27
          have xk8_y28 := hid (And.intro (xk8_y27.out.1.butz hbut xb9_y27) (xk8_y27.out.2.butz hbut xb9_y27))
          have xk9_y28 := hid (And.intro (xk9_y27.out.1.butz hbut xb9_y27) (xk9_y27.out.2.butz hbut xb9_y27))
          clear hbut hy28 d0 d1 e0 e1
          refine hK.out _ _ (fun _ => HS.out _ hB_y28) (fun _ => ?_)
          clear hK K'
          (try simp only [Act.put, List.setIfInBounds_toArray, List.set_cons_zero, List.set_cons_succ])
          clear xb8_y27 xb9_y27 xk8_y27 xk9_y27 hB_y27
          refine G_done (by kernel_rfl) ?_ _
          have HFIN := hid (And.intro hB_y28 (And.intro xb8_y28 (And.intro xb9_y28 (And.intro hle8 (And.intro hle9 (And.intro xk8_y28.out xk9_y28.out))))))
          clear xb8_y28 xb9_y28 xk8_y28 xk9_y28 hB_y28
          go_wp2_with fail
          go_meet
          exact ⟨b8, b9, st8, lp8, a8, c8, b8x, d8, st9, lp9, a9, c9, b9x, d9, rfl, rfl, HFIN⟩
    · refine ⟨{ dst := some 8, op := Op.alloc 41, type := 0, pos := _, after := #[], guard := none }, rfl, fun K' hK => ?_⟩
      go_simp
      obtain ⟨y29, hy29⟩ : ∃ q, q = y0.alloc (.cells #[.slice none 0 0, .slice none 0 0] 41) := ⟨_, rfl⟩
      rw [← hy29]
      obtain ⟨b8, hb8⟩ : ∃ q, q = y0.heap.size := ⟨_, rfl⟩
      have hb : Below y0.heap.size y0 y29 := by rw [hy29]; exact box_below _ _
      have xb8_y29 : y29.heap[b8]? = some (.cells #[.slice none 0 0, .slice none 0 0] 41) := by rw [hy29, hb8]; exact Go.Deep.blk_alloc_new _ _
      have hB_y29 := hB_y0.trans (hb.mono hB_y0.size)
      have hl8 : z.heap.size ≤ b8 := by rw [hb8]; exact hB_y0.size
      rw [← hb8]
      clear hb hb8 hy29
      refine hK.out _ _ (fun _ => HS.out _ hB_y29) (fun _ => ?_)
      clear hK K'
      (try simp only [Act.put, List.setIfInBounds_toArray, List.set_cons_zero, List.set_cons_succ])
      clear hB_y0
      refine G_alt2 (l := [1, 5]) (by kernel_rfl) (by decide) ?_
      intro i hi
      have hi2 : i = 1 ∨ i = 5 := by simpa using hi
      clear hi
      rcases hi2 with rfl | rfl
      · refine ⟨{ dst := some 21, op := Op.call { callee := Callee.value (Operand.func 45), args := #[Operand.tmp 20], argTypes := #[41] }, type := 41, pos := _, after := #[{ on := 0, ground := Ground.data }], guard := none }, rfl, fun K' hK => ?_⟩
        go_simp
        go_at_call 45
        refine (C8.out y29 hB_y29).mono ?_
        rintro e y30 ⟨st8, lp8, a8, c8, b8x, d8, hle8, rfl, r1, r2, hb⟩
        dsimp only
        have xk8_y30 := hid (And.intro r1 r2)
        clear r1 r2
        have hB_y30 := hB_y29.trans (hb.mono hB_y29.size)
        have xb8_y30 := alloc_le hb xb8_y29
        clear hb
        refine hK.out _ _ (fun _ => HS.out _ hB_y30) (fun _ => ?_)
        clear hK K'
        (try simp only [Act.put, List.setIfInBounds_toArray, List.set_cons_zero, List.set_cons_succ])
        clear xb8_y29 hB_y29
        refine G_alt2 (l := [3, 5]) (by kernel_rfl) (by decide) ?_
        intro i hi
        have hi2 : i = 3 ∨ i = 5 := by simpa using hi
        clear hi
        rcases hi2 with rfl | rfl
        · refine ⟨{ dst := some 23, op := Op.call { callee := Callee.value (Operand.func 45), args := #[Operand.tmp 22], argTypes := #[41] }, type := 41, pos := _, after := #[{ on := 2, ground := Ground.data }, { on := 1, ground := Ground.chain }], guard := none }, rfl, fun K' hK => ?_⟩
          go_simp
          go_at_call 45
          refine (C9.out y30 hB_y30).mono ?_
          rintro e y31 ⟨st9, lp9, a9, c9, b9x, d9, hle9, rfl, r1, r2, hb⟩
          dsimp only
          have xk9_y31 := hid (And.intro r1 r2)
          clear r1 r2
          have hB_y31 := hB_y30.trans (hb.mono hB_y30.size)
          have xb8_y31 := alloc_le hb xb8_y30
          have xk8_y31 := hid (And.intro (xk8_y30.out.1.below hb) (xk8_y30.out.2.below hb))
          clear hb
          refine hK.out _ _ (fun _ => HS.out _ hB_y31) (fun _ => ?_)
          clear hK K'
          (try simp only [Act.put, List.setIfInBounds_toArray, List.set_cons_zero, List.set_cons_succ])
          clear xb8_y30 xk8_y30 hB_y30
          refine G_alt2 (l := [5]) (by kernel_rfl) (by decide) ?_
          intro i hi
          have hi2 : i = 5 := by simpa using hi
          clear hi
          subst hi2
          refine ⟨{ dst := some 9, op := Op.alloc 41, type := 0, pos := _, after := #[], guard := none }, rfl, fun K' hK => ?_⟩
          go_simp
          obtain ⟨y32, hy32⟩ : ∃ q, q = y31.alloc (.cells #[.slice none 0 0, .slice none 0 0] 41) := ⟨_, rfl⟩
          rw [← hy32]
          obtain ⟨b9, hb9⟩ : ∃ q, q = y31.heap.size := ⟨_, rfl⟩
          have hb : Below y31.heap.size y31 y32 := by rw [hy32]; exact box_below _ _
          have xb9_y32 : y32.heap[b9]? = some (.cells #[.slice none 0 0, .slice none 0 0] 41) := by rw [hy32, hb9]; exact Go.Deep.blk_alloc_new _ _
          have hB_y32 := hB_y31.trans (hb.mono hB_y31.size)
          have hl9 : z.heap.size ≤ b9 := by rw [hb9]; exact hB_y31.size
          have hne : b8 ≠ b9 := by have h := (Array.getElem?_eq_some_iff.1 xb8_y31).1; omega
          have xb8_y32 := alloc_le hb xb8_y31
          have xk8_y32 := hid (And.intro (xk8_y31.out.1.below hb) (xk8_y31.out.2.below hb))
          have xk9_y32 := hid (And.intro (xk9_y31.out.1.below hb) (xk9_y31.out.2.below hb))
          rw [← hb9]
          clear hb hb9 hy32
          refine hK.out _ _ (fun _ => HS.out _ hB_y32) (fun _ => ?_)
          clear hK K'
          (try simp only [Act.put, List.setIfInBounds_toArray, List.set_cons_zero, List.set_cons_succ])
          clear xb8_y31 xk8_y31 xk9_y31 hB_y31
          refine G_alt2 (l := [6]) (by kernel_rfl) (by decide) ?_
          intro i hi
          have hi2 : i = 6 := by simpa using hi
          clear hi
          subst hi2
          refine ⟨{ dst := none, op := Op.store 41 (Operand.tmp 8) (Operand.tmp 21), type := 0, pos := _, after := #[{ on := 4, ground := Ground.data }, { on := 1, ground := Ground.data }, { on := 3, ground := Ground.chain }, { on := 0, ground := Ground.phase }, { on := 1, ground := Ground.phase }, { on := 2, ground := Ground.textOnly Departure.lateStores }, { on := 3, ground := Ground.textOnly Departure.lateStoresUnsure }, { on := 4, ground := Ground.phase }, { on := 5, ground := Ground.phase }], guard := none }, rfl, fun K' hK => ?_⟩
          have d0 := cell_of_cells (i := 0) xb8_y32 rfl
          have d1 := cell_of_cells (i := 1) xb8_y32 rfl
          have e0 := fz_of xb8_y32 0
          have e1 := fz_of xb8_y32 1
          go_simp
          obtain ⟨y33, hy33⟩ : ∃ q, q = (y32.setCell ⟨b8, 0, none⟩ (.slice a8 st8 c8)).setCell ⟨b8, 1, none⟩ (.slice b8x lp8 d8) := ⟨_, rfl⟩
          rw [← hy33]
          have hbut : But b8 y32 y33 := by rw [hy33]; exact ((But.refl _ _).setCell _ _).setCell _ _
          have xb8_y33 : y33.heap[b8]? = some (.cells #[.slice a8 st8 c8, .slice b8x lp8 d8] 41) := by rw [hy33]; exact la_two_set xb8_y32 _ _
          have hB_y33 := hB_y32.trans (hbut.below hl8 hB_y32.size)
          have xb9_y33 := (hbut.block _ (Array.getElem?_eq_some_iff.1 xb9_y32).1 (by omega)).trans xb9_y32
          have xk8_y33 := hid (And.intro (xk8_y32.out.1.butz hbut xb8_y32) (xk8_y32.out.2.butz hbut xb8_y32))
          have xk9_y33 := hid (And.intro (xk9_y32.out.1.butz hbut xb8_y32) (xk9_y32.out.2.butz hbut xb8_y32))
          clear hbut hy33 d0 d1 e0 e1
          refine hK.out _ _ (fun _ => HS.out _ hB_y33) (fun _ => ?_)
          clear hK K'
          (try simp only [Act.put, List.setIfInBounds_toArray, List.set_cons_zero, List.set_cons_succ])
          clear xb8_y32 xb9_y32 xk8_y32 xk9_y32 hB_y32
          refine G_alt2 (l := [7]) (by kernel_rfl) (by decide) ?_
          intro i hi
          have hi2 : i = 7 := by simpa using hi
          clear hi
          subst hi2
          refine ⟨{ dst := none, op := Op.store 41 (Operand.tmp 9) (Operand.tmp 23), type := 0, pos := _, after := #[{ on := 5, ground := Ground.data }, { on := 3, ground := Ground.data }, { on := 6, ground := Ground.chain }, { on := 0, ground := Ground.phase }, { on := 1, ground := Ground.phase }, { on := 2, ground := Ground.phase }, { on := 3, ground := Ground.phase }, { on := 4, ground := Ground.phase }, { on := 5, ground := Ground.phase }, { on := 6, ground := Ground.phase }], guard := none }, rfl, fun K' hK => ?_⟩
          have d0 := cell_of_cells (i := 0) xb9_y33 rfl
          have d1 := cell_of_cells (i := 1) xb9_y33 rfl
          have e0 := fz_of xb9_y33 0
          have e1 := fz_of xb9_y33 1
          go_simp
          obtain ⟨y34, hy34⟩ : ∃ q, q = (y33.setCell ⟨b9, 0, none⟩ (.slice a9 st9 c9)).setCell ⟨b9, 1, none⟩ (.slice b9x lp9 d9) := ⟨_, rfl⟩
          rw [← hy34]
          have hbut : But b9 y33 y34 := by rw [hy34]; exact ((But.refl _ _).setCell _ _).setCell _ _
          have xb9_y34 : y34.heap[b9]? = some (.cells #[.slice a9 st9 c9, .slice b9x lp9 d9] 41) := by rw [hy34]; exact la_two_set xb9_y33 _ _
          have hB_y34 := hB_y33.trans (hbut.below hl9 hB_y33.size)
          have xb8_y34 := (hbut.block _ (Array.getElem?_eq_some_iff.1 xb8_y33).1 (by omega)).trans xb8_y33
          have xk8_y34 := hid (And.intro (xk8_y33.out.1.butz hbut xb9_y33) (xk8_y33.out.2.butz hbut xb9_y33))
          have xk9_y34 := hid (And.intro (xk9_y33.out.1.butz hbut xb9_y33) (xk9_y33.out.2.butz hbut xb9_y33))
          clear hbut hy34 d0 d1 e0 e1
          refine hK.out _ _ (fun _ => HS.out _ hB_y34) (fun _ => ?_)
          clear hK K'
          (try simp only [Act.put, List.setIfInBounds_toArray, List.set_cons_zero, List.set_cons_succ])
          clear xb8_y33 xb9_y33 xk8_y33 xk9_y33 hB_y33
          refine G_done (by kernel_rfl) ?_ _
          have HFIN := hid (And.intro hB_y34 (And.intro xb8_y34 (And.intro xb9_y34 (And.intro hle8 (And.intro hle9 (And.intro xk8_y34.out xk9_y34.out))))))
          clear xb8_y34 xb9_y34 xk8_y34 xk9_y34 hB_y34
          go_wp2_with fail
          go_meet
          exact ⟨b8, b9, st8, lp8, a8, c8, b8x, d8, st9, lp9, a9, c9, b9x, d9, rfl, rfl, HFIN⟩
        · refine ⟨{ dst := some 9, op := Op.alloc 41, type := 0, pos := _, after := #[], guard := none }, rfl, fun K' hK => ?_⟩
          go_simp
          obtain ⟨y35, hy35⟩ : ∃ q, q = y30.alloc (.cells #[.slice none 0 0, .slice none 0 0] 41) := ⟨_, rfl⟩
          rw [← hy35]
          obtain ⟨b9, hb9⟩ : ∃ q, q = y30.heap.size := ⟨_, rfl⟩
          have hb : Below y30.heap.size y30 y35 := by rw [hy35]; exact box_below _ _
          have xb9_y35 : y35.heap[b9]? = some (.cells #[.slice none 0 0, .slice none 0 0] 41) := by rw [hy35, hb9]; exact Go.Deep.blk_alloc_new _ _
          have hB_y35 := hB_y30.trans (hb.mono hB_y30.size)
          have hl9 : z.heap.size ≤ b9 := by rw [hb9]; exact hB_y30.size
          have hne : b8 ≠ b9 := by have h := (Array.getElem?_eq_some_iff.1 xb8_y30).1; omega
          have xb8_y35 := alloc_le hb xb8_y30
          have xk8_y35 := hid (And.intro (xk8_y30.out.1.below hb) (xk8_y30.out.2.below hb))
          rw [← hb9]
          clear hb hb9 hy35
          refine hK.out _ _ (fun _ => HS.out _ hB_y35) (fun _ => ?_)
          clear hK K'
          (try simp only [Act.put, List.setIfInBounds_toArray, List.set_cons_zero, List.set_cons_succ])
          clear xb8_y30 xk8_y30 hB_y30
          refine G_alt2 (l := [3]) (by kernel_rfl) (by decide) ?_
          intro i hi
          have hi2 : i = 3 := by simpa using hi
          clear hi
          subst hi2
          refine ⟨{ dst := some 23, op := Op.call { callee := Callee.value (Operand.func 45), args := #[Operand.tmp 22], argTypes := #[41] }, type := 41, pos := _, after := #[{ on := 2, ground := Ground.data }, { on := 1, ground := Ground.chain }], guard := none }, rfl, fun K' hK => ?_⟩
          go_simp
          go_at_call 45
          refine (C9.out y35 hB_y35).mono ?_
          rintro e y36 ⟨st9, lp9, a9, c9, b9x, d9, hle9, rfl, r1, r2, hb⟩
          dsimp only
          have xk9_y36 := hid (And.intro r1 r2)
          clear r1 r2
          have hB_y36 := hB_y35.trans (hb.mono hB_y35.size)
          have xb8_y36 := alloc_le hb xb8_y35
          have xk8_y36 := hid (And.intro (xk8_y35.out.1.below hb) (xk8_y35.out.2.below hb))
          have xb9_y36 := alloc_le hb xb9_y35
          clear hb
          refine hK.out _ _ (fun _ => HS.out _ hB_y36) (fun _ => ?_)
          clear hK K'
          (try simp only [Act.put, List.setIfInBounds_toArray, List.set_cons_zero, List.set_cons_succ])
          clear xb8_y35 xk8_y35 xb9_y35 hB_y35
          refine G_alt2 (l := [6]) (by kernel_rfl) (by decide) ?_
          intro i hi
          have hi2 : i = 6 := by simpa using hi
          clear hi
          subst hi2
          refine ⟨{ dst := none, op := Op.store 41 (Operand.tmp 8) (Operand.tmp 21), type := 0, pos := _, after := #[{ on := 4, ground := Ground.data }, { on := 1, ground := Ground.data }, { on := 3, ground := Ground.chain }, { on := 0, ground := Ground.phase }, { on := 1, ground := Ground.phase }, { on := 2, ground := Ground.textOnly Departure.lateStores }, { on := 3, ground := Ground.textOnly Departure.lateStoresUnsure }, { on := 4, ground := Ground.phase }, { on := 5, ground := Ground.phase }], guard := none }, rfl, fun K' hK => ?_⟩
          have d0 := cell_of_cells (i := 0) xb8_y36 rfl
          have d1 := cell_of_cells (i := 1) xb8_y36 rfl
          have e0 := fz_of xb8_y36 0
          have e1 := fz_of xb8_y36 1
          go_simp
          obtain ⟨y37, hy37⟩ : ∃ q, q = (y36.setCell ⟨b8, 0, none⟩ (.slice a8 st8 c8)).setCell ⟨b8, 1, none⟩ (.slice b8x lp8 d8) := ⟨_, rfl⟩
          rw [← hy37]
          have hbut : But b8 y36 y37 := by rw [hy37]; exact ((But.refl _ _).setCell _ _).setCell _ _
          have xb8_y37 : y37.heap[b8]? = some (.cells #[.slice a8 st8 c8, .slice b8x lp8 d8] 41) := by rw [hy37]; exact la_two_set xb8_y36 _ _
          have hB_y37 := hB_y36.trans (hbut.below hl8 hB_y36.size)
          have xb9_y37 := (hbut.block _ (Array.getElem?_eq_some_iff.1 xb9_y36).1 (by omega)).trans xb9_y36
          have xk8_y37 := hid (And.intro (xk8_y36.out.1.butz hbut xb8_y36) (xk8_y36.out.2.butz hbut xb8_y36))
          have xk9_y37 := hid (And.intro (xk9_y36.out.1.butz hbut xb8_y36) (xk9_y36.out.2.butz hbut xb8_y36))
          clear hbut hy37 d0 d1 e0 e1
          refine hK.out _ _ (fun _ => HS.out _ hB_y37) (fun _ => ?_)
          clear hK K'
          (try simp only [Act.put, List.setIfInBounds_toArray, List.set_cons_zero, List.set_cons_succ])
          clear xb8_y36 xb9_y36 xk8_y36 xk9_y36 hB_y36
          refine G_alt2 (l := [7]) (by kernel_rfl) (by decide) ?_
          intro i hi
          have hi2 : i = 7 := by simpa using hi
          clear hi
          subst hi2
          refine ⟨{ dst := none, op := Op.store 41 (Operand.tmp 9) (Operand.tmp 23), type := 0, pos := _, after := #[{ on := 5, ground := Ground.data }, { on := 3, ground := Ground.data }, { on := 6, ground := Ground.chain }, { on := 0, ground := Ground.phase }, { on := 1, ground := Ground.phase }, { on := 2, ground := Ground.phase }, { on := 3, ground := Ground.phase }, { on := 4, ground := Ground.phase }, { on := 5, ground := Ground.phase }, { on := 6, ground := Ground.phase }], guard := none }, rfl, fun K' hK => ?_⟩
          have d0 := cell_of_cells (i := 0) xb9_y37 rfl
          have d1 := cell_of_cells (i := 1) xb9_y37 rfl
          have e0 := fz_of xb9_y37 0
          have e1 := fz_of xb9_y37 1
          go_simp
          obtain ⟨y38, hy38⟩ : ∃ q, q = (y37.setCell ⟨b9, 0, none⟩ (.slice a9 st9 c9)).setCell ⟨b9, 1, none⟩ (.slice b9x lp9 d9) := ⟨_, rfl⟩
          rw [← hy38]
          have hbut : But b9 y37 y38 := by rw [hy38]; exact ((But.refl _ _).setCell _ _).setCell _ _
          have xb9_y38 : y38.heap[b9]? = some (.cells #[.slice a9 st9 c9, .slice b9x lp9 d9] 41) := by rw [hy38]; exact la_two_set xb9_y37 _ _
          have hB_y38 := hB_y37.trans (hbut.below hl9 hB_y37.size)
          have xb8_y38 := (hbut.block _ (Array.getElem?_eq_some_iff.1 xb8_y37).1 (by omega)).trans xb8_y37
          have xk8_y38 := hid (And.intro (xk8_y37.out.1.butz hbut xb9_y37) (xk8_y37.out.2.butz hbut xb9_y37))
          have xk9_y38 := hid (And.intro (xk9_y37.out.1.butz hbut xb9_y37) (xk9_y37.out.2.butz hbut xb9_y37))
          clear hbut hy38 d0 d1 e0 e1
          refine hK.out _ _ (fun _ => HS.out _ hB_y38) (fun _ => ?_)
          clear hK K'
          (try simp only [Act.put, List.setIfInBounds_toArray, List.set_cons_zero, List.set_cons_succ])
          clear xb8_y37 xb9_y37 xk8_y37 xk9_y37 hB_y37
          refine G_done (by kernel_rfl) ?_ _
          have HFIN := hid (And.intro hB_y38 (And.intro xb8_y38 (And.intro xb9_y38 (And.intro hle8 (And.intro hle9 (And.intro xk8_y38.out xk9_y38.out))))))
          clear xb8_y38 xb9_y38 xk8_y38 xk9_y38 hB_y38
          go_wp2_with fail
          go_meet
          exact ⟨b8, b9, st8, lp8, a8, c8, b8x, d8, st9, lp9, a9, c9, b9x, d9, rfl, rfl, HFIN⟩
      · refine ⟨{ dst := some 9, op := Op.alloc 41, type := 0, pos := _, after := #[], guard := none }, rfl, fun K' hK => ?_⟩
        go_simp
        obtain ⟨y39, hy39⟩ : ∃ q, q = y29.alloc (.cells #[.slice none 0 0, .slice none 0 0] 41) := ⟨_, rfl⟩
        rw [← hy39]
        obtain ⟨b9, hb9⟩ : ∃ q, q = y29.heap.size := ⟨_, rfl⟩
        have hb : Below y29.heap.size y29 y39 := by rw [hy39]; exact box_below _ _
        have xb9_y39 : y39.heap[b9]? = some (.cells #[.slice none 0 0, .slice none 0 0] 41) := by rw [hy39, hb9]; exact Go.Deep.blk_alloc_new _ _
        have hB_y39 := hB_y29.trans (hb.mono hB_y29.size)
        have hl9 : z.heap.size ≤ b9 := by rw [hb9]; exact hB_y29.size
        have hne : b8 ≠ b9 := by have h := (Array.getElem?_eq_some_iff.1 xb8_y29).1; omega
        have xb8_y39 := alloc_le hb xb8_y29
        rw [← hb9]
        clear hb hb9 hy39
        refine hK.out _ _ (fun _ => HS.out _ hB_y39) (fun _ => ?_)
        clear hK K'
        (try simp only [Act.put, List.setIfInBounds_toArray, List.set_cons_zero, List.set_cons_succ])
        clear xb8_y29 hB_y29
        refine G_alt2 (l := [1]) (by kernel_rfl) (by decide) ?_
        intro i hi
        have hi2 : i = 1 := by simpa using hi
        clear hi
        subst hi2
        refine ⟨{ dst := some 21, op := Op.call { callee := Callee.value (Operand.func 45), args := #[Operand.tmp 20], argTypes := #[41] }, type := 41, pos := _, after := #[{ on := 0, ground := Ground.data }], guard := none }, rfl, fun K' hK => ?_⟩
        go_simp
        go_at_call 45
        refine (C8.out y39 hB_y39).mono ?_
        rintro e y40 ⟨st8, lp8, a8, c8, b8x, d8, hle8, rfl, r1, r2, hb⟩
        dsimp only
        have xk8_y40 := hid (And.intro r1 r2)
        clear r1 r2
        have hB_y40 := hB_y39.trans (hb.mono hB_y39.size)
        have xb8_y40 := alloc_le hb xb8_y39
        have xb9_y40 := alloc_le hb xb9_y39
        clear hb
        refine hK.out _ _ (fun _ => HS.out _ hB_y40) (fun _ => ?_)
        clear hK K'
        (try simp only [Act.put, List.setIfInBounds_toArray, List.set_cons_zero, List.set_cons_succ])
        clear xb8_y39 xb9_y39 hB_y39
        refine G_alt2 (l := [3]) (by kernel_rfl) (by decide) ?_
        intro i hi
        have hi2 : i = 3 := by simpa using hi
        clear hi
        subst hi2
        refine ⟨{ dst := some 23, op := Op.call { callee := Callee.value (Operand.func 45), args := #[Operand.tmp 22], argTypes := #[41] }, type := 41, pos := _, after := #[{ on := 2, ground := Ground.data }, { on := 1, ground := Ground.chain }], guard := none }, rfl, fun K' hK => ?_⟩
        go_simp
        go_at_call 45
        refine (C9.out y40 hB_y40).mono ?_
        rintro e y41 ⟨st9, lp9, a9, c9, b9x, d9, hle9, rfl, r1, r2, hb⟩
        dsimp only
        have xk9_y41 := hid (And.intro r1 r2)
        clear r1 r2
        have hB_y41 := hB_y40.trans (hb.mono hB_y40.size)
        have xb8_y41 := alloc_le hb xb8_y40
        have xb9_y41 := alloc_le hb xb9_y40
        have xk8_y41 := hid (And.intro (xk8_y40.out.1.below hb) (xk8_y40.out.2.below hb))
        clear hb
        refine hK.out _ _ (fun _ => HS.out _ hB_y41) (fun _ => ?_)
        clear hK K'
        (try simp only [Act.put, List.setIfInBounds_toArray, List.set_cons_zero, List.set_cons_succ])
        clear xb8_y40 xb9_y40 xk8_y40 hB_y40
        refine G_alt2 (l := [6]) (by kernel_rfl) (by decide) ?_
        intro i hi
        have hi2 : i = 6 := by simpa using hi
        clear hi
        subst hi2
        refine ⟨{ dst := none, op := Op.store 41 (Operand.tmp 8) (Operand.tmp 21), type := 0, pos := _, after := #[{ on := 4, ground := Ground.data }, { on := 1, ground := Ground.data }, { on := 3, ground := Ground.chain }, { on := 0, ground := Ground.phase }, { on := 1, ground := Ground.phase }, { on := 2, ground := Ground.textOnly Departure.lateStores }, { on := 3, ground := Ground.textOnly Departure.lateStoresUnsure }, { on := 4, ground := Ground.phase }, { on := 5, ground := Ground.phase }], guard := none }, rfl, fun K' hK => ?_⟩
        have d0 := cell_of_cells (i := 0) xb8_y41 rfl
        have d1 := cell_of_cells (i := 1) xb8_y41 rfl
        have e0 := fz_of xb8_y41 0
        have e1 := fz_of xb8_y41 1
        go_simp
        obtain ⟨y42, hy42⟩ : ∃ q, q = (y41.setCell ⟨b8, 0, none⟩ (.slice a8 st8 c8)).setCell ⟨b8, 1, none⟩ (.slice b8x lp8 d8) := ⟨_, rfl⟩
        rw [← hy42]
        have hbut : But b8 y41 y42 := by rw [hy42]; exact ((But.refl _ _).setCell _ _).setCell _ _
        have xb8_y42 : y42.heap[b8]? = some (.cells #[.slice a8 st8 c8, .slice b8x lp8 d8] 41) := by rw [hy42]; exact la_two_set xb8_y41 _ _
        have hB_y42 := hB_y41.trans (hbut.below hl8 hB_y41.size)
        have xb9_y42 := (hbut.block _ (Array.getElem?_eq_some_iff.1 xb9_y41).1 (by omega)).trans xb9_y41
        have xk8_y42 := hid (And.intro (xk8_y41.out.1.butz hbut xb8_y41) (xk8_y41.out.2.butz hbut xb8_y41))
        have xk9_y42 := hid (And.intro (xk9_y41.out.1.butz hbut xb8_y41) (xk9_y41.out.2.butz hbut xb8_y41))
        clear hbut hy42 d0 d1 e0 e1
        refine hK.out _ _ (fun _ => HS.out _ hB_y42) (fun _ => ?_)
        clear hK K'
        (try simp only [Act.put, List.setIfInBounds_toArray, List.set_cons_zero, List.set_cons_succ])
        clear xb8_y41 xb9_y41 xk8_y41 xk9_y41 hB_y41
        refine G_alt2 (l := [7]) (by kernel_rfl) (by decide) ?_
        intro i hi
        have hi2 : i = 7 := by simpa using hi
        clear hi
        subst hi2
        refine ⟨{ dst := none, op := Op.store 41 (Operand.tmp 9) (Operand.tmp 23), type := 0, pos := _, after := #[{ on := 5, ground := Ground.data }, { on := 3, ground := Ground.data }, { on := 6, ground := Ground.chain }, { on := 0, ground := Ground.phase }, { on := 1, ground := Ground.phase }, { on := 2, ground := Ground.phase }, { on := 3, ground := Ground.phase }, { on := 4, ground := Ground.phase }, { on := 5, ground := Ground.phase }, { on := 6, ground := Ground.phase }], guard := none }, rfl, fun K' hK => ?_⟩
        have d0 := cell_of_cells (i := 0) xb9_y42 rfl
        have d1 := cell_of_cells (i := 1) xb9_y42 rfl
        have e0 := fz_of xb9_y42 0
        have e1 := fz_of xb9_y42 1
        go_simp
        obtain ⟨y43, hy43⟩ : ∃ q, q = (y42.setCell ⟨b9, 0, none⟩ (.slice a9 st9 c9)).setCell ⟨b9, 1, none⟩ (.slice b9x lp9 d9) := ⟨_, rfl⟩
        rw [← hy43]
        have hbut : But b9 y42 y43 := by rw [hy43]; exact ((But.refl _ _).setCell _ _).setCell _ _
        have xb9_y43 : y43.heap[b9]? = some (.cells #[.slice a9 st9 c9, .slice b9x lp9 d9] 41) := by rw [hy43]; exact la_two_set xb9_y42 _ _
        have hB_y43 := hB_y42.trans (hbut.below hl9 hB_y42.size)
        have xb8_y43 := (hbut.block _ (Array.getElem?_eq_some_iff.1 xb8_y42).1 (by omega)).trans xb8_y42
        have xk8_y43 := hid (And.intro (xk8_y42.out.1.butz hbut xb9_y42) (xk8_y42.out.2.butz hbut xb9_y42))
        have xk9_y43 := hid (And.intro (xk9_y42.out.1.butz hbut xb9_y42) (xk9_y42.out.2.butz hbut xb9_y42))
        clear hbut hy43 d0 d1 e0 e1
        refine hK.out _ _ (fun _ => HS.out _ hB_y43) (fun _ => ?_)
        clear hK K'
        (try simp only [Act.put, List.setIfInBounds_toArray, List.set_cons_zero, List.set_cons_succ])
        clear xb8_y42 xb9_y42 xk8_y42 xk9_y42 hB_y42
        refine G_done (by kernel_rfl) ?_ _
        have HFIN := hid (And.intro hB_y43 (And.intro xb8_y43 (And.intro xb9_y43 (And.intro hle8 (And.intro hle9 (And.intro xk8_y43.out xk9_y43.out))))))
        clear xb8_y43 xb9_y43 xk8_y43 xk9_y43 hB_y43
        go_wp2_with fail
        go_meet
        exact ⟨b8, b9, st8, lp8, a8, c8, b8x, d8, st9, lp9, a9, c9, b9x, d9, rfl, rfl, HFIN⟩
    · refine ⟨{ dst := some 9, op := Op.alloc 41, type := 0, pos := _, after := #[], guard := none }, rfl, fun K' hK => ?_⟩
      go_simp
      obtain ⟨y44, hy44⟩ : ∃ q, q = y0.alloc (.cells #[.slice none 0 0, .slice none 0 0] 41) := ⟨_, rfl⟩
      rw [← hy44]
      obtain ⟨b9, hb9⟩ : ∃ q, q = y0.heap.size := ⟨_, rfl⟩
      have hb : Below y0.heap.size y0 y44 := by rw [hy44]; exact box_below _ _
      have xb9_y44 : y44.heap[b9]? = some (.cells #[.slice none 0 0, .slice none 0 0] 41) := by rw [hy44, hb9]; exact Go.Deep.blk_alloc_new _ _
      have hB_y44 := hB_y0.trans (hb.mono hB_y0.size)
      have hl9 : z.heap.size ≤ b9 := by rw [hb9]; exact hB_y0.size
      rw [← hb9]
      clear hb hb9 hy44
      refine hK.out _ _ (fun _ => HS.out _ hB_y44) (fun _ => ?_)
      clear hK K'
      (try simp only [Act.put, List.setIfInBounds_toArray, List.set_cons_zero, List.set_cons_succ])
      clear hB_y0
      refine G_alt2 (l := [1, 4]) (by kernel_rfl) (by decide) ?_
      intro i hi
      have hi2 : i = 1 ∨ i = 4 := by simpa using hi
      clear hi
      rcases hi2 with rfl | rfl
      · refine ⟨{ dst := some 21, op := Op.call { callee := Callee.value (Operand.func 45), args := #[Operand.tmp 20], argTypes := #[41] }, type := 41, pos := _, after := #[{ on := 0, ground := Ground.data }], guard := none }, rfl, fun K' hK => ?_⟩
        go_simp
        go_at_call 45
        refine (C8.out y44 hB_y44).mono ?_
        rintro e y45 ⟨st8, lp8, a8, c8, b8x, d8, hle8, rfl, r1, r2, hb⟩
        dsimp only
        have xk8_y45 := hid (And.intro r1 r2)
        clear r1 r2
        have hB_y45 := hB_y44.trans (hb.mono hB_y44.size)
        have xb9_y45 := alloc_le hb xb9_y44
        clear hb
        refine hK.out _ _ (fun _ => HS.out _ hB_y45) (fun _ => ?_)
        clear hK K'
        (try simp only [Act.put, List.setIfInBounds_toArray, List.set_cons_zero, List.set_cons_succ])
        clear xb9_y44 hB_y44
        refine G_alt2 (l := [3, 4]) (by kernel_rfl) (by decide) ?_
        intro i hi
        have hi2 : i = 3 ∨ i = 4 := by simpa using hi
        clear hi
        rcases hi2 with rfl | rfl
        · refine ⟨{ dst := some 23, op := Op.call { callee := Callee.value (Operand.func 45), args := #[Operand.tmp 22], argTypes := #[41] }, type := 41, pos := _, after := #[{ on := 2, ground := Ground.data }, { on := 1, ground := Ground.chain }], guard := none }, rfl, fun K' hK => ?_⟩
          go_simp
          go_at_call 45
          refine (C9.out y45 hB_y45).mono ?_
          rintro e y46 ⟨st9, lp9, a9, c9, b9x, d9, hle9, rfl, r1, r2, hb⟩
          dsimp only
          have xk9_y46 := hid (And.intro r1 r2)
          clear r1 r2
          have hB_y46 := hB_y45.trans (hb.mono hB_y45.size)
          have xb9_y46 := alloc_le hb xb9_y45
          have xk8_y46 := hid (And.intro (xk8_y45.out.1.below hb) (xk8_y45.out.2.below hb))
          clear hb
          refine hK.out _ _ (fun _ => HS.out _ hB_y46) (fun _ => ?_)
          clear hK K'
          (try simp only [Act.put, List.setIfInBounds_toArray, List.set_cons_zero, List.set_cons_succ])
          clear xb9_y45 xk8_y45 hB_y45
          refine G_alt2 (l := [4]) (by kernel_rfl) (by decide) ?_
          intro i hi
          have hi2 : i = 4 := by simpa using hi
          clear hi
          subst hi2
          refine ⟨{ dst := some 8, op := Op.alloc 41, type := 0, pos := _, after := #[], guard := none }, rfl, fun K' hK => ?_⟩
          go_simp
          obtain ⟨y47, hy47⟩ : ∃ q, q = y46.alloc (.cells #[.slice none 0 0, .slice none 0 0] 41) := ⟨_, rfl⟩
          rw [← hy47]
          obtain ⟨b8, hb8⟩ : ∃ q, q = y46.heap.size := ⟨_, rfl⟩
          have hb : Below y46.heap.size y46 y47 := by rw [hy47]; exact box_below _ _
          have xb8_y47 : y47.heap[b8]? = some (.cells #[.slice none 0 0, .slice none 0 0] 41) := by rw [hy47, hb8]; exact Go.Deep.blk_alloc_new _ _
          have hB_y47 := hB_y46.trans (hb.mono hB_y46.size)
          have hl8 : z.heap.size ≤ b8 := by rw [hb8]; exact hB_y46.size
          have hne : b8 ≠ b9 := by have h := (Array.getElem?_eq_some_iff.1 xb9_y46).1; omega
          have xb9_y47 := alloc_le hb xb9_y46
          have xk8_y47 := hid (And.intro (xk8_y46.out.1.below hb) (xk8_y46.out.2.below hb))
          have xk9_y47 := hid (And.intro (xk9_y46.out.1.below hb) (xk9_y46.out.2.below hb))
          rw [← hb8]
          clear hb hb8 hy47
          refine hK.out _ _ (fun _ => HS.out _ hB_y47) (fun _ => ?_)
          clear hK K'
          (try simp only [Act.put, List.setIfInBounds_toArray, List.set_cons_zero, List.set_cons_succ])
          clear xb9_y46 xk8_y46 xk9_y46 hB_y46
          refine G_alt2 (l := [6]) (by kernel_rfl) (by decide) ?_
          intro i hi
          have hi2 : i = 6 := by simpa using hi
          clear hi
          subst hi2
          refine ⟨{ dst := none, op := Op.store 41 (Operand.tmp 8) (Operand.tmp 21), type := 0, pos := _, after := #[{ on := 4, ground := Ground.data }, { on := 1, ground := Ground.data }, { on := 3, ground := Ground.chain }, { on := 0, ground := Ground.phase }, { on := 1, ground := Ground.phase }, { on := 2, ground := Ground.textOnly Departure.lateStores }, { on := 3, ground := Ground.textOnly Departure.lateStoresUnsure }, { on := 4, ground := Ground.phase }, { on := 5, ground := Ground.phase }], guard := none }, rfl, fun K' hK => ?_⟩
          have d0 := cell_of_cells (i := 0) xb8_y47 rfl
          have d1 := cell_of_cells (i := 1) xb8_y47 rfl
          have e0 := fz_of xb8_y47 0
          have e1 := fz_of xb8_y47 1
          go_simp
          obtain ⟨y48, hy48⟩ : ∃ q, q = (y47.setCell ⟨b8, 0, none⟩ (.slice a8 st8 c8)).setCell ⟨b8, 1, none⟩ (.slice b8x lp8 d8) := ⟨_, rfl⟩
          rw [← hy48]
          have hbut : But b8 y47 y48 := by rw [hy48]; exact ((But.refl _ _).setCell _ _).setCell _ _
          have xb8_y48 : y48.heap[b8]? = some (.cells #[.slice a8 st8 c8, .slice b8x lp8 d8] 41) := by rw [hy48]; exact la_two_set xb8_y47 _ _
          have hB_y48 := hB_y47.trans (hbut.below hl8 hB_y47.size)
          have xb9_y48 := (hbut.block _ (Array.getElem?_eq_some_iff.1 xb9_y47).1 (by omega)).trans xb9_y47
          have xk8_y48 := hid (And.intro (xk8_y47.out.1.butz hbut xb8_y47) (xk8_y47.out.2.butz hbut xb8_y47))
          have xk9_y48 := hid (And.intro (xk9_y47.out.1.butz hbut xb8_y47) (xk9_y47.out.2.butz hbut xb8_y47))
          clear hbut hy48 d0 d1 e0 e1
          refine hK.out _ _ (fun _ => HS.out _ hB_y48) (fun _ => ?_)
          clear hK K'
          (try simp only [Act.put, List.setIfInBounds_toArray, List.set_cons_zero, List.set_cons_succ])
          clear xb8_y47 xb9_y47 xk8_y47 xk9_y47 hB_y47
          refine G_alt2 (l := [7]) (by kernel_rfl) (by decide) ?_
          intro i hi
          have hi2 : i = 7 := by simpa using hi
          clear hi
          subst hi2
          refine ⟨{ dst := none, op := Op.store 41 (Operand.tmp 9) (Operand.tmp 23), type := 0, pos := _, after := #[{ on := 5, ground := Ground.data }, { on := 3, ground := Ground.data }, { on := 6, ground := Ground.chain }, { on := 0, ground := Ground.phase }, { on := 1, ground := Ground.phase }, { on := 2, ground := Ground.phase }, { on := 3, ground := Ground.phase }, { on := 4, ground := Ground.phase }, { on := 5, ground := Ground.phase }, { on := 6, ground := Ground.phase }], guard := none }, rfl, fun K' hK => ?_⟩
          have d0 := cell_of_cells (i := 0) xb9_y48 rfl
          have d1 := cell_of_cells (i := 1) xb9_y48 rfl
          have e0 := fz_of xb9_y48 0
          have e1 := fz_of xb9_y48 1
          go_simp
          obtain ⟨y49, hy49⟩ : ∃ q, q = (y48.setCell ⟨b9, 0, none⟩ (.slice a9 st9 c9)).setCell ⟨b9, 1, none⟩ (.slice b9x lp9 d9) := ⟨_, rfl⟩
          rw [← hy49]
          have hbut : But b9 y48 y49 := by rw [hy49]; exact ((But.refl _ _).setCell _ _).setCell _ _
          have xb9_y49 : y49.heap[b9]? = some (.cells #[.slice a9 st9 c9, .slice b9x lp9 d9] 41) := by rw [hy49]; exact la_two_set xb9_y48 _ _
          have hB_y49 := hB_y48.trans (hbut.below hl9 hB_y48.size)
          have xb8_y49 := (hbut.block _ (Array.getElem?_eq_some_iff.1 xb8_y48).1 (by omega)).trans xb8_y48
          have xk8_y49 := hid (And.intro (xk8_y48.out.1.butz hbut xb9_y48) (xk8_y48.out.2.butz hbut xb9_y48))
          have xk9_y49 := hid (And.intro (xk9_y48.out.1.butz hbut xb9_y48) (xk9_y48.out.2.butz hbut xb9_y48))
          clear hbut hy49 d0 d1 e0 e1
          refine hK.out _ _ (fun _ => HS.out _ hB_y49) (fun _ => ?_)
          clear hK K'
          (try simp only [Act.put, List.setIfInBounds_toArray, List.set_cons_zero, List.set_cons_succ])
          clear xb8_y48 xb9_y48 xk8_y48 xk9_y48 hB_y48
          refine G_done (by kernel_rfl) ?_ _
          have HFIN := hid (And.intro hB_y49 (And.intro xb8_y49 (And.intro xb9_y49 (And.intro hle8 (And.intro hle9 (And.intro xk8_y49.out xk9_y49.out))))))
          clear xb8_y49 xb9_y49 xk8_y49 xk9_y49 hB_y49
          go_wp2_with fail
          go_meet
          exact ⟨b8, b9, st8, lp8, a8, c8, b8x, d8, st9, lp9, a9, c9, b9x, d9, rfl, rfl, HFIN⟩
        · refine ⟨{ dst := some 8, op := Op.alloc 41, type := 0, pos := _, after := #[], guard := none }, rfl, fun K' hK => ?_⟩
          go_simp
          obtain ⟨y50, hy50⟩ : ∃ q, q = y45.alloc (.cells #[.slice none 0 0, .slice none 0 0] 41) := ⟨_, rfl⟩
          rw [← hy50]
          obtain ⟨b8, hb8⟩ : ∃ q, q = y45.heap.size := ⟨_, rfl⟩
          have hb : Below y45.heap.size y45 y50 := by rw [hy50]; exact box_below _ _
          have xb8_y50 : y50.heap[b8]? = some (.cells #[.slice none 0 0, .slice none 0 0] 41) := by rw [hy50, hb8]; exact Go.Deep.blk_alloc_new _ _
          have hB_y50 := hB_y45.trans (hb.mono hB_y45.size)
          have hl8 : z.heap.size ≤ b8 := by rw [hb8]; exact hB_y45.size
          have hne : b8 ≠ b9 := by have h := (Array.getElem?_eq_some_iff.1 xb9_y45).1; omega
          have xb9_y50 := alloc_le hb xb9_y45
          have xk8_y50 := hid (And.intro (xk8_y45.out.1.below hb) (xk8_y45.out.2.below hb))
          rw [← hb8]
          clear hb hb8 hy50
          refine hK.out _ _ (fun _ => HS.out _ hB_y50) (fun _ => ?_)
          clear hK K'
          (try simp only [Act.put, List.setIfInBounds_toArray, List.set_cons_zero, List.set_cons_succ])
          clear xb9_y45 xk8_y45 hB_y45
          refine G_alt2 (l := [3]) (by kernel_rfl) (by decide) ?_
          intro i hi
          have hi2 : i = 3 := by simpa using hi
          clear hi
          subst hi2
          refine ⟨{ dst := some 23, op := Op.call { callee := Callee.value (Operand.func 45), args := #[Operand.tmp 22], argTypes := #[41] }, type := 41, pos := _, after := #[{ on := 2, ground := Ground.data }, { on := 1, ground := Ground.chain }], guard := none }, rfl, fun K' hK => ?_⟩
          go_simp
          go_at_call 45
          refine (C9.out y50 hB_y50).mono ?_
          rintro e y51 ⟨st9, lp9, a9, c9, b9x, d9, hle9, rfl, r1, r2, hb⟩
          dsimp only
          have xk9_y51 := hid (And.intro r1 r2)
          clear r1 r2
          have hB_y51 := hB_y50.trans (hb.mono hB_y50.size)
          have xb9_y51 := alloc_le hb xb9_y50
          have xk8_y51 := hid (And.intro (xk8_y50.out.1.below hb) (xk8_y50.out.2.below hb))
          have xb8_y51 := alloc_le hb xb8_y50
          clear hb
          refine hK.out _ _ (fun _ => HS.out _ hB_y51) (fun _ => ?_)
          clear hK K'
          (try simp only [Act.put, List.setIfInBounds_toArray, List.set_cons_zero, List.set_cons_succ])
          clear xb9_y50 xk8_y50 xb8_y50 hB_y50
          refine G_alt2 (l := [6]) (by kernel_rfl) (by decide) ?_
          intro i hi
          have hi2 : i = 6 := by simpa using hi
          clear hi
          subst hi2
          refine ⟨{ dst := none, op := Op.store 41 (Operand.tmp 8) (Operand.tmp 21), type := 0, pos := _, after := #[{ on := 4, ground := Ground.data }, { on := 1, ground := Ground.data }, { on := 3, ground := Ground.chain }, { on := 0, ground := Ground.phase }, { on := 1, ground := Ground.phase }, { on := 2, ground := Ground.textOnly Departure.lateStores }, { on := 3, ground := Ground.textOnly Departure.lateStoresUnsure }, { on := 4, ground := Ground.phase }, { on := 5, ground := Ground.phase }], guard := none }, rfl, fun K' hK => ?_⟩
          have d0 := cell_of_cells (i := 0) xb8_y51 rfl
          have d1 := cell_of_cells (i := 1) xb8_y51 rfl
          have e0 := fz_of xb8_y51 0
          have e1 := fz_of xb8_y51 1
          go_simp
          obtain ⟨y52, hy52⟩ : ∃ q, q = (y51.setCell ⟨b8, 0, none⟩ (.slice a8 st8 c8)).setCell ⟨b8, 1, none⟩ (.slice b8x lp8 d8) := ⟨_, rfl⟩
          rw [← hy52]
          have hbut : But b8 y51 y52 := by rw [hy52]; exact ((But.refl _ _).setCell _ _).setCell _ _
          have xb8_y52 : y52.heap[b8]? = some (.cells #[.slice a8 st8 c8, .slice b8x lp8 d8] 41) := by rw [hy52]; exact la_two_set xb8_y51 _ _
          have hB_y52 := hB_y51.trans (hbut.below hl8 hB_y51.size)
          have xb9_y52 := (hbut.block _ (Array.getElem?_eq_some_iff.1 xb9_y51).1 (by omega)).trans xb9_y51
          have xk8_y52 := hid (And.intro (xk8_y51.out.1.butz hbut xb8_y51) (xk8_y51.out.2.butz hbut xb8_y51))
          have xk9_y52 := hid (And.intro (xk9_y51.out.1.butz hbut xb8_y51) (xk9_y51.out.2.butz hbut xb8_y51))
          clear hbut hy52 d0 d1 e0 e1
          refine hK.out _ _ (fun _ => HS.out _ hB_y52) (fun _ => ?_)
          clear hK K'
          (try simp only [Act.put, List.setIfInBounds_toArray, List.set_cons_zero, List.set_cons_succ])
          clear xb8_y51 xb9_y51 xk8_y51 xk9_y51 hB_y51
          refine G_alt2 (l := [7]) (by kernel_rfl) (by decide) ?_
          intro i hi
          have hi2 : i = 7 := by simpa using hi
          clear hi
          subst hi2
          refine ⟨{ dst := none, op := Op.store 41 (Operand.tmp 9) (Operand.tmp 23), type := 0, pos := _, after := #[{ on := 5, ground := Ground.data }, { on := 3, ground := Ground.data }, { on := 6, ground := Ground.chain }, { on := 0, ground := Ground.phase }, { on := 1, ground := Ground.phase }, { on := 2, ground := Ground.phase }, { on := 3, ground := Ground.phase }, { on := 4, ground := Ground.phase }, { on := 5, ground := Ground.phase }, { on := 6, ground := Ground.phase }], guard := none }, rfl, fun K' hK => ?_⟩
          have d0 := cell_of_cells (i := 0) xb9_y52 rfl
          have d1 := cell_of_cells (i := 1) xb9_y52 rfl
          have e0 := fz_of xb9_y52 0
          have e1 := fz_of xb9_y52 1
          go_simp
          obtain ⟨y53, hy53⟩ : ∃ q, q = (y52.setCell ⟨b9, 0, none⟩ (.slice a9 st9 c9)).setCell ⟨b9, 1, none⟩ (.slice b9x lp9 d9) := ⟨_, rfl⟩
          rw [← hy53]
          have hbut : But b9 y52 y53 := by rw [hy53]; exact ((But.refl _ _).setCell _ _).setCell _ _
          have xb9_y53 : y53.heap[b9]? = some (.cells #[.slice a9 st9 c9, .slice b9x lp9 d9] 41) := by rw [hy53]; exact la_two_set xb9_y52 _ _
          have hB_y53 := hB_y52.trans (hbut.below hl9 hB_y52.size)
          have xb8_y53 := (hbut.block _ (Array.getElem?_eq_some_iff.1 xb8_y52).1 (by omega)).trans xb8_y52
          have xk8_y53 := hid (And.intro (xk8_y52.out.1.butz hbut xb9_y52) (xk8_y52.out.2.butz hbut xb9_y52))
          have xk9_y53 := hid (And.intro (xk9_y52.out.1.butz hbut xb9_y52) (xk9_y52.out.2.butz hbut xb9_y52))
          clear hbut hy53 d0 d1 e0 e1
          refine hK.out _ _ (fun _ => HS.out _ hB_y53) (fun _ => ?_)
          clear hK K'
          (try simp only [Act.put, List.setIfInBounds_toArray, List.set_cons_zero, List.set_cons_succ])
          clear xb8_y52 xb9_y52 xk8_y52 xk9_y52 hB_y52
          refine G_done (by kernel_rfl) ?_ _
          have HFIN := hid (And.intro hB_y53 (And.intro xb8_y53 (And.intro xb9_y53 (And.intro hle8 (And.intro hle9 (And.intro xk8_y53.out xk9_y53.out))))))
          clear xb8_y53 xb9_y53 xk8_y53 xk9_y53 hB_y53
          go_wp2_with fail
          go_meet
          exact ⟨b8, b9, st8, lp8, a8, c8, b8x, d8, st9, lp9, a9, c9, b9x, d9, rfl, rfl, HFIN⟩
      · refine ⟨{ dst := some 8, op := Op.alloc 41, type := 0, pos := _, after := #[], guard := none }, rfl, fun K' hK => ?_⟩
        go_simp
        obtain ⟨y54, hy54⟩ : ∃ q, q = y44.alloc (.cells #[.slice none 0 0, .slice none 0 0] 41) := ⟨_, rfl⟩
        rw [← hy54]
        obtain ⟨b8, hb8⟩ : ∃ q, q = y44.heap.size := ⟨_, rfl⟩
        have hb : Below y44.heap.size y44 y54 := by rw [hy54]; exact box_below _ _
        have xb8_y54 : y54.heap[b8]? = some (.cells #[.slice none 0 0, .slice none 0 0] 41) := by rw [hy54, hb8]; exact Go.Deep.blk_alloc_new _ _
        have hB_y54 := hB_y44.trans (hb.mono hB_y44.size)
        have hl8 : z.heap.size ≤ b8 := by rw [hb8]; exact hB_y44.size
        have hne : b8 ≠ b9 := by have h := (Array.getElem?_eq_some_iff.1 xb9_y44).1; omega
        have xb9_y54 := alloc_le hb xb9_y44
        rw [← hb8]
        clear hb hb8 hy54
        refine hK.out _ _ (fun _ => HS.out _ hB_y54) (fun _ => ?_)
        clear hK K'
        (try simp only [Act.put, List.setIfInBounds_toArray, List.set_cons_zero, List.set_cons_succ])
        clear xb9_y44 hB_y44
        refine G_alt2 (l := [1]) (by kernel_rfl) (by decide) ?_
        intro i hi
        have hi2 : i = 1 := by simpa using hi
        clear hi
        subst hi2
        refine ⟨{ dst := some 21, op := Op.call { callee := Callee.value (Operand.func 45), args := #[Operand.tmp 20], argTypes := #[41] }, type := 41, pos := _, after := #[{ on := 0, ground := Ground.data }], guard := none }, rfl, fun K' hK => ?_⟩
        go_simp
        go_at_call 45
        refine (C8.out y54 hB_y54).mono ?_
        rintro e y55 ⟨st8, lp8, a8, c8, b8x, d8, hle8, rfl, r1, r2, hb⟩
        dsimp only
        have xk8_y55 := hid (And.intro r1 r2)
        clear r1 r2
        have hB_y55 := hB_y54.trans (hb.mono hB_y54.size)
        have xb9_y55 := alloc_le hb xb9_y54
        have xb8_y55 := alloc_le hb xb8_y54
        clear hb
        refine hK.out _ _ (fun _ => HS.out _ hB_y55) (fun _ => ?_)
        clear hK K'
        (try simp only [Act.put, List.setIfInBounds_toArray, List.set_cons_zero, List.set_cons_succ])
        clear xb9_y54 xb8_y54 hB_y54
        refine G_alt2 (l := [3]) (by kernel_rfl) (by decide) ?_
        intro i hi
        have hi2 : i = 3 := by simpa using hi
        clear hi
        subst hi2
        refine ⟨{ dst := some 23, op := Op.call { callee := Callee.value (Operand.func 45), args := #[Operand.tmp 22], argTypes := #[41] }, type := 41, pos := _, after := #[{ on := 2, ground := Ground.data }, { on := 1, ground := Ground.chain }], guard := none }, rfl, fun K' hK => ?_⟩
        go_simp
        go_at_call 45
        refine (C9.out y55 hB_y55).mono ?_
        rintro e y56 ⟨st9, lp9, a9, c9, b9x, d9, hle9, rfl, r1, r2, hb⟩
        dsimp only
        have xk9_y56 := hid (And.intro r1 r2)
        clear r1 r2
        have hB_y56 := hB_y55.trans (hb.mono hB_y55.size)
        have xb9_y56 := alloc_le hb xb9_y55
        have xb8_y56 := alloc_le hb xb8_y55
        have xk8_y56 := hid (And.intro (xk8_y55.out.1.below hb) (xk8_y55.out.2.below hb))
        clear hb
        refine hK.out _ _ (fun _ => HS.out _ hB_y56) (fun _ => ?_)
        clear hK K'
        (try simp only [Act.put, List.setIfInBounds_toArray, List.set_cons_zero, List.set_cons_succ])
        clear xb9_y55 xb8_y55 xk8_y55 hB_y55
        refine G_alt2 (l := [6]) (by kernel_rfl) (by decide) ?_
        intro i hi
        have hi2 : i = 6 := by simpa using hi
        clear hi
        subst hi2
        refine ⟨{ dst := none, op := Op.store 41 (Operand.tmp 8) (Operand.tmp 21), type := 0, pos := _, after := #[{ on := 4, ground := Ground.data }, { on := 1, ground := Ground.data }, { on := 3, ground := Ground.chain }, { on := 0, ground := Ground.phase }, { on := 1, ground := Ground.phase }, { on := 2, ground := Ground.textOnly Departure.lateStores }, { on := 3, ground := Ground.textOnly Departure.lateStoresUnsure }, { on := 4, ground := Ground.phase }, { on := 5, ground := Ground.phase }], guard := none }, rfl, fun K' hK => ?_⟩
        have d0 := cell_of_cells (i := 0) xb8_y56 rfl
        have d1 := cell_of_cells (i := 1) xb8_y56 rfl
        have e0 := fz_of xb8_y56 0
        have e1 := fz_of xb8_y56 1
        go_simp
        obtain ⟨y57, hy57⟩ : ∃ q, q = (y56.setCell ⟨b8, 0, none⟩ (.slice a8 st8 c8)).setCell ⟨b8, 1, none⟩ (.slice b8x lp8 d8) := ⟨_, rfl⟩
        rw [← hy57]
        have hbut : But b8 y56 y57 := by rw [hy57]; exact ((But.refl _ _).setCell _ _).setCell _ _
        have xb8_y57 : y57.heap[b8]? = some (.cells #[.slice a8 st8 c8, .slice b8x lp8 d8] 41) := by rw [hy57]; exact la_two_set xb8_y56 _ _
        have hB_y57 := hB_y56.trans (hbut.below hl8 hB_y56.size)
        have xb9_y57 := (hbut.block _ (Array.getElem?_eq_some_iff.1 xb9_y56).1 (by omega)).trans xb9_y56
        have xk8_y57 := hid (And.intro (xk8_y56.out.1.butz hbut xb8_y56) (xk8_y56.out.2.butz hbut xb8_y56))
        have xk9_y57 := hid (And.intro (xk9_y56.out.1.butz hbut xb8_y56) (xk9_y56.out.2.butz hbut xb8_y56))
        clear hbut hy57 d0 d1 e0 e1
        refine hK.out _ _ (fun _ => HS.out _ hB_y57) (fun _ => ?_)
        clear hK K'
        (try simp only [Act.put, List.setIfInBounds_toArray, List.set_cons_zero, List.set_cons_succ])
        clear xb8_y56 xb9_y56 xk8_y56 xk9_y56 hB_y56
        refine G_alt2 (l := [7]) (by kernel_rfl) (by decide) ?_
        intro i hi
        have hi2 : i = 7 := by simpa using hi
        clear hi
        subst hi2
        refine ⟨{ dst := none, op := Op.store 41 (Operand.tmp 9) (Operand.tmp 23), type := 0, pos := _, after := #[{ on := 5, ground := Ground.data }, { on := 3, ground := Ground.data }, { on := 6, ground := Ground.chain }, { on := 0, ground := Ground.phase }, { on := 1, ground := Ground.phase }, { on := 2, ground := Ground.phase }, { on := 3, ground := Ground.phase }, { on := 4, ground := Ground.phase }, { on := 5, ground := Ground.phase }, { on := 6, ground := Ground.phase }], guard := none }, rfl, fun K' hK => ?_⟩
        have d0 := cell_of_cells (i := 0) xb9_y57 rfl
        have d1 := cell_of_cells (i := 1) xb9_y57 rfl
        have e0 := fz_of xb9_y57 0
        have e1 := fz_of xb9_y57 1
        go_simp
        obtain ⟨y58, hy58⟩ : ∃ q, q = (y57.setCell ⟨b9, 0, none⟩ (.slice a9 st9 c9)).setCell ⟨b9, 1, none⟩ (.slice b9x lp9 d9) := ⟨_, rfl⟩
        rw [← hy58]
        have hbut : But b9 y57 y58 := by rw [hy58]; exact ((But.refl _ _).setCell _ _).setCell _ _
        have xb9_y58 : y58.heap[b9]? = some (.cells #[.slice a9 st9 c9, .slice b9x lp9 d9] 41) := by rw [hy58]; exact la_two_set xb9_y57 _ _
        have hB_y58 := hB_y57.trans (hbut.below hl9 hB_y57.size)
        have xb8_y58 := (hbut.block _ (Array.getElem?_eq_some_iff.1 xb8_y57).1 (by omega)).trans xb8_y57
        have xk8_y58 := hid (And.intro (xk8_y57.out.1.butz hbut xb9_y57) (xk8_y57.out.2.butz hbut xb9_y57))
        have xk9_y58 := hid (And.intro (xk9_y57.out.1.butz hbut xb9_y57) (xk9_y57.out.2.butz hbut xb9_y57))
        clear hbut hy58 d0 d1 e0 e1
        refine hK.out _ _ (fun _ => HS.out _ hB_y58) (fun _ => ?_)
        clear hK K'
        (try simp only [Act.put, List.setIfInBounds_toArray, List.set_cons_zero, List.set_cons_succ])
        clear xb8_y57 xb9_y57 xk8_y57 xk9_y57 hB_y57
        refine G_done (by kernel_rfl) ?_ _
        have HFIN := hid (And.intro hB_y58 (And.intro xb8_y58 (And.intro xb9_y58 (And.intro hle8 (And.intro hle9 (And.intro xk8_y58.out xk9_y58.out))))))
        clear xb8_y58 xb9_y58 xk8_y58 xk9_y58 hB_y58
        go_wp2_with fail
        go_meet
        exact ⟨b8, b9, st8, lp8, a8, c8, b8x, d8, st9, lp9, a9, c9, b9x, d9, rfl, rfl, HFIN⟩
  obtain ⟨b8, b9, st8, lp8, a8, c8, b8x, d8, st9, lp9, a9, c9, b9x, d9, rfl, rfl, HC⟩ := hcut
  obtain ⟨y0, y1⟩ : wc.cell? ⟨b8, 0, none⟩ = some (.slice a8 st8 c8) ∧ wc.cell? ⟨b8, 1, none⟩ = some (.slice b8x lp8 d8) := ⟨cell_of_cells HC.out.2.1 rfl, cell_of_cells HC.out.2.1 rfl⟩
  obtain ⟨y2, y3⟩ : wc.cell? ⟨b9, 0, none⟩ = some (.slice a9 st9 c9) ∧ wc.cell? ⟨b9, 1, none⟩ = some (.slice b9x lp9 d9) := ⟨cell_of_cells HC.out.2.2.1 rfl, cell_of_cells HC.out.2.2.1 rfl⟩
  have E1 := hid (equalU_any (c := c8) (c' := c9) HC.out.2.2.2.1.2.1 HC.out.2.2.2.2.2.1.1 HC.out.2.2.2.2.2.2.1)
  have E2 : Hid (∀ z, Below wc.heap.size wc z → Calls Try.prog 41 #[.slice b8x lp8 d8, .slice b9x lp9 d9] z fun e w' => e = .returned (.bool (sameU lp8 lp9 (fun i => f (st8 + i)) (fun i => g (st9 + i)))) ∧ ∃ q, w' = z.drewN q) := fun z hz => equalU_any HC.out.2.2.2.1.2.2 (HC.out.2.2.2.2.2.1.2.below hz) (HC.out.2.2.2.2.2.2.2.below hz)
  have HBW : Hid (Below w.heap.size w wc) := (HX.out wc (HZ.out.trans (HC.out.1.mono HZ.out.size))).2.2.2
  have HXC : Hid (wc.heap[b8]? = some (.cells #[.slice a8 st8 c8, .slice b8x lp8 d8] 41) ∧ wc.heap[b9]? = some (.cells #[.slice a9 st9 c9, .slice b9x lp9 d9] 41)) := ⟨HC.out.2.1, HC.out.2.2.1⟩
  have HLL : Hid (Lea f st8 lp8 ∧ Lea g st9 lp9) := ⟨HC.out.2.2.2.1.1, HC.out.2.2.2.2.1.1⟩
  obtain ⟨p, hp⟩ : ∃ y, y = sameU st8 st9 f g := ⟨_, rfl⟩
  obtain ⟨q, hq⟩ : ∃ y, y = sameU lp8 lp9 (fun i => f (st8 + i)) (fun i => g (st9 + i)) := ⟨_, rfl⟩
  rw [← hp] at E1
  rw [← hq] at E2
  have HPQ : Hid (p = sameU st8 st9 f g ∧ q = sameU lp8 lp9 (fun i => f (st8 + i)) (fun i => g (st9 + i))) := ⟨hp, hq⟩
  clear hp hq HC HX HZ HS C8 C9 f0 f1 g0 g1 HFF HGG
  go_wp2_with fail
  refine E1.out.mono ?_
  rintro e x ⟨rfl, k, hx⟩
  have hbx : Below wc.heap.size wc x := by rw [hx]; exact below_drewN (Below.refl _ _) _
  have u1 : x.cell? ⟨b8, 1, none⟩ = some (.slice b8x lp8 d8) := below_cell hbx (Nat.le_refl _) (cell_of_cells HXC.out.1 rfl)
  have u2 : x.cell? ⟨b9, 1, none⟩ = some (.slice b9x lp9 d9) := below_cell hbx (Nat.le_refl _) (cell_of_cells HXC.out.2 rfl)
  have D := hid (E2.out x hbx)
  have HB2 := hid (HBW.out.trans (hbx.mono HBW.out.size))
  clear E1 E2 hx hbx HXC HBW y0 y1 y2 y3
  cases p
  · go_wp2
    go_ret2
    exact ⟨st8, lp8, st9, lp9, HLL.out.1, HLL.out.2, by rw [← HPQ.out.1]; first | rfl | simp, HB2.out⟩
  · go_wp2_with fail
    refine D.out.mono ?_
    rintro e z3 ⟨rfl, k3, hz3⟩
    have HB3 : Hid (Below w.heap.size w z3) := by rw [hz3]; exact hid (below_drewN HB2.out _)
    clear D hz3
    go_wp2
    go_ret2
    exact ⟨st8, lp8, st9, lp9, HLL.out.1, HLL.out.2, by rw [← HPQ.out.1, ← HPQ.out.2]; first | rfl | simp, HB3.out⟩

end Go.Proofs.Ytgahdclbaifcbaa

