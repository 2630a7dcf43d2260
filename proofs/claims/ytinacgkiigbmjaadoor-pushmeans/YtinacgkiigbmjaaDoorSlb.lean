/- The rules of push for two Kids: slimPair. -/
import Derived.Test.YtinacgkiigbmjaaDoorSla
import Derived.Deep.CutRange
namespace Go.Proofs.YtinacgkiigbmjaaDoor
open Go.RowKit

section
variable {P : Program} {ops : Array Oper} {Q : Exit → Act → World → Prop} {md : Region.Mode} {S : World → Prop} {ex : Nat → Bool}
/-- Whichever of those that are ready comes up. -/
theorem G_alt {f : Nat} {listed : Array Bool} {a : Act} {w : World} {l : List Nat} (hr : Region.ready md ops listed = l) (hl : l ≠ [])
    (h : ∀ i, i ∈ l → ∃ o, ops[i]? = some o ∧ ∀ K' : Act → World → Prop, Shut (∀ a w, (ex i = false → S w) → ((ex i = false → S w) → wpAnyG P md ops Q S ex f (listed.setIfInBounds i true) a w) → K' a w) → if Region.wanted o (yielded ops a.tmps) = true then Oper.wp P o a w K' Q else K' (a.put o.dst undef) w) :
    wpAnyG P md ops Q S ex (f + 1) listed a w := by
  refine ⟨fun h0 => absurd (hr.symm.trans h0) hl, fun j hj => ?_⟩
  rw [hr] at hj
  obtain ⟨o, ho, hh⟩ := h j hj
  exact wpOp_step ho (fun K' hK => hh K' (fun a w hS hW => hK a w ⟨hS, hW hS⟩))
end

/-- What slimPair makes. -/
def slP (f : Fml) (d n : Int) : Fml := if (f.kid 0).kind = d ∨ (f.kid 1).kind = d then nd d 0 else if (f.kid 0).kind = n then f.kid 1 else if (f.kid 1).kind = n ∨ same (f.kid 0) (f.kid 1) = true then f.kid 0 else f
theorem slm_and {f : Fml} (hk : f.kind = 5) : slm f = slP f 2 1 := by
  unfold slm slP
  rw [if_neg (by omega), if_pos hk]
theorem slm_or {f : Fml} (hk : f.kind = 6) : slm f = slP f 1 2 := by
  unfold slm slP
  rw [if_neg (by omega), if_neg (by omega), if_pos hk]
/-- What slimWay makes. -/
def slW (f : Fml) (s g i : Int) : Fml := if ((f.kid 1).kind = 1 ∨ (f.kid 1).kind = 2) ∨ (f.kid 0).kind = s then f.kid 1 else if (f.kid 0).kind = g then (if (f.kid 1).kind = i then f.kid 1 else on i (f.kid 1)) else if same (f.kid 0) (f.kid 1) = true then f.kid 1 else f
theorem slm_until {f : Fml} (hk : f.kind = 8) : slm f = slW f 2 1 10 := by
  unfold slm slW
  rw [if_neg (by omega), if_neg (by omega), if_neg (by omega), if_neg (by omega), if_neg (by omega), if_neg (by omega), if_pos hk]
theorem slm_release {f : Fml} (hk : f.kind = 9) : slm f = slW f 1 2 11 := by
  unfold slm slW
  rw [if_neg (by omega), if_neg (by omega), if_neg (by omega), if_neg (by omega), if_neg (by omega), if_neg (by omega), if_neg (by omega), if_pos hk]

set_option maxHeartbeats 4000000 in
theorem pair51 {f : Fml} (p : Nat → Bool) (d n : Int) (hcc : f.cnt = 2) (a : Option Addr) (cap : Nat) (w : World) (h : Kq p w f a) :
    Calls Tryd.prog 51 #[.agg #[.int .i64 f.kind, .int .i64 f.num, .slice a f.cnt cap], .int .i64 d, .int .i64 n] w fun e w' => Nq p w (slP f d n) e w' := by
  obtain ⟨b, o, a0, c0, rfl, e1, e2, e3, e4, e5⟩ := kid_cells h (i := 0) (by omega)
  obtain ⟨b', o', a1, c1, hab, g1, g2, g3, g4, g5⟩ := kid_cells h (i := 1) (by omega)
  simp only [Option.some.injEq, Addr.mk.injEq, and_true] at hab
  obtain ⟨rfl, rfl⟩ := hab
  simp only [Nat.zero_mul, Nat.add_zero, Nat.one_mul] at e1 e2 e3 g1 g2 g3
  obtain ⟨u, hu⟩ : ∃ y, y = (w.alloc (.cells #[.int .i64 f.kind, .int .i64 f.num, .slice (some ⟨b, o, none⟩) f.cnt cap] 24)).alloc (.cells #[.int .i64 0, .int .i64 0, .slice none 0 0] 24) := ⟨_, rfl⟩
  obtain ⟨hs, hBu, hT1, hT2⟩ := two_new w _ _ _ _ hu
  obtain ⟨k0, hk0⟩ : ∃ y, y = f.kid 0 := ⟨_, rfl⟩
  obtain ⟨k1, hk1⟩ : ∃ y, y = f.kid 1 := ⟨_, rfl⟩
  rw [← hk0] at e1 e2 e3 e4 e5
  rw [← hk1] at g1 g2 g3 g4 g5
  have HS : Hid (∀ y, Below u.heap.size u y → y.cell? ⟨w.heap.size, 2, none⟩ = some (.slice (some ⟨b, o, none⟩) f.cnt cap) ∧ y.cell? ⟨b, o, none⟩ = some (.int .i64 k0.kind) ∧ y.cell? ⟨b, o + 1, none⟩ = some (.int .i64 k0.num) ∧ y.cell? ⟨b, o + 2, none⟩ = some (.slice a0 k0.cnt c0) ∧ y.cell? ⟨b, o + 3, none⟩ = some (.int .i64 k1.kind) ∧ y.cell? ⟨b, o + 3 + 1, none⟩ = some (.int .i64 k1.num) ∧ y.cell? ⟨b, o + 3 + 2, none⟩ = some (.slice a1 k1.cnt c1)) := fun y hy => by
    have hy2 := hBu.trans (hy.mono hBu.size)
    exact ⟨(tri_cells (Tri.below (show Tri u w.heap.size (.int .i64 f.kind) (.int .i64 f.num) (.slice (some ⟨b, o, none⟩) f.cnt cap) from hT1) hy)).1.2.2, below_cell hy2 (Nat.le_refl _) e1, below_cell hy2 (Nat.le_refl _) e2, below_cell hy2 (Nat.le_refl _) e3, below_cell hy2 (Nat.le_refl _) g1, below_cell hy2 (Nat.le_refl _) g2, below_cell hy2 (Nat.le_refl _) g3⟩
  have HX : Hid (u.heap.size = w.heap.size + 1 + 1 ∧ Below w.heap.size w u ∧ Tri u w.heap.size (.int .i64 f.kind) (.int .i64 f.num) (.slice (some ⟨b, o, none⟩) f.cnt cap) ∧ Tri u (w.heap.size + 1) (.int .i64 0) (.int .i64 0) (.slice none 0 0)) := ⟨hs, hBu, hT1, hT2⟩
  have HU := hid hu
  have HKF := hid h
  have HK0 := hid (And.intro e5 e4)
  have HK1 := hid (And.intro g5 g4)
  have hcz : (1 : Int) < f.cnt := by omega
  have hcz0 : (0 : Int) < f.cnt := by omega
  have hcn : 1 < f.cnt := by omega
  have hcn0 : 0 < f.cnt := by omega
  have hE : slP f d n = if k0.kind = d ∨ k1.kind = d then nd d 0 else if k0.kind = n then k1 else if k1.kind = n ∨ same k0 k1 = true then k0 else f := by rw [hk0, hk1]; rfl
  clear hu hs hBu hT1 hT2 h e1 e2 e3 e4 e5 g1 g2 g3 g4 g5 hk0 hk1 hcc
  have HE := hid hE
  clear hE
  generalize slP f d n = g at *
  go_enter Tryd.func51, Tryd.ntmps51
  go_wp2
  rw [← HU.out]
  clear HU
  go_cut [7, 8] from 9 to 16 (fun v7 v8 wc => ∃ x7 x8, v7 = .pointer (some ⟨x7, 0, none⟩) ∧ v8 = .pointer (some ⟨x8, 0, none⟩) ∧ Hid (Below u.heap.size u wc ∧ Tri wc x7 (.int .i64 k0.kind) (.int .i64 k0.num) (.slice a0 k0.cnt c0) ∧ Tri wc x8 (.int .i64 k1.kind) (.int .i64 k1.num) (.slice a1 k1.cnt c1)))
  case first =>
    have hB0 : Below u.heap.size u u.drew := below_drewN (Below.refl _ _) 1
    refine G_region (fun y => y.cell? ⟨w.heap.size, 2, none⟩ = some (.slice (some ⟨b, o, none⟩) f.cnt cap) ∧ y.cell? ⟨b, o, none⟩ = some (.int .i64 k0.kind) ∧ y.cell? ⟨b, o + 1, none⟩ = some (.int .i64 k0.num) ∧ y.cell? ⟨b, o + 2, none⟩ = some (.slice a0 k0.cnt c0) ∧ y.cell? ⟨b, o + 3, none⟩ = some (.int .i64 k1.kind) ∧ y.cell? ⟨b, o + 3 + 1, none⟩ = some (.int .i64 k1.num) ∧ y.cell? ⟨b, o + 3 + 2, none⟩ = some (.slice a1 k1.cnt c1)) (fun _ => false) (by kernel_rfl) (HS.out _ hB0) (fun _ => ?_)
    refine G_take (i := 0) (oi := { dst := some 9, op := Op.fieldAddr 24 (Operand.tmp 3) 2, type := 0, pos := _, after := #[], guard := none }) (v := .pointer (some ⟨w.heap.size, 2, none⟩)) rfl (by kernel_rfl) (by kernel_rfl) (by kernel_rfl) (by kernel_rfl) (fun _ _ _ h => h) (by rfl) (fun u hu => ?_) (HS.out _ hB0) ?_
    · (try dsimp only at hu); go_simp
    (try simp only [Act.put, List.setIfInBounds_toArray, List.set_cons_zero, List.set_cons_succ])
    refine G_take (i := 1) (oi := { dst := some 10, op := Op.load 22 (Operand.tmp 9), type := 22, pos := _, after := #[{ on := 0, ground := Ground.data }], guard := none }) (v := .slice (some ⟨b, o, none⟩) f.cnt cap) rfl (by kernel_rfl) (by kernel_rfl) (by kernel_rfl) (by kernel_rfl) (fun _ _ _ h => h) (by rfl) (fun u hu => ?_) (HS.out _ hB0) ?_
    · (try dsimp only at hu); go_simp
    (try simp only [Act.put, List.setIfInBounds_toArray, List.set_cons_zero, List.set_cons_succ])
    refine G_take (i := 2) (oi := { dst := some 11, op := Op.indexAddr 22 (Operand.tmp 10) (Operand.const (Value.int IntKind.i64 0)), type := 0, pos := _, after := #[{ on := 1, ground := Ground.data }], guard := none }) (v := .pointer (some ⟨b, o, none⟩)) rfl (by kernel_rfl) (by kernel_rfl) (by kernel_rfl) (by kernel_rfl) (fun _ _ _ h => h) (by rfl) (fun u hu => ?_) (HS.out _ hB0) ?_
    · (try dsimp only at hu); go_simp
    (try simp only [Act.put, List.setIfInBounds_toArray, List.set_cons_zero, List.set_cons_succ])
    refine G_take (i := 3) (oi := { dst := some 12, op := Op.load 24 (Operand.tmp 11), type := 24, pos := _, after := #[{ on := 2, ground := Ground.data }], guard := none }) (v := .agg #[.int .i64 k0.kind, .int .i64 k0.num, .slice a0 k0.cnt c0]) rfl (by kernel_rfl) (by kernel_rfl) (by kernel_rfl) (by kernel_rfl) (fun _ _ _ h => h) (by rfl) (fun u hu => ?_) (HS.out _ hB0) ?_
    · (try dsimp only at hu); go_simp
    (try simp only [Act.put, List.setIfInBounds_toArray, List.set_cons_zero, List.set_cons_succ])
    refine G_take (i := 4) (oi := { dst := some 13, op := Op.fieldAddr 24 (Operand.tmp 3) 2, type := 0, pos := _, after := #[{ on := 10, ground := Ground.gcOnly Departure.lateStores }], guard := none }) (v := .pointer (some ⟨w.heap.size, 2, none⟩)) rfl (by kernel_rfl) (by kernel_rfl) (by kernel_rfl) (by kernel_rfl) (fun _ _ _ h => h) (by rfl) (fun u hu => ?_) (HS.out _ hB0) ?_
    · (try dsimp only at hu); go_simp
    (try simp only [Act.put, List.setIfInBounds_toArray, List.set_cons_zero, List.set_cons_succ])
    refine G_take (i := 5) (oi := { dst := some 14, op := Op.load 22 (Operand.tmp 13), type := 22, pos := _, after := #[{ on := 4, ground := Ground.data }, { on := 10, ground := Ground.gcOnly Departure.lateStores }], guard := none }) (v := .slice (some ⟨b, o, none⟩) f.cnt cap) rfl (by kernel_rfl) (by kernel_rfl) (by kernel_rfl) (by kernel_rfl) (fun _ _ _ h => h) (by rfl) (fun u hu => ?_) (HS.out _ hB0) ?_
    · (try dsimp only at hu); go_simp
    (try simp only [Act.put, List.setIfInBounds_toArray, List.set_cons_zero, List.set_cons_succ])
    refine G_take (i := 6) (oi := { dst := some 15, op := Op.indexAddr 22 (Operand.tmp 14) (Operand.const (Value.int IntKind.i64 1)), type := 0, pos := _, after := #[{ on := 5, ground := Ground.data }, { on := 10, ground := Ground.gcOnly Departure.lateStores }], guard := none }) (v := .pointer (some ⟨b, o + 3, none⟩)) rfl (by kernel_rfl) (by kernel_rfl) (by kernel_rfl) (by kernel_rfl) (fun _ _ _ h => h) (by rfl) (fun u hu => ?_) (HS.out _ hB0) ?_
    · (try dsimp only at hu); go_simp
    (try simp only [Act.put, List.setIfInBounds_toArray, List.set_cons_zero, List.set_cons_succ])
    refine G_take (i := 7) (oi := { dst := some 16, op := Op.load 24 (Operand.tmp 15), type := 24, pos := _, after := #[{ on := 6, ground := Ground.data }, { on := 10, ground := Ground.gcOnly Departure.lateStores }], guard := none }) (v := .agg #[.int .i64 k1.kind, .int .i64 k1.num, .slice a1 k1.cnt c1]) rfl (by kernel_rfl) (by kernel_rfl) (by kernel_rfl) (by kernel_rfl) (fun _ _ _ h => h) (by rfl) (fun u hu => ?_) (HS.out _ hB0) ?_
    · (try dsimp only at hu); go_simp
    (try simp only [Act.put, List.setIfInBounds_toArray, List.set_cons_zero, List.set_cons_succ])
    obtain ⟨y0, hy0⟩ : ∃ q, q = u.drew := ⟨_, rfl⟩
    rw [← hy0] at hB0 ⊢
    have hs0 : u.heap.size ≤ y0.heap.size := hB0.size
    clear hy0
    refine G_alt (l := [8, 9]) (by kernel_rfl) (by decide) ?_
    intro i hi
    have hi2 : i = 8 ∨ i = 9 := by simpa using hi
    clear hi
    rcases hi2 with rfl | rfl
    · refine ⟨{ dst := some 7, op := Op.alloc 24, type := 0, pos := _, after := #[], guard := none }, rfl, fun K' hK => ?_⟩
      go_simp
      obtain ⟨y1, hy1⟩ : ∃ q, q = y0.alloc (.cells #[.int .i64 0, .int .i64 0, .slice none 0 0] 24) := ⟨_, rfl⟩
      have hb1 : Below y0.heap.size y0 y1 := by rw [hy1]; exact box_below _ _
      have hx1 : Tri y1 y0.heap.size (.int .i64 0) (.int .i64 0) (.slice none 0 0) := by rw [hy1]; exact tri_new _ _ _ _
      have HS1 : Hid (y1.heap.size = y0.heap.size + 1) := by rw [hy1]; exact hid (by simp)
      rw [← hy1]
      have hB1 := hB0.trans (hb1.mono hB0.size)
      refine hK.out _ _ (fun _ => HS.out _ hB1) (fun _ => ?_)
      clear hK K' hy1
      (try simp only [Act.put, List.setIfInBounds_toArray, List.set_cons_zero, List.set_cons_succ])
      refine G_step (i := 9) (o := { dst := some 8, op := Op.alloc 24, type := 0, pos := _, after := #[], guard := none }) (by kernel_rfl) rfl (fun K' hK => ?_)
      go_simp
      obtain ⟨y2, hy2⟩ : ∃ q, q = y1.alloc (.cells #[.int .i64 0, .int .i64 0, .slice none 0 0] 24) := ⟨_, rfl⟩
      have hb2 : Below y1.heap.size y1 y2 := by rw [hy2]; exact box_below _ _
      have hx2 : Tri y2 y1.heap.size (.int .i64 0) (.int .i64 0) (.slice none 0 0) := by rw [hy2]; exact tri_new _ _ _ _
      have hx1 := hx1.below hb2
      rw [← hy2]
      have hB2 := hB1.trans (hb2.mono hB1.size)
      refine hK.out _ _ (fun _ => HS.out _ hB2) (fun _ => ?_)
      clear hK K' hy2
      (try simp only [Act.put, List.setIfInBounds_toArray, List.set_cons_zero, List.set_cons_succ])
      obtain ⟨x7, hx7⟩ : ∃ q, q = y0.heap.size := ⟨_, rfl⟩
      obtain ⟨x8, hx8⟩ : ∃ q, q = y1.heap.size := ⟨_, rfl⟩
      have hl7 : u.heap.size ≤ x7 := by have := HS1.out; omega
      have hl8 : u.heap.size ≤ x8 := by have := HS1.out; omega
      have hne : x7 ≠ x8 := by have := HS1.out; omega
      have hne' : x8 ≠ x7 := by have := HS1.out; omega
      have hA := hx1
      have hBk := hx2
      rw [← hx7] at hA ⊢
      rw [← hx8] at hBk ⊢
      clear hx1 hx2 hb1 hb2 hB1 hx7 hx8 HS1
      obtain ⟨⟨d0, d1, d2⟩, g0, g1, g2⟩ := tri_cells hA
      have hAl := hA.lt
      refine G_step (i := 10) (o := { dst := none, op := Op.store 24 (Operand.tmp 7) (Operand.tmp 12), type := 0, pos := _, after := #[{ on := 8, ground := Ground.data }, { on := 3, ground := Ground.data }, { on := 0, ground := Ground.phase }, { on := 1, ground := Ground.phase }, { on := 2, ground := Ground.phase }, { on := 3, ground := Ground.phase }, { on := 4, ground := Ground.textOnly Departure.lateStores }, { on := 5, ground := Ground.textOnly Departure.lateStores }, { on := 6, ground := Ground.textOnly Departure.lateStores }, { on := 7, ground := Ground.textOnly Departure.lateStores }, { on := 8, ground := Ground.phase }, { on := 9, ground := Ground.phase }], guard := none }) (by kernel_rfl) rfl (fun K' hK => ?_)
      go_simp
      obtain ⟨y3, hy3⟩ : ∃ q, q = ((y2.setCell ⟨x7, 0, none⟩ (.int .i64 k0.kind)).setCell ⟨x7, 1, none⟩ (.int .i64 k0.num)).setCell ⟨x7, 2, none⟩ (.slice a0 k0.cnt c0) := ⟨_, rfl⟩
      rw [← hy3]
      have hB3 : Below u.heap.size u y3 := by rw [hy3]; exact below_tri hB2 hl7 _ _ _
      have hA3 : Tri y3 x7 (.int .i64 k0.kind) (.int .i64 k0.num) (.slice a0 k0.cnt c0) := by rw [hy3]; exact tri_set hA _ _ _
      have hBk3 : Tri y3 x8 (.int .i64 0) (.int .i64 0) (.slice none 0 0) := by rw [hy3]; exact (blk_tri hne' _ _ _).trans hBk
      refine hK.out _ _ (fun _ => HS.out _ hB3) (fun _ => ?_)
      clear hK K' hy3 hA hBk hB2 d0 d1 d2 g0 g1 g2 hAl
      (try simp only [Act.put, List.setIfInBounds_toArray, List.set_cons_zero, List.set_cons_succ])
      obtain ⟨⟨d0, d1, d2⟩, g0, g1, g2⟩ := tri_cells hBk3
      have hBl := hBk3.lt
      refine G_step (i := 11) (o := { dst := none, op := Op.store 24 (Operand.tmp 8) (Operand.tmp 16), type := 0, pos := _, after := #[{ on := 9, ground := Ground.data }, { on := 7, ground := Ground.data }, { on := 10, ground := Ground.chain }, { on := 0, ground := Ground.phase }, { on := 1, ground := Ground.phase }, { on := 2, ground := Ground.phase }, { on := 3, ground := Ground.phase }, { on := 4, ground := Ground.phase }, { on := 5, ground := Ground.phase }, { on := 6, ground := Ground.phase }, { on := 7, ground := Ground.phase }, { on := 8, ground := Ground.phase }, { on := 9, ground := Ground.phase }, { on := 10, ground := Ground.phase }], guard := none }) (by kernel_rfl) rfl (fun K' hK => ?_)
      go_simp
      obtain ⟨y4, hy4⟩ : ∃ q, q = ((y3.setCell ⟨x8, 0, none⟩ (.int .i64 k1.kind)).setCell ⟨x8, 1, none⟩ (.int .i64 k1.num)).setCell ⟨x8, 2, none⟩ (.slice a1 k1.cnt c1) := ⟨_, rfl⟩
      rw [← hy4]
      have hB4 : Below u.heap.size u y4 := by rw [hy4]; exact below_tri hB3 hl8 _ _ _
      have hBk4 : Tri y4 x8 (.int .i64 k1.kind) (.int .i64 k1.num) (.slice a1 k1.cnt c1) := by rw [hy4]; exact tri_set hBk3 _ _ _
      have hA4 : Tri y4 x7 (.int .i64 k0.kind) (.int .i64 k0.num) (.slice a0 k0.cnt c0) := by rw [hy4]; exact (blk_tri hne _ _ _).trans hA3
      refine hK.out _ _ (fun _ => HS.out _ hB4) (fun _ => ?_)
      clear hK K' hy4 hA3 hBk3 hB3 d0 d1 d2 g0 g1 g2 hBl
      (try simp only [Act.put, List.setIfInBounds_toArray, List.set_cons_zero, List.set_cons_succ])
      refine G_done (by kernel_rfl) ?_ _
      have HFIN : Hid (Below u.heap.size u y4 ∧ Tri y4 x7 (.int .i64 k0.kind) (.int .i64 k0.num) (.slice a0 k0.cnt c0) ∧ Tri y4 x8 (.int .i64 k1.kind) (.int .i64 k1.num) (.slice a1 k1.cnt c1)) := ⟨hB4, hA4, hBk4⟩
      clear hB4 hA4 hBk4
      go_wp2_with fail
      go_meet
      exact ⟨x7, x8, rfl, rfl, HFIN⟩
    · refine ⟨{ dst := some 8, op := Op.alloc 24, type := 0, pos := _, after := #[], guard := none }, rfl, fun K' hK => ?_⟩
      go_simp
      obtain ⟨y1, hy1⟩ : ∃ q, q = y0.alloc (.cells #[.int .i64 0, .int .i64 0, .slice none 0 0] 24) := ⟨_, rfl⟩
      have hb1 : Below y0.heap.size y0 y1 := by rw [hy1]; exact box_below _ _
      have hx1 : Tri y1 y0.heap.size (.int .i64 0) (.int .i64 0) (.slice none 0 0) := by rw [hy1]; exact tri_new _ _ _ _
      have HS1 : Hid (y1.heap.size = y0.heap.size + 1) := by rw [hy1]; exact hid (by simp)
      rw [← hy1]
      have hB1 := hB0.trans (hb1.mono hB0.size)
      refine hK.out _ _ (fun _ => HS.out _ hB1) (fun _ => ?_)
      clear hK K' hy1
      (try simp only [Act.put, List.setIfInBounds_toArray, List.set_cons_zero, List.set_cons_succ])
      refine G_step (i := 8) (o := { dst := some 7, op := Op.alloc 24, type := 0, pos := _, after := #[], guard := none }) (by kernel_rfl) rfl (fun K' hK => ?_)
      go_simp
      obtain ⟨y2, hy2⟩ : ∃ q, q = y1.alloc (.cells #[.int .i64 0, .int .i64 0, .slice none 0 0] 24) := ⟨_, rfl⟩
      have hb2 : Below y1.heap.size y1 y2 := by rw [hy2]; exact box_below _ _
      have hx2 : Tri y2 y1.heap.size (.int .i64 0) (.int .i64 0) (.slice none 0 0) := by rw [hy2]; exact tri_new _ _ _ _
      have hx1 := hx1.below hb2
      rw [← hy2]
      have hB2 := hB1.trans (hb2.mono hB1.size)
      refine hK.out _ _ (fun _ => HS.out _ hB2) (fun _ => ?_)
      clear hK K' hy2
      (try simp only [Act.put, List.setIfInBounds_toArray, List.set_cons_zero, List.set_cons_succ])
      obtain ⟨x7, hx7⟩ : ∃ q, q = y1.heap.size := ⟨_, rfl⟩
      obtain ⟨x8, hx8⟩ : ∃ q, q = y0.heap.size := ⟨_, rfl⟩
      have hl7 : u.heap.size ≤ x7 := by have := HS1.out; omega
      have hl8 : u.heap.size ≤ x8 := by have := HS1.out; omega
      have hne : x7 ≠ x8 := by have := HS1.out; omega
      have hne' : x8 ≠ x7 := by have := HS1.out; omega
      have hA := hx2
      have hBk := hx1
      rw [← hx7] at hA ⊢
      rw [← hx8] at hBk ⊢
      clear hx1 hx2 hb1 hb2 hB1 hx7 hx8 HS1
      obtain ⟨⟨d0, d1, d2⟩, g0, g1, g2⟩ := tri_cells hA
      have hAl := hA.lt
      refine G_step (i := 10) (o := { dst := none, op := Op.store 24 (Operand.tmp 7) (Operand.tmp 12), type := 0, pos := _, after := #[{ on := 8, ground := Ground.data }, { on := 3, ground := Ground.data }, { on := 0, ground := Ground.phase }, { on := 1, ground := Ground.phase }, { on := 2, ground := Ground.phase }, { on := 3, ground := Ground.phase }, { on := 4, ground := Ground.textOnly Departure.lateStores }, { on := 5, ground := Ground.textOnly Departure.lateStores }, { on := 6, ground := Ground.textOnly Departure.lateStores }, { on := 7, ground := Ground.textOnly Departure.lateStores }, { on := 8, ground := Ground.phase }, { on := 9, ground := Ground.phase }], guard := none }) (by kernel_rfl) rfl (fun K' hK => ?_)
      go_simp
      obtain ⟨y3, hy3⟩ : ∃ q, q = ((y2.setCell ⟨x7, 0, none⟩ (.int .i64 k0.kind)).setCell ⟨x7, 1, none⟩ (.int .i64 k0.num)).setCell ⟨x7, 2, none⟩ (.slice a0 k0.cnt c0) := ⟨_, rfl⟩
      rw [← hy3]
      have hB3 : Below u.heap.size u y3 := by rw [hy3]; exact below_tri hB2 hl7 _ _ _
      have hA3 : Tri y3 x7 (.int .i64 k0.kind) (.int .i64 k0.num) (.slice a0 k0.cnt c0) := by rw [hy3]; exact tri_set hA _ _ _
      have hBk3 : Tri y3 x8 (.int .i64 0) (.int .i64 0) (.slice none 0 0) := by rw [hy3]; exact (blk_tri hne' _ _ _).trans hBk
      refine hK.out _ _ (fun _ => HS.out _ hB3) (fun _ => ?_)
      clear hK K' hy3 hA hBk hB2 d0 d1 d2 g0 g1 g2 hAl
      (try simp only [Act.put, List.setIfInBounds_toArray, List.set_cons_zero, List.set_cons_succ])
      obtain ⟨⟨d0, d1, d2⟩, g0, g1, g2⟩ := tri_cells hBk3
      have hBl := hBk3.lt
      refine G_step (i := 11) (o := { dst := none, op := Op.store 24 (Operand.tmp 8) (Operand.tmp 16), type := 0, pos := _, after := #[{ on := 9, ground := Ground.data }, { on := 7, ground := Ground.data }, { on := 10, ground := Ground.chain }, { on := 0, ground := Ground.phase }, { on := 1, ground := Ground.phase }, { on := 2, ground := Ground.phase }, { on := 3, ground := Ground.phase }, { on := 4, ground := Ground.phase }, { on := 5, ground := Ground.phase }, { on := 6, ground := Ground.phase }, { on := 7, ground := Ground.phase }, { on := 8, ground := Ground.phase }, { on := 9, ground := Ground.phase }, { on := 10, ground := Ground.phase }], guard := none }) (by kernel_rfl) rfl (fun K' hK => ?_)
      go_simp
      obtain ⟨y4, hy4⟩ : ∃ q, q = ((y3.setCell ⟨x8, 0, none⟩ (.int .i64 k1.kind)).setCell ⟨x8, 1, none⟩ (.int .i64 k1.num)).setCell ⟨x8, 2, none⟩ (.slice a1 k1.cnt c1) := ⟨_, rfl⟩
      rw [← hy4]
      have hB4 : Below u.heap.size u y4 := by rw [hy4]; exact below_tri hB3 hl8 _ _ _
      have hBk4 : Tri y4 x8 (.int .i64 k1.kind) (.int .i64 k1.num) (.slice a1 k1.cnt c1) := by rw [hy4]; exact tri_set hBk3 _ _ _
      have hA4 : Tri y4 x7 (.int .i64 k0.kind) (.int .i64 k0.num) (.slice a0 k0.cnt c0) := by rw [hy4]; exact (blk_tri hne _ _ _).trans hA3
      refine hK.out _ _ (fun _ => HS.out _ hB4) (fun _ => ?_)
      clear hK K' hy4 hA3 hBk3 hB3 d0 d1 d2 g0 g1 g2 hBl
      (try simp only [Act.put, List.setIfInBounds_toArray, List.set_cons_zero, List.set_cons_succ])
      refine G_done (by kernel_rfl) ?_ _
      have HFIN : Hid (Below u.heap.size u y4 ∧ Tri y4 x7 (.int .i64 k0.kind) (.int .i64 k0.num) (.slice a0 k0.cnt c0) ∧ Tri y4 x8 (.int .i64 k1.kind) (.int .i64 k1.num) (.slice a1 k1.cnt c1)) := ⟨hB4, hA4, hBk4⟩
      clear hB4 hA4 hBk4
      go_wp2_with fail
      go_meet
      exact ⟨x7, x8, rfl, rfl, HFIN⟩
  obtain ⟨x7, x8, rfl, rfl, HC⟩ := hcut
  obtain ⟨⟨v0, v1, v2⟩, -⟩ := tri_cells HC.out.2.1
  obtain ⟨⟨s0, s1, s2⟩, -⟩ := tri_cells HC.out.2.2
  obtain ⟨⟨f0, f1, f2⟩, -⟩ := tri_cells (HX.out.2.2.1.below HC.out.1)
  obtain ⟨⟨r0, r1, r2⟩, z0, z1, z2⟩ := tri_cells (HX.out.2.2.2.below HC.out.1)
  have hlt := (HX.out.2.2.2.below HC.out.1).lt
  have HB3 : Hid (Below w.heap.size w wc) := HX.out.2.1.trans (HC.out.1.mono HX.out.2.1.size)
  have HT3 := hid (HX.out.2.2.2.below HC.out.1)
  have hE := HE.out
  by_cases q1 : k0.kind = d
  · rw [if_pos (Or.inl q1)] at hE
    have HEq := hid hE
    have q1b : (k0.kind == d) = true := beq_iff_eq.2 q1
    clear hE HE q1
    have C := hid (part_g d none 0 0 wc)
    go_wp2_with fail
    refine C.out.mono ?_
    rintro e w4 ⟨rfl, hb4⟩
    clear v0 v1 v2 s0 s1 s2 f0 f1 f2 r0 r1 r2 z0 z1 z2 hlt HB3 HT3 C
    obtain ⟨⟨v0, v1, v2⟩, -⟩ := tri_cells (HC.out.2.1.below hb4)
    obtain ⟨⟨s0, s1, s2⟩, -⟩ := tri_cells (HC.out.2.2.below hb4)
    have hbu4 := HC.out.1.trans (hb4.mono HC.out.1.size)
    obtain ⟨⟨f0, f1, f2⟩, -⟩ := tri_cells (HX.out.2.2.1.below hbu4)
    obtain ⟨⟨r0, r1, r2⟩, z0, z1, z2⟩ := tri_cells (HX.out.2.2.2.below hbu4)
    have hlt := (HX.out.2.2.2.below hbu4).lt
    have HB3 : Hid (Below w.heap.size w w4) := HX.out.2.1.trans (hbu4.mono HX.out.2.1.size)
    have HT3 := hid (HX.out.2.2.2.below hbu4)
    clear hb4 hbu4
    go_wp2
    (try simp only [Exit.inBlock, Exit.then])
    refine bodyPost_ret (results_cell_row rfl _ _ (w.heap.size + 1) 24 #[.int .i64 d, .int .i64 0, .slice none 0 0] (0, 0) _ rfl (tri_set HT3.out _ _ _) Tryd.underlying24 rfl (by kernel_rfl)) rfl ?_
    rw [HEq.out]
    have hbf := below_tri (x := w.heap.size + 1) HB3.out (by omega) (.int .i64 d) (.int .i64 0) (.slice none 0 0)
    exact ⟨none, 0, rfl, Kq.nd _ _ _, hbf⟩
  have q1b : (k0.kind == d) = false := beq_eq_false_iff_ne.2 q1
  by_cases q2 : k1.kind = d
  · rw [if_pos (Or.inr q2)] at hE
    have HEq := hid hE
    have q2b : (k1.kind == d) = true := beq_iff_eq.2 q2
    clear hE HE q1 q2
    have C := hid (part_g d none 0 0 wc)
    go_wp2_with fail
    refine C.out.mono ?_
    rintro e w4 ⟨rfl, hb4⟩
    clear v0 v1 v2 s0 s1 s2 f0 f1 f2 r0 r1 r2 z0 z1 z2 hlt HB3 HT3 C
    obtain ⟨⟨v0, v1, v2⟩, -⟩ := tri_cells (HC.out.2.1.below hb4)
    obtain ⟨⟨s0, s1, s2⟩, -⟩ := tri_cells (HC.out.2.2.below hb4)
    have hbu4 := HC.out.1.trans (hb4.mono HC.out.1.size)
    obtain ⟨⟨f0, f1, f2⟩, -⟩ := tri_cells (HX.out.2.2.1.below hbu4)
    obtain ⟨⟨r0, r1, r2⟩, z0, z1, z2⟩ := tri_cells (HX.out.2.2.2.below hbu4)
    have hlt := (HX.out.2.2.2.below hbu4).lt
    have HB3 : Hid (Below w.heap.size w w4) := HX.out.2.1.trans (hbu4.mono HX.out.2.1.size)
    have HT3 := hid (HX.out.2.2.2.below hbu4)
    clear hb4 hbu4
    go_wp2
    (try simp only [Exit.inBlock, Exit.then])
    refine bodyPost_ret (results_cell_row rfl _ _ (w.heap.size + 1) 24 #[.int .i64 d, .int .i64 0, .slice none 0 0] (0, 0) _ rfl (tri_set HT3.out _ _ _) Tryd.underlying24 rfl (by kernel_rfl)) rfl ?_
    rw [HEq.out]
    have hbf := below_tri (x := w.heap.size + 1) HB3.out (by omega) (.int .i64 d) (.int .i64 0) (.slice none 0 0)
    exact ⟨none, 0, rfl, Kq.nd _ _ _, hbf⟩
  have q2b : (k1.kind == d) = false := beq_eq_false_iff_ne.2 q2
  rw [if_neg (by rintro (h1 | h1); exact q1 h1; exact q2 h1)] at hE
  by_cases q3 : k0.kind = n
  · rw [if_pos q3] at hE
    have HEq := hid hE
    have q3b : (k0.kind == n) = true := beq_iff_eq.2 q3
    clear hE HE q1 q2 q3
    go_wp2
    (try simp only [Exit.inBlock, Exit.then])
    refine bodyPost_ret (results_cell_row rfl _ _ (w.heap.size + 1) 24 #[.int .i64 k1.kind, .int .i64 k1.num, .slice a1 k1.cnt c1] (0, 0) _ rfl (tri_set HT3.out _ _ _) Tryd.underlying24 rfl (by kernel_rfl)) rfl ?_
    rw [HEq.out]
    have hbf := below_tri (x := w.heap.size + 1) HB3.out (by omega) (.int .i64 k1.kind) (.int .i64 k1.num) (.slice a1 k1.cnt c1)
    exact ⟨a1, c1, rfl, HK1.out.1.below hbf, hbf⟩
  have q3b : (k0.kind == n) = false := beq_eq_false_iff_ne.2 q3
  rw [if_neg q3] at hE
  by_cases q4 : k1.kind = n
  · rw [if_pos (Or.inl q4)] at hE
    have HEq := hid hE
    have q4b : (k1.kind == n) = true := beq_iff_eq.2 q4
    clear hE HE q1 q2 q3 q4
    go_wp2
    (try simp only [Exit.inBlock, Exit.then])
    refine bodyPost_ret (results_cell_row rfl _ _ (w.heap.size + 1) 24 #[.int .i64 k0.kind, .int .i64 k0.num, .slice a0 k0.cnt c0] (0, 0) _ rfl (tri_set HT3.out _ _ _) Tryd.underlying24 rfl (by kernel_rfl)) rfl ?_
    rw [HEq.out]
    have hbf := below_tri (x := w.heap.size + 1) HB3.out (by omega) (.int .i64 k0.kind) (.int .i64 k0.num) (.slice a0 k0.cnt c0)
    exact ⟨a0, c0, rfl, HK0.out.1.below hbf, hbf⟩
  have q4b : (k1.kind == n) = false := beq_eq_false_iff_ne.2 q4
  have C := hid (same62 k0 k1 a0 a1 c0 c1 wc (HK0.out.1.out.below HB3.out) (HK1.out.1.out.below HB3.out) HK0.out.2 HK1.out.2)
  by_cases q5 : same k0 k1 = true
  · rw [if_pos (Or.inr q5)] at hE
    have HEq := hid hE
    rw [q5] at C
    clear hE HE q1 q2 q3 q4 q5
    go_wp2_with fail
    refine C.out.mono ?_
    rintro e w4 ⟨rfl, hb4⟩
    clear v0 v1 v2 s0 s1 s2 f0 f1 f2 r0 r1 r2 z0 z1 z2 hlt HB3 HT3 C
    obtain ⟨⟨v0, v1, v2⟩, -⟩ := tri_cells (HC.out.2.1.below hb4)
    obtain ⟨⟨s0, s1, s2⟩, -⟩ := tri_cells (HC.out.2.2.below hb4)
    have hbu4 := HC.out.1.trans (hb4.mono HC.out.1.size)
    obtain ⟨⟨f0, f1, f2⟩, -⟩ := tri_cells (HX.out.2.2.1.below hbu4)
    obtain ⟨⟨r0, r1, r2⟩, z0, z1, z2⟩ := tri_cells (HX.out.2.2.2.below hbu4)
    have hlt := (HX.out.2.2.2.below hbu4).lt
    have HB3 : Hid (Below w.heap.size w w4) := HX.out.2.1.trans (hbu4.mono HX.out.2.1.size)
    have HT3 := hid (HX.out.2.2.2.below hbu4)
    clear hb4 hbu4
    go_wp2
    (try simp only [Exit.inBlock, Exit.then])
    refine bodyPost_ret (results_cell_row rfl _ _ (w.heap.size + 1) 24 #[.int .i64 k0.kind, .int .i64 k0.num, .slice a0 k0.cnt c0] (0, 0) _ rfl (tri_set HT3.out _ _ _) Tryd.underlying24 rfl (by kernel_rfl)) rfl ?_
    rw [HEq.out]
    have hbf := below_tri (x := w.heap.size + 1) HB3.out (by omega) (.int .i64 k0.kind) (.int .i64 k0.num) (.slice a0 k0.cnt c0)
    exact ⟨a0, c0, rfl, HK0.out.1.below hbf, hbf⟩
  · rw [if_neg (by rintro (h1 | h1); exact q4 h1; exact q5 h1)] at hE
    have HEq := hid hE
    have q5' : same k0 k1 = false := by simpa using q5
    rw [q5'] at C
    clear hE HE q1 q2 q3 q4 q5 q5'
    go_wp2_with fail
    refine C.out.mono ?_
    rintro e w4 ⟨rfl, hb4⟩
    clear v0 v1 v2 s0 s1 s2 f0 f1 f2 r0 r1 r2 z0 z1 z2 hlt HB3 HT3 C
    obtain ⟨⟨v0, v1, v2⟩, -⟩ := tri_cells (HC.out.2.1.below hb4)
    obtain ⟨⟨s0, s1, s2⟩, -⟩ := tri_cells (HC.out.2.2.below hb4)
    have hbu4 := HC.out.1.trans (hb4.mono HC.out.1.size)
    obtain ⟨⟨f0, f1, f2⟩, -⟩ := tri_cells (HX.out.2.2.1.below hbu4)
    obtain ⟨⟨r0, r1, r2⟩, z0, z1, z2⟩ := tri_cells (HX.out.2.2.2.below hbu4)
    have hlt := (HX.out.2.2.2.below hbu4).lt
    have HB3 : Hid (Below w.heap.size w w4) := HX.out.2.1.trans (hbu4.mono HX.out.2.1.size)
    have HT3 := hid (HX.out.2.2.2.below hbu4)
    clear hb4 hbu4
    go_wp2
    (try simp only [Exit.inBlock, Exit.then])
    refine bodyPost_ret (results_cell_row rfl _ _ (w.heap.size + 1) 24 #[.int .i64 f.kind, .int .i64 f.num, .slice (some ⟨b, o, none⟩) f.cnt cap] (0, 0) _ rfl (tri_set HT3.out _ _ _) Tryd.underlying24 rfl (by kernel_rfl)) rfl ?_
    rw [HEq.out]
    have hbf := below_tri (x := w.heap.size + 1) HB3.out (by omega) (.int .i64 f.kind) (.int .i64 f.num) (.slice (some ⟨b, o, none⟩) f.cnt cap)
    exact ⟨(some ⟨b, o, none⟩), cap, rfl, HKF.out.below hbf, hbf⟩

end Go.Proofs.YtinacgkiigbmjaaDoor
