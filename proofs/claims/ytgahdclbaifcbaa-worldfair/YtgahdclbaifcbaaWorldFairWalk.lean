/- The law WorldFair. -/
import Derived.Test.YtgahdclbaifcbaaEqb
import Derived.Test.YtgahdclbaifcbaaBgn
import Derived.Test.YtgahdclbaifcbaaGdw
namespace Go.Proofs.Ytgahdclbaifcbaa
open Go.RowKit

/-- The same world without fair sets. -/
def Wx.bare (A : Wx) : Wx := ⟨A.sa, A.sn, A.sc, A.na, A.G, A.nc, A.la, A.M, A.lc, none, 0, 0, A.S, A.L, A.Z, A.Lb, A.FL, A.FZ⟩
theorem Ww.bare {w : World} {A : Wx} (h : Ww w A) : Ww w A.bare :=
  ⟨h.start, h.next, h.label, ⟨0, 0, fun e => absurd e (Nat.lt_irrefl 0), fun r hr => absurd hr (Nat.not_lt_zero r)⟩, h.s47, h.g47, h.l47, h.m47, Nat.zero_le _, fun r hr => absurd hr (Nat.not_lt_zero r), h.lb⟩
theorem bare_ok {A : Wx} (h : chkW A = 0) : chkW A.bare = 0 := by
  have k := chkW_ok h
  obtain ⟨k1, k2, k3, k4, k5, k6, k7⟩ := k
  unfold chkW
  rw [if_neg (by show ¬ (600 < A.G ∨ 80 < 0); omega), if_neg (by show ¬ (A.M ≠ A.G); omega), if_pos ⟨allIn_yes k4, onL_yes k5, okL_yes (fun r hr => allIn_yes (k6 r hr)), okL_yes (fun r hr => absurd hr (Nat.not_lt_zero r))⟩]

theorem rowb_two (w : World) : Rowb (w.alloc (.cells #[.bool true, .bool true] 4)) (some ⟨w.heap.size, 0, none⟩) 2 (fun _ => true) := by
  have h := Go.Deep.blk_alloc_new w (.cells #[.bool true, .bool true] 4)
  refine ⟨w.heap.size, 0, fun _ => rfl, fun i hi => ?_⟩
  unfold World.cell?
  simp only [h]
  rcases lt2 hi with rfl | rfl <;> rfl
theorem Mk0.below {w w2 : World} {b G : Nat} {P : Nat → Prop} (h : Mk0 w b G P) (h2 : Below w.heap.size w w2) : Mk0 w2 b G P := by
  obtain ⟨R, h4, h5⟩ := h
  exact ⟨R, h4.of_block (h2.block _ h4.lt), h5⟩
theorem Mk0.all {w : World} {b G : Nat} {P : Nat → Prop} (h : Mk0 w b G P) (hp : ∀ x, x < G → P x) : w.rowIs b 4 G (fun _ => .bool true) := by
  obtain ⟨R, h4, h5⟩ := h
  exact h4.congr (fun i hi => by rw [(h5 i hi).2 (hp i hi)])

/-- A new variable of a list, and what is stored there. -/
theorem box29 (w : World) (v : Value) : ∃ W, w.alloc (.cells #[.slice none 0 0] 29) = W ∧ W.cell? ⟨w.heap.size, 0, none⟩ = some (.slice none 0 0) ∧ W.frozen? ⟨w.heap.size, 0, none⟩ = false ∧ Below w.heap.size w (W.setCell ⟨w.heap.size, 0, none⟩ v) ∧ (W.setCell ⟨w.heap.size, 0, none⟩ v).cell? ⟨w.heap.size, 0, none⟩ = some v := by
  have h := World.rowIs_alloc w #[.slice none 0 0] 29 (fun _ => .slice none 0 0) (fun i hi => by
    have e : i = 0 := by simpa using hi
    subst e
    rfl)
  refine ⟨_, rfl, h.cell (i := 0) (by simp), h.frozen 0, (box_below w _).setCell (Nat.le_refl _) v, ?_⟩
  have := (h.set 0 v).cell (i := 0) (by simp)
  simpa using this

/-- A new variable of a world, what is stored there, and the fair sets taken away. -/
theorem box26 (w : World) (v0 v1 v2 v3 : Value) : ∃ W, w.alloc (.cells #[.slice none 0 0, .slice none 0 0, .slice none 0 0, .slice none 0 0] 26) = W ∧
    W.cell? ⟨w.heap.size, 0, none⟩ = some (.slice none 0 0) ∧ W.cell? ⟨w.heap.size, 1, none⟩ = some (.slice none 0 0) ∧ W.cell? ⟨w.heap.size, 2, none⟩ = some (.slice none 0 0) ∧ W.cell? ⟨w.heap.size, 3, none⟩ = some (.slice none 0 0) ∧
    W.frozen? ⟨w.heap.size, 0, none⟩ = false ∧ W.frozen? ⟨w.heap.size, 1, none⟩ = false ∧ W.frozen? ⟨w.heap.size, 2, none⟩ = false ∧ W.frozen? ⟨w.heap.size, 3, none⟩ = false ∧
    ((((W.setCell ⟨w.heap.size, 0, none⟩ v0).setCell ⟨w.heap.size, 1, none⟩ v1).setCell ⟨w.heap.size, 2, none⟩ v2).setCell ⟨w.heap.size, 3, none⟩ v3).frozen? ⟨w.heap.size, 3, none⟩ = false ∧ Below w.heap.size w (((((W.setCell ⟨w.heap.size, 0, none⟩ v0).setCell ⟨w.heap.size, 1, none⟩ v1).setCell ⟨w.heap.size, 2, none⟩ v2).setCell ⟨w.heap.size, 3, none⟩ v3).setCell ⟨w.heap.size, 3, none⟩ (.slice none 0 0)) ∧
    (((((W.setCell ⟨w.heap.size, 0, none⟩ v0).setCell ⟨w.heap.size, 1, none⟩ v1).setCell ⟨w.heap.size, 2, none⟩ v2).setCell ⟨w.heap.size, 3, none⟩ v3).setCell ⟨w.heap.size, 3, none⟩ (.slice none 0 0)).cell? ⟨w.heap.size, 0, none⟩ = some v0 ∧ (((((W.setCell ⟨w.heap.size, 0, none⟩ v0).setCell ⟨w.heap.size, 1, none⟩ v1).setCell ⟨w.heap.size, 2, none⟩ v2).setCell ⟨w.heap.size, 3, none⟩ v3).setCell ⟨w.heap.size, 3, none⟩ (.slice none 0 0)).cell? ⟨w.heap.size, 1, none⟩ = some v1 ∧ (((((W.setCell ⟨w.heap.size, 0, none⟩ v0).setCell ⟨w.heap.size, 1, none⟩ v1).setCell ⟨w.heap.size, 2, none⟩ v2).setCell ⟨w.heap.size, 3, none⟩ v3).setCell ⟨w.heap.size, 3, none⟩ (.slice none 0 0)).cell? ⟨w.heap.size, 2, none⟩ = some v2 ∧ (((((W.setCell ⟨w.heap.size, 0, none⟩ v0).setCell ⟨w.heap.size, 1, none⟩ v1).setCell ⟨w.heap.size, 2, none⟩ v2).setCell ⟨w.heap.size, 3, none⟩ v3).setCell ⟨w.heap.size, 3, none⟩ (.slice none 0 0)).cell? ⟨w.heap.size, 3, none⟩ = some (.slice none 0 0) := by
  have h : (w.alloc (.cells #[.slice none 0 0, .slice none 0 0, .slice none 0 0, .slice none 0 0] 26)).heap[w.heap.size]? = some (.cells #[.slice none 0 0, .slice none 0 0, .slice none 0 0, .slice none 0 0] 26) := Go.Deep.blk_alloc_new _ _
  obtain ⟨W, hW⟩ : ∃ W, w.alloc (.cells #[.slice none 0 0, .slice none 0 0, .slice none 0 0, .slice none 0 0] 26) = W := ⟨_, rfl⟩
  have hb : Below w.heap.size w W := by rw [← hW]; exact box_below _ _
  rw [hW] at h
  generalize w.heap.size = B at *
  have h0 := blk_setCell (i := 0) (v := v0) h
  have h1 := blk_setCell (i := 1) (v := v1) h0
  have h2 := blk_setCell (i := 2) (v := v2) h1
  have h3 := blk_setCell (i := 3) (v := v3) h2
  have h4 := blk_setCell (i := 3) (v := .slice none 0 0) h3
  refine ⟨W, hW, cell_of_cells h rfl, cell_of_cells h rfl, cell_of_cells h rfl, cell_of_cells h rfl, by simp [World.frozen?, h], by simp [World.frozen?, h], by simp [World.frozen?, h], by simp [World.frozen?, h], by simp [World.frozen?, h3], ?_, cell_of_cells h4 rfl, cell_of_cells h4 rfl, cell_of_cells h4 rfl, cell_of_cells h4 rfl⟩
  exact ((((hb.setCell (Nat.le_refl _) _).setCell (Nat.le_refl _) _).setCell (Nat.le_refl _) _).setCell (Nat.le_refl _) _).setCell (Nat.le_refl _) _

set_option maxHeartbeats 4000000 in
theorem worldFair_walk (A : Wx) (w : World) (h : Ww w A) :
    Calls Try.prog 5 #[.agg #[.slice A.sa A.sn A.sc, .slice A.na A.G A.nc, .slice A.la A.M A.lc, .slice A.fa A.K A.fc]] w fun e w' => e = .returned (.bool true) ∧ Below w.heap.size w w' := by
  obtain ⟨W1, hW1, hb1, hs1, hbw⟩ := boxw w A
  have hw1 := h.below hb1
  have CT := hid (turns_any W1)
  have HB1 := hid hb1
  have HBW := hid hbw
  have HH := hid hw1
  obtain ⟨q0, q1, q2, q3⟩ := hbw
  clear hb1 hs1 h hw1
  go_enter Try.func5, Try.ntmps5
  go_wp2_with fail
  refine CT.out.mono ?_
  rintro e w2 ⟨⟨z, rfl, hz⟩, hb2⟩
  have HB2 := hid hb2
  have CF := hid (fair_ok (tnA z) w2 hz (tn_chk z))
  clear q0 q1 q2 q3 CT hz hb2
  obtain ⟨q0, q1, q2, q3⟩ := HBW.out.below HB2.out
  dsimp only [tnA] at CF
  unfold tnA Wx.val
  go_wp2_with fail
  refine CF.out.mono ?_
  rintro e w3 ⟨b3, rfl, HX⟩
  have HB3 := hid (HB2.out.trans (HX.out.1.mono HB2.out.size))
  have hrow3 := HX.out.2.2.all (fun x hx => begins_tn z x hx)
  have CE := hid (fun (y : World) (hy : Below w3.heap.size w3 y) (hy2 : Rowb y (some ⟨w3.heap.size, 0, none⟩) 2 (fun _ => true)) => equalB_any (some ⟨b3, 0, none⟩) (some ⟨w3.heap.size, 0, none⟩) 2 2 2 2 (fun _ => true) (fun _ => true) y (by omega) ((rowb_of_rowIs hrow3).below hy) hy2)
  have CE2 := hid (CE.out _ (box_below w3 (.cells #[.bool true, .bool true] 4)) (rowb_two w3))
  have HBx := hid (HB3.out.trans ((box_below w3 (.cells #[.bool true, .bool true] 4)).mono HB3.out.size))
  rw [sameB_yes rfl (fun _ _ => rfl)] at CE2
  clear q0 q1 q2 q3 CF hrow3 CE HX
  obtain ⟨q0, q1, q2, q3⟩ := HBW.out.below HB3.out
  go_wp2_with fail
  refine CE2.out.mono ?_
  rintro e w4 ⟨rfl, nq, rfl⟩
  have HB4 := hid (HBx.out.trans (below_drewN (Below.refl _ _) nq))
  generalize ((w3.alloc (.cells #[.bool true, .bool true] 4)).drewN nq) = w4 at *
  clear q0 q1 q2 q3 CE2
  obtain ⟨q0, q1, q2, q3⟩ := HBW.out.below HB4.out
  by_cases hc : chkW A = 0
  · have CF := hid (fair_ok A w4 (HH.out.below HB4.out) hc)
    have CB := hid (fun (y : World) (hy : Below w4.heap.size w4 y) => fair_ok A.bare y ((HH.out.below HB4.out).below hy).bare (bare_ok hc))
    have HBA := hid (fun x (hx : x < A.G) => begins_all (bare_ok hc) rfl (x := x) hx)
    have HST := hid (fun x (hx : x < A.G) => begins_step hc hx)
    obtain ⟨hG, -, -, -, -, hzz, -⟩ := chkW_ok hc
    have HZZ := hid hzz
    obtain ⟨nb, no, hna, hnc⟩ := (HH.out.below HB4.out).next
    have HNC := hid hnc
    have HNA : Hid (0 < A.G → A.na = some ⟨nb, no, none⟩) := hid hna
    have HL47 := hid HH.out.l47
    clear hzz hc hnc hna
    go_wp2_with fail
    refine CF.out.mono ?_
    rintro e w5 ⟨b5, rfl, HX⟩
    obtain ⟨W5, hW5, y0, f0, hbs, ys⟩ := box29 w5 (.slice (some ⟨b5, 0, none⟩) A.G A.G)
    have HB5 := hid (HB4.out.trans (HX.out.1.mono HB4.out.size))
    have HB6 := hid (HB5.out.trans (hbs.mono HB5.out.size))
    have H46 := hid (HX.out.1.trans (hbs.mono HX.out.1.size))
    have HM6 := hid (HX.out.2.2.below hbs)
    obtain ⟨R, hRr, hRb⟩ := HM6.out
    have HR := hid (And.intro hRr hRb)
    have HYS := hid ys
    clear q0 q1 q2 q3 CF hbs hRr hRb HX ys HM6
    obtain ⟨q0, q1, q2, q3⟩ := HBW.out.below HB6.out
    obtain ⟨p5, hp5⟩ : ∃ p, w5.heap.size = p := ⟨_, rfl⟩
    have HP5 := hid hp5
    clear hp5
    go_wp2_with fail
    rw [HP5.out] at HYS HR HB6 H46 q0 q1 q2 q3 ⊢
    generalize W5.setCell ⟨p5, 0, none⟩ (.slice (some ⟨b5, 0, none⟩) A.G A.G) = w6 at *
    clear hW5 y0 f0
    go_loopw [43] (fun i wr => ∃ k : Nat, k ≤ A.G ∧ i = .int .i64 k ∧ Hid (Below w6.heap.size w6 wr)) (fun i _ => A.G - (intOf i).toNat)
    case atStart => exact ⟨0, Nat.zero_le _, rfl, hid (Below.refl _ _)⟩
    case round =>
      clear q0 q1 q2 q3
      obtain ⟨k, hk, rfl, HL⟩ := hrel
      by_cases hlt : k < A.G
      · have hna := HNA.out (by omega)
        obtain ⟨a, c, hck0, hrow0⟩ := HNC.out k hlt
        have hkz : (k : Int) < A.G := by omega
        have H4r := hid (H46.out.trans (HL.out.mono H46.out.size))
        have hck := below_cell H4r.out (Nat.le_refl _) hck0
        have D := hid (fun (y : World) (hy : Below wr.heap.size wr y) => cf21c_any a (A.L k) c (A.Z k) p5 b5 A.G R y (HL47.out k hlt) (hrow0.below (H4r.out.trans (hy.mono H4r.out.size))) (HZZ.out k hlt) (below_cell (HL.out.trans (hy.mono HL.out.size)) (Nat.le_refl _) HYS.out) (fun i hi => below_cell (HL.out.trans (hy.mono HL.out.size)) (Nat.le_refl _) (HR.out.1.cell hi)))
        have hrk : wr.cell? ⟨b5, k, none⟩ = some (.bool (R k)) := below_cell HL.out (Nat.le_refl _) (HR.out.1.cell hlt)
        have hys : wr.cell? ⟨p5, 0, none⟩ = some (.slice (some ⟨b5, 0, none⟩) A.G A.G) := below_cell HL.out (Nat.le_refl _) HYS.out
        have hany : anyB (A.L k) (A.Z k) R = R k := by
          have h1 := HST.out k hlt
          have h2 := HR.out.2 k hlt
          rw [Bool.eq_iff_iff, h2, h1]
          unfold anyB
          rw [decide_eq_true_eq]
          constructor
          · rintro ⟨i, hi, e⟩
            have := HZZ.out k hlt i hi
            exact ⟨i, hi, (HR.out.2 _ (by omega)).1 e⟩
          · rintro ⟨i, hi, e⟩
            have := HZZ.out k hlt i hi
            exact ⟨i, hi, (HR.out.2 _ (by omega)).2 e⟩
        rw [hany] at D
        have HS : Hid (∀ z, Below wr.heap.size wr z → (fun y : World => y.cell? ⟨p5, 0, none⟩ = some (.slice (some ⟨b5, 0, none⟩) A.G A.G) ∧ y.cell? ⟨b5, k, none⟩ = some (.bool (R k))) z) := hid (fun z hz => ⟨below_cell hz (Nat.le_refl _) hys, below_cell hz (Nat.le_refl _) hrk⟩)
        clear hck0 hrow0 hany hys hrk
        generalize R k = rb at *
        have hrr : (rb != rb) = false := by cases rb <;> rfl
        have hB0 : Below wr.heap.size wr wr.drew := below_drewN (Below.refl _ _) 1
        rw [hna] at *
        go_wp2_with fail
        refine G_region (fun y : World => y.cell? ⟨p5, 0, none⟩ = some (.slice (some ⟨b5, 0, none⟩) A.G A.G) ∧ y.cell? ⟨b5, k, none⟩ = some (.bool rb)) (fun _ => false) (by kernel_rfl) (HS.out _ hB0) (fun _ => ?_)
        refine G_take (i := 0) (oi := { dst := some 48, op := Op.load 29 (Operand.tmp 5), type := 29, pos := _, after := #[], guard := none }) (v := .slice (some ⟨b5, 0, none⟩) A.G A.G) rfl (by kernel_rfl) (by kernel_rfl) (by kernel_rfl) (by kernel_rfl) (fun _ _ _ h => h) (by rfl) (fun u hu => ?_) (HS.out _ hB0) ?_
        · (try dsimp only at hu); go_simp
        (try simp only [Act.put, List.setIfInBounds_toArray, List.set_cons_zero, List.set_cons_succ])
        refine G_take (i := 1) (oi := { dst := some 49, op := Op.move (Operand.tmp 7), type := 3, pos := _, after := #[], guard := none }) (v := .int .i64 (k : Nat)) rfl (by kernel_rfl) (by kernel_rfl) (by kernel_rfl) (by kernel_rfl) (fun _ _ _ h => h) (by rfl) (fun u hu => ?_) (HS.out _ hB0) ?_
        · (try dsimp only at hu); go_simp
        (try simp only [Act.put, List.setIfInBounds_toArray, List.set_cons_zero, List.set_cons_succ])
        refine G_take (i := 2) (oi := { dst := some 50, op := Op.indexAddr 29 (Operand.tmp 48) (Operand.tmp 49), type := 0, pos := _, after := #[{ on := 0, ground := Ground.data }, { on := 1, ground := Ground.data }], guard := none }) (v := .pointer (some ⟨b5, k, none⟩)) rfl (by kernel_rfl) (by kernel_rfl) (by kernel_rfl) (by kernel_rfl) (fun _ _ _ h => h) (by rfl) (fun u hu => ?_) (HS.out _ hB0) ?_
        · (try dsimp only at hu); go_simp
        (try simp only [Act.put, List.setIfInBounds_toArray, List.set_cons_zero, List.set_cons_succ])
        refine G_take (i := 3) (oi := { dst := some 51, op := Op.load 4 (Operand.tmp 50), type := 4, pos := _, after := #[{ on := 2, ground := Ground.data }], guard := none }) (v := .bool rb) rfl (by kernel_rfl) (by kernel_rfl) (by kernel_rfl) (by kernel_rfl) (fun _ _ _ h => h) (by rfl) (fun u hu => ?_) (HS.out _ hB0) ?_
        · (try dsimp only at hu); go_simp
        (try simp only [Act.put, List.setIfInBounds_toArray, List.set_cons_zero, List.set_cons_succ])
        refine G_take (i := 4) (oi := { dst := some 52, op := Op.move (Operand.tmp 8), type := 22, pos := _, after := #[], guard := none }) (v := .slice a (A.L k) c) rfl (by kernel_rfl) (by kernel_rfl) (by kernel_rfl) (by kernel_rfl) (fun _ _ _ h => h) (by rfl) (fun u hu => ?_) (HS.out _ hB0) ?_
        · (try dsimp only at hu); go_simp
        (try simp only [Act.put, List.setIfInBounds_toArray, List.set_cons_zero, List.set_cons_succ])
        refine G_take (i := 5) (oi := { dst := some 53, op := Op.makeFunc (Fn.func 22) #[] #[Operand.tmp 5], type := 52, pos := _, after := #[], guard := none }) (v := .func (.func 22) #[] #[.pointer (some ⟨p5, 0, none⟩)]) rfl (by kernel_rfl) (by kernel_rfl) (by kernel_rfl) (by kernel_rfl) (fun _ _ _ h => h) (by rfl) (fun u hu => ?_) (HS.out _ hB0) ?_
        · (try dsimp only at hu); go_simp
        (try simp only [Act.put, List.setIfInBounds_toArray, List.set_cons_zero, List.set_cons_succ])
        refine G_step (i := 6) (o := { dst := some 54, op := Op.call { callee := Callee.value (Operand.func 21), args := #[Operand.tmp 52, Operand.tmp 53], argTypes := #[22, 52] }, type := 4, pos := _, after := #[{ on := 4, ground := Ground.data }, { on := 5, ground := Ground.data }], guard := none }) (by kernel_rfl) rfl (fun K' hK => ?_)
        go_simp
        refine (D.out wr.drew hB0).mono ?_
        rintro e y1 ⟨rfl, rfl⟩
        dsimp only
        refine hK.out _ _ (fun _ => HS.out _ hB0) (fun _ => ?_)
        clear hK K'
        (try simp only [Act.put, List.setIfInBounds_toArray, List.set_cons_zero, List.set_cons_succ])
        refine G_take (i := 7) (oi := { dst := some 55, op := Op.binOp BinOp.neq 4 (Operand.tmp 51) (Operand.tmp 54) 4, type := 4, pos := _, after := #[{ on := 3, ground := Ground.data }, { on := 6, ground := Ground.data }], guard := none }) (v := .bool false) rfl (by kernel_rfl) (by kernel_rfl) (by kernel_rfl) (by kernel_rfl) (fun _ _ _ h => h) (by rfl) (fun u hu => ?_) (HS.out _ hB0) ?_
        · (try dsimp only at hu); go_simp
        (try simp only [Act.put, List.setIfInBounds_toArray, List.set_cons_zero, List.set_cons_succ])
        refine G_done (by kernel_rfl) ?_ _
        clear HS D
        go_wp2
        go_roundw
        case rel => exact ⟨k + 1, by omega, by go_num, hid (HL.out.trans (below_drewN (Below.refl _ _) 1))⟩
        case measure => simp [intOf]; omega
      · obtain hkG : k = A.G := by omega
        clear hkG
        have H4r := hid (H46.out.trans (HL.out.mono H46.out.size))
        obtain ⟨q0, q1, q2, q3⟩ := HBW.out.below (HB6.out.trans (HL.out.mono HB6.out.size))
        obtain ⟨W7, hW7, c0, c1, c2, c3, g0, g1, g2, g3, g4, hb7, d0, d1, d2, d3⟩ := box26 wr (.slice A.sa A.sn A.sc) (.slice A.na A.G A.nc) (.slice A.la A.M A.lc) (.slice A.fa A.K A.fc)
        have HB7 := hid (HB6.out.trans ((HL.out.trans (hb7.mono HL.out.size)).mono HB6.out.size))
        have CB2 := hid (CB.out _ (H4r.out.trans (hb7.mono H4r.out.size)))
        dsimp only [Wx.bare] at CB2
        have HD := hid (And.intro d0 (And.intro d1 (And.intro d2 d3)))
        clear hb7 CB
        go_wp2_with fail
        refine CB2.out.mono ?_
        rintro e w8 ⟨b8, rfl, HY⟩
        have HB8 := hid (HB1.out.trans ((HB7.out.trans (HY.out.1.mono HB7.out.size)).mono HB1.out.size))
        have hr8 := HY.out.2.2.all HBA.out
        have C23 := hid (has23_any b8 A.G w8 hG (fun i hi => hr8.cell hi))
        clear q0 q1 q2 q3 c0 c1 c2 c3 d0 d1 d2 d3 g0 g1 g2 g3 g4 hr8 CB2 HY HD
        go_wp2_with fail
        refine C23.out.mono ?_
        rintro e w9 ⟨rfl, rfl⟩
        go_wp2
        go_ret
        exact ⟨rfl, HB8.out⟩
  · have CF := hid (fair_bad A w4 (HH.out.below HB4.out) hc)
    have CC := hid (fun (y : World) (hy : Below w4.heap.size w4 y) => chkW_any A y ((HH.out.below HB4.out).below hy))
    have hz : (chkW A != 0) = true := by rw [bne_iff_ne]; exact hc
    have hz2 : (chkW A == chkW A) = true := by simp
    clear hc
    generalize chkW A = E at *
    go_wp2_with fail
    refine CF.out.mono ?_
    rintro e w5 ⟨rfl, hb5⟩
    have HB5 := hid (HB4.out.trans (hb5.mono HB4.out.size))
    obtain ⟨W5, hW5, y0, f0, hbs, ys⟩ := box29 w5 (.slice none 0 0)
    have HBy := hid (HB5.out.trans (hbs.mono HB5.out.size))
    have CC2 := hid (CC.out _ (hb5.trans (hbs.mono hb5.size)))
    clear q0 q1 q2 q3 CF CC hb5
    obtain ⟨q0, q1, q2, q3⟩ := HBW.out.below HBy.out
    clear hbs
    go_wp2_with fail
    refine CC2.out.mono ?_
    rintro e w6 ⟨rfl, hb6⟩
    have HB6 := hid (HB1.out.trans ((HBy.out.trans (hb6.mono HBy.out.size)).mono HB1.out.size))
    have y1 := below_cell hb6 (Nat.le_refl _) ys
    clear q0 q1 q2 q3 y0 f0 ys hb6 CC2
    go_wp2
    go_ret
    exact ⟨rfl, HB6.out⟩

end Go.Proofs.Ytgahdclbaifcbaa
