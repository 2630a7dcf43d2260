/- The law WorldSays. -/
import Derived.Test.YtgahdclbaifcbaaDfs
import Derived.Test.YtgahdclbaifcbaaEqb
namespace Go.Proofs.Ytgahdclbaifcbaa
open Go.RowKit

theorem Mk0.belows {w w2 : World} {b G : Nat} {P : Nat → Prop} (h : Mk0 w b G P) (h2 : Below w.heap.size w w2) : Mk0 w2 b G P := by
  obtain ⟨R, h4, h5⟩ := h
  exact ⟨R, h4.of_block (h2.block _ h4.lt), h5⟩

set_option maxHeartbeats 4000000 in
theorem worldSays_walk (A : Wx) (w : World) (h : Ww w A) (h8 : ∀ r, r < A.G → A.L r * 8 ≤ 140737488355328) :
    Calls Try.prog 3 #[.agg #[.slice A.sa A.sn A.sc, .slice A.na A.G A.nc, .slice A.la A.M A.lc, .slice A.fa A.K A.fc]] w fun e w' => e = .returned (.bool true) ∧ Below w.heap.size w w' := by
  obtain ⟨W1, hW1, hb1, hs1, hbw⟩ := boxw w A
  have hw1 := h.below hb1
  have C7 := hid (worldRef_any A W1 hw1)
  have HB1 := hid hb1
  have HBW := hid hbw
  have HH := hid hw1
  have H8 := hid h8
  obtain ⟨q0, q1, q2, q3⟩ := hbw
  clear hb1 hs1 h hw1 h8
  obtain ⟨bw, hbwd⟩ : ∃ b, w.heap.size = b := ⟨_, rfl⟩
  rw [hbwd] at HBW q0 q1 q2 q3
  go_enter Try.func3, Try.ntmps3
  go_wp2_with fail
  refine C7.out.mono ?_
  rintro e w2 ⟨rfl, hb2⟩
  have HB2 := hid hb2
  clear q0 q1 q2 q3 C7 hb2
  obtain ⟨q0, q1, q2, q3⟩ := HBW.out.below HB2.out
  have hee : (chkW A != chkW A) = false := by simp
  have C9 := hid (fun (y : World) (hy : Below W1.heap.size W1 y) => chkW_any A y (HH.out.below hy))
  by_cases hc : chkW A = 0
  · have CF := hid (fair_ok A w2 (HH.out.below HB2.out) hc)
    have hG := (chkW_ok hc).1
    have CD := hid (fun (y : World) (ib : Nat) (hy : Below W1.heap.size W1 y) (hi : y.rowIs ib 4 A.G (fun _ => .bool true)) => docFair_any A ib y (HH.out.below hy) hc H8.out hi)
    rw [hc]
    go_wp2_with fail
    refine CF.out.mono ?_
    rintro e w3 ⟨b3, rfl, HX⟩
    have HB3 := hid (HB2.out.trans (HX.out.1.mono HB2.out.size))
    have C92 := hid (C9.out w3 HB3.out)
    rw [hc] at C92
    clear q0 q1 q2 q3 CF C9
    obtain ⟨q0, q1, q2, q3⟩ := HBW.out.below HB3.out
    go_wp2_with fail
    refine C92.out.mono ?_
    rintro e w4 ⟨rfl, hb4⟩
    have HB4 := hid (HB3.out.trans (hb4.mono HB3.out.size))
    have HM := hid (Mk0.belows HX.out.2.2 hb4)
    clear q0 q1 q2 q3 C92 hb4 HX
    obtain ⟨q0, q1, q2, q3⟩ := HBW.out.below HB4.out
    by_cases hlt : 200 < A.G
    · have g2 : (200 : Int) < A.G := by omega
      have HF := hid ((HB1.out.trans (HB4.out.mono HB1.out.size)).trans (below_drewN (Below.refl _ _) 1))
      clear hlt
      go_wp2_with fail
      go_region
      go_wp2
      all_goals go_ret
      all_goals exact ⟨rfl, by first | exact HF.out | (rw [← hbwd]; exact HF.out)⟩
    · have g2 : ¬ (200 : Int) < A.G := by omega
      have CE := hid (fun (y : World) (_ : Below w4.heap.size w4 y) => every_any A.G y (by omega))
      have HS : Hid (∀ z, Below w4.heap.size w4 z → (fun y : World => y.cell? ⟨bw, 0, none⟩ = some (.slice A.sa A.sn A.sc) ∧ y.cell? ⟨bw, 1, none⟩ = some (.slice A.na A.G A.nc) ∧ y.cell? ⟨bw, 2, none⟩ = some (.slice A.la A.M A.lc) ∧ y.cell? ⟨bw, 3, none⟩ = some (.slice A.fa A.K A.fc)) z) := hid (fun z hz => ⟨below_cell hz (Nat.le_refl _) q0, below_cell hz (Nat.le_refl _) q1, below_cell hz (Nat.le_refl _) q2, below_cell hz (Nat.le_refl _) q3⟩)
      have hB0 : Below w4.heap.size w4 w4.drew := below_drewN (Below.refl _ _) 1
      clear q0 q1 q2 q3
      go_wp2_with fail
      refine G_region (fun y : World => y.cell? ⟨bw, 0, none⟩ = some (.slice A.sa A.sn A.sc) ∧ y.cell? ⟨bw, 1, none⟩ = some (.slice A.na A.G A.nc) ∧ y.cell? ⟨bw, 2, none⟩ = some (.slice A.la A.M A.lc) ∧ y.cell? ⟨bw, 3, none⟩ = some (.slice A.fa A.K A.fc)) (fun _ => false) (by kernel_rfl) (HS.out _ hB0) (fun _ => ?_)
      refine G_take (i := 0) (oi := { dst := some 27, op := Op.fieldAddr 26 (Operand.tmp 1) 1, type := 0, pos := _, after := #[], guard := none }) (v := .pointer (some ⟨bw, 1, none⟩)) rfl (by kernel_rfl) (by kernel_rfl) (by kernel_rfl) (by kernel_rfl) (fun _ _ _ h => h) (by rfl) (fun u hu => ?_) (HS.out _ hB0) ?_
      · (try dsimp only at hu); go_simp
      (try simp only [Act.put, List.setIfInBounds_toArray, List.set_cons_zero, List.set_cons_succ])
      refine G_take (i := 1) (oi := { dst := some 28, op := Op.load 23 (Operand.tmp 27), type := 23, pos := _, after := #[{ on := 0, ground := Ground.data }], guard := none }) (v := .slice A.na A.G A.nc) rfl (by kernel_rfl) (by kernel_rfl) (by kernel_rfl) (by kernel_rfl) (fun _ _ _ h => h) (by rfl) (fun u hu => ?_) (HS.out _ hB0) ?_
      · (try dsimp only at hu); go_simp
      (try simp only [Act.put, List.setIfInBounds_toArray, List.set_cons_zero, List.set_cons_succ])
      refine G_take (i := 2) (oi := { dst := some 29, op := Op.call { callee := Callee.builtin Builtin.len, args := #[Operand.tmp 28], argTypes := #[23] }, type := 3, pos := _, after := #[{ on := 1, ground := Ground.data }], guard := none }) (v := .int .i64 (A.G : Nat)) rfl (by kernel_rfl) (by kernel_rfl) (by kernel_rfl) (by kernel_rfl) (fun _ _ _ h => h) (by rfl) (fun u hu => ?_) (HS.out _ hB0) ?_
      · (try dsimp only at hu); go_simp
      (try simp only [Act.put, List.setIfInBounds_toArray, List.set_cons_zero, List.set_cons_succ])
      refine G_take (i := 3) (oi := { dst := some 30, op := Op.binOp BinOp.gtr 3 (Operand.tmp 29) (Operand.const (Value.int IntKind.i64 200)) 3, type := 4, pos := _, after := #[{ on := 2, ground := Ground.data }], guard := none }) (v := .bool false) rfl (by kernel_rfl) (by kernel_rfl) (by kernel_rfl) (by kernel_rfl) (fun _ _ _ h => h) (by rfl) (fun u hu => ?_) (HS.out _ hB0) ?_
      · (try dsimp only at hu); go_simp
      (try simp only [Act.put, List.setIfInBounds_toArray, List.set_cons_zero, List.set_cons_succ])
      refine G_take (i := 4) (oi := { dst := some 31, op := Op.move (Operand.tmp 30), type := 4, pos := _, after := #[{ on := 3, ground := Ground.data }], guard := none }) (v := .bool false) rfl (by kernel_rfl) (by kernel_rfl) (by kernel_rfl) (by kernel_rfl) (fun _ _ _ h => h) (by rfl) (fun u hu => ?_) (HS.out _ hB0) ?_
      · (try dsimp only at hu); go_simp
      (try simp only [Act.put, List.setIfInBounds_toArray, List.set_cons_zero, List.set_cons_succ])
      refine G_take (i := 5) (oi := { dst := some 32, op := Op.move (Operand.tmp 4), type := 29, pos := _, after := #[{ on := 4, ground := Ground.guard }], guard := some (4, false) }) (v := .slice (some ⟨b3, 0, none⟩) A.G A.G) rfl (by kernel_rfl) (by kernel_rfl) (by kernel_rfl) (by kernel_rfl) (fun _ _ _ h => h) (by rfl) (fun u hu => ?_) (HS.out _ hB0) ?_
      · (try dsimp only at hu); go_simp
      (try simp only [Act.put, List.setIfInBounds_toArray, List.set_cons_zero, List.set_cons_succ])
      refine G_take (i := 6) (oi := { dst := some 33, op := Op.load 26 (Operand.tmp 1), type := 26, pos := _, after := #[{ on := 4, ground := Ground.guard }], guard := some (4, false) }) (v := .agg #[.slice A.sa A.sn A.sc, .slice A.na A.G A.nc, .slice A.la A.M A.lc, .slice A.fa A.K A.fc]) rfl (by kernel_rfl) (by kernel_rfl) (by kernel_rfl) (by kernel_rfl) (fun _ _ _ h => h) (by rfl) (fun u hu => ?_) (HS.out _ hB0) ?_
      · (try dsimp only at hu); go_simp
      (try simp only [Act.put, List.setIfInBounds_toArray, List.set_cons_zero, List.set_cons_succ])
      refine G_take (i := 7) (oi := { dst := some 34, op := Op.fieldAddr 26 (Operand.tmp 1) 1, type := 0, pos := _, after := #[{ on := 4, ground := Ground.guard }], guard := some (4, false) }) (v := .pointer (some ⟨bw, 1, none⟩)) rfl (by kernel_rfl) (by kernel_rfl) (by kernel_rfl) (by kernel_rfl) (fun _ _ _ h => h) (by rfl) (fun u hu => ?_) (HS.out _ hB0) ?_
      · (try dsimp only at hu); go_simp
      (try simp only [Act.put, List.setIfInBounds_toArray, List.set_cons_zero, List.set_cons_succ])
      refine G_take (i := 8) (oi := { dst := some 35, op := Op.load 23 (Operand.tmp 34), type := 23, pos := _, after := #[{ on := 7, ground := Ground.data }, { on := 4, ground := Ground.guard }], guard := some (4, false) }) (v := .slice A.na A.G A.nc) rfl (by kernel_rfl) (by kernel_rfl) (by kernel_rfl) (by kernel_rfl) (fun _ _ _ h => h) (by rfl) (fun u hu => ?_) (HS.out _ hB0) ?_
      · (try dsimp only at hu); go_simp
      (try simp only [Act.put, List.setIfInBounds_toArray, List.set_cons_zero, List.set_cons_succ])
      refine G_take (i := 9) (oi := { dst := some 36, op := Op.call { callee := Callee.builtin Builtin.len, args := #[Operand.tmp 35], argTypes := #[23] }, type := 3, pos := _, after := #[{ on := 8, ground := Ground.data }, { on := 4, ground := Ground.guard }], guard := some (4, false) }) (v := .int .i64 (A.G : Nat)) rfl (by kernel_rfl) (by kernel_rfl) (by kernel_rfl) (by kernel_rfl) (fun _ _ _ h => h) (by rfl) (fun u hu => ?_) (HS.out _ hB0) ?_
      · (try dsimp only at hu); go_simp
      (try simp only [Act.put, List.setIfInBounds_toArray, List.set_cons_zero, List.set_cons_succ])
      refine G_step (i := 10) (o := { dst := some 37, op := Op.call { callee := Callee.value (Operand.func 12), args := #[Operand.tmp 36], argTypes := #[3] }, type := 29, pos := _, after := #[{ on := 9, ground := Ground.data }, { on := 4, ground := Ground.chain }, { on := 4, ground := Ground.guard }], guard := some (4, false) }) (by kernel_rfl) rfl (fun K' hK => ?_)
      go_simp
      refine (CE.out w4.drew hB0).mono ?_
      rintro e w5 ⟨rfl, HY⟩
      dsimp only
      have hB5 := hB0.trans (HY.out.2.mono hB0.size)
      have HB5 := hid (HB4.out.trans (hB5.mono HB4.out.size))
      have CD2 := hid (CD.out w5 _ HB5.out HY.out.1)
      refine hK.out _ _ (fun _ => HS.out _ hB5) (fun _ => ?_)
      clear hK K' CE CD
      (try simp only [Act.put, List.setIfInBounds_toArray, List.set_cons_zero, List.set_cons_succ])
      refine G_step (i := 11) (o := { dst := some 38, op := Op.call { callee := Callee.value (Operand.func 11), args := #[Operand.tmp 33, Operand.tmp 37], argTypes := #[26, 29] }, type := 29, pos := _, after := #[{ on := 6, ground := Ground.data }, { on := 10, ground := Ground.data }, { on := 10, ground := Ground.chain }, { on := 4, ground := Ground.guard }], guard := some (4, false) }) (by kernel_rfl) rfl (fun K' hK => ?_)
      go_simp
      refine (CD2.out).mono ?_
      rintro e w6 ⟨b6, rfl, HZ⟩
      dsimp only
      have hB6 := hB5.trans (HZ.out.1.mono hB5.size)
      obtain ⟨R1, hr1, hi1⟩ := HM.out
      obtain ⟨R2, hr2, hi2⟩ := HZ.out.2.2
      have hr1' := hr1.of_block (hB6.block _ hr1.lt)
      have CQ := hid (equalB_any (some ⟨b3, 0, none⟩) (some ⟨b6, 0, none⟩) A.G A.G A.G A.G R1 R2 w6 (by omega) (rowb_of_rowIs hr1') (rowb_of_rowIs hr2))
      rw [sameB_yes rfl (fun i hi => by rw [Bool.eq_iff_iff, hi1 i hi, hi2 i hi])] at CQ
      have HB6 := hid (HB1.out.trans ((HB4.out.trans (hB6.mono HB4.out.size)).mono HB1.out.size))
      clear hr1 hr2 hi1 hi2 hr1' CD2 HY HZ HM
      refine hK.out _ _ (fun _ => HS.out _ hB6) (fun _ => ?_)
      clear hK K'
      (try simp only [Act.put, List.setIfInBounds_toArray, List.set_cons_zero, List.set_cons_succ])
      refine G_step (i := 12) (o := { dst := some 39, op := Op.call { callee := Callee.value (Operand.func 10), args := #[Operand.tmp 32, Operand.tmp 38], argTypes := #[29, 29] }, type := 4, pos := _, after := #[{ on := 5, ground := Ground.data }, { on := 11, ground := Ground.data }, { on := 11, ground := Ground.chain }, { on := 4, ground := Ground.guard }], guard := some (4, false) }) (by kernel_rfl) rfl (fun K' hK => ?_)
      go_simp
      refine (CQ.out).mono ?_
      rintro e w7 ⟨rfl, nq, rfl⟩
      dsimp only
      have hB7 := hB6.trans (below_drewN (Below.refl _ _) nq)
      have HF := hid (HB6.out.trans (below_drewN (Below.refl _ _) nq))
      refine hK.out _ _ (fun _ => HS.out _ hB7) (fun _ => ?_)
      clear hK K' CQ
      (try simp only [Act.put, List.setIfInBounds_toArray, List.set_cons_zero, List.set_cons_succ])
      refine G_take (i := 13) (oi := { dst := some 40, op := Op.pick (Operand.tmp 31) (Operand.const (Value.bool true)) (Operand.tmp 39), type := 4, pos := _, after := #[{ on := 4, ground := Ground.data }, { on := 12, ground := Ground.data }], guard := none }) (v := .bool true) rfl (by kernel_rfl) (by kernel_rfl) (by kernel_rfl) (by kernel_rfl) (fun _ _ _ h => h) (by rfl) (fun u hu => ?_) (HS.out _ hB7) ?_
      · (try dsimp only at hu); go_simp
      (try simp only [Act.put, List.setIfInBounds_toArray, List.set_cons_zero, List.set_cons_succ])
      refine G_take (i := 14) (oi := { dst := some 2, op := Op.assign (Operand.tmp 40), type := 4, pos := _, after := #[{ on := 13, ground := Ground.data }, { on := 12, ground := Ground.chain }, { on := 0, ground := Ground.phase }, { on := 1, ground := Ground.phase }, { on := 2, ground := Ground.phase }, { on := 3, ground := Ground.phase }, { on := 4, ground := Ground.phase }, { on := 5, ground := Ground.phase }, { on := 6, ground := Ground.phase }, { on := 7, ground := Ground.phase }, { on := 8, ground := Ground.phase }, { on := 9, ground := Ground.phase }, { on := 10, ground := Ground.phase }, { on := 11, ground := Ground.phase }, { on := 12, ground := Ground.phase }, { on := 13, ground := Ground.phase }], guard := none }) (v := .bool true) rfl (by kernel_rfl) (by kernel_rfl) (by kernel_rfl) (by kernel_rfl) (fun _ _ _ h => h) (by rfl) (fun u hu => ?_) (HS.out _ hB7) ?_
      · (try dsimp only at hu); go_simp
      (try simp only [Act.put, List.setIfInBounds_toArray, List.set_cons_zero, List.set_cons_succ])
      refine G_done (by kernel_rfl) ?_ _
      clear HS hB7 hB6 hB5 hB0
      go_wp2
      all_goals go_ret
      all_goals exact ⟨rfl, by first | exact HF.out | (rw [← hbwd]; exact HF.out)⟩
  · have CF := hid (fair_bad A w2 (HH.out.below HB2.out) hc)
    have hz : (chkW A != 0) = true := by rw [bne_iff_ne]; exact hc
    clear hc
    generalize chkW A = E at *
    go_wp2_with fail
    refine CF.out.mono ?_
    rintro e w3 ⟨rfl, hb3⟩
    have HB3 := hid (HB2.out.trans (hb3.mono HB2.out.size))
    have C92 := hid (C9.out w3 HB3.out)
    clear q0 q1 q2 q3 CF hb3 C9
    obtain ⟨q0, q1, q2, q3⟩ := HBW.out.below HB3.out
    go_wp2_with fail
    refine C92.out.mono ?_
    rintro e w4 ⟨rfl, hb4⟩
    have HF := hid (HB1.out.trans ((HB3.out.trans (hb4.mono HB3.out.size)).mono HB1.out.size))
    clear q0 q1 q2 q3 C92 hb4
    go_wp2
    all_goals go_ret
    all_goals exact ⟨rfl, by first | exact HF.out | (rw [← hbwd]; exact HF.out)⟩

end Go.Proofs.Ytgahdclbaifcbaa
