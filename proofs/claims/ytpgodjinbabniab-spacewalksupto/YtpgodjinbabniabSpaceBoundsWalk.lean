/- The law SpaceBounds, walked. -/
import Derived.Test.YtpgodjinbabniabSpLaw
namespace Go.Proofs.Ytpgodjinbabniab
open Go.RowKit Go.Maps

theorem st_x {X : List Int → Nat → Int} (hX : XOk sKs sAs sBs 2 (stAll sKs sAs sBs 2 3) X) {tk st : Int} (ht : 1 ≤ tk) (hs : 3 ≤ st) : xall tk st sKs sAs sBs 2 (stAll sKs sAs sBs 2 3) X = .inr { marks := [[1, 0], [0, 1], [0, 0]], ways := [[], [0], [0, 1]], nexts := [[(0, 1)], [(1, 2)], []], cur := [] } := by
  rw [st_steps] at hX ⊢
  unfold xall
  rw [st_begin]
  exact st_all hX ht (by omega)

theorem st_x2 {X : List Int → Nat → Int} (hX : XOk sKs sAs sBs 2 (stAll sKs sAs sBs 2 3) X) {tk : Int} (ht : 1 ≤ tk) : xall tk 2 sKs sAs sBs 2 (stAll sKs sAs sBs 2 3) X = .inl (8, [0, 1]) := by
  rw [st_steps] at hX ⊢
  unfold xall
  rw [st_begin]
  exact st_two hX ht

/-- The straight process, explored. -/
theorem st_explore {na fa : Option Addr} {w : World} (hp : Prc w na 3 3 fa 2 sMs sKs sAs sBs) {tk st : Int} (ht : 1 ≤ tk ∧ tk ≤ 9) (hs : 3 ≤ st ∧ st ≤ 200) :
    Calls Try.prog 18 #[.agg #[.slice na 3 3, .slice fa 2 2], .int .i64 tk, .int .i64 st] w fun e w' => Below w.heap.size w w' ∧ ∃ (ma : Option Addr) (mc : Nat) (xa : Option Addr) (xc base : Nat), e = .returned (.tuple #[.agg #[.slice ma 3 mc, .slice xa 3 xc], .int .i64 0]) ∧ Spc w' base (.slice ma 3 mc) (.slice xa 3 xc) 2 [[1, 0], [0, 1], [0, 0]] [[(0, 1)], [(1, 2)], []] := by
  obtain ⟨X, hX⟩ := xok_ex sKs sAs sBs 2 (stAll sKs sAs sBs 2 3)
  refine (exploreF_any hp straight_chk tk st hX).mono fun e w' hh => ⟨hh.1, ?_⟩
  have hb : bndOk tk st = true := bnd_yes ⟨ht, by omega, hs.2⟩
  have h := hh.2
  rw [st_x hX ht.1 hs.1, st_E] at h
  unfold EpIs xM xN xE at h
  simp only [hb] at h
  obtain ⟨ma, mc, xa, xc, base, _, h1, h2⟩ := h
  exact ⟨ma, mc, xa, xc, base, h1, h2⟩

/-- Two spaces that are all there. -/
theorem x_same {E a b c d : Int} {K A B : Nat → Int} {F : Nat} {l : List St3} {X : List Int → Nat → Int} (h1 : xE E a b (xall a b K A B F l X) = 0) (h2 : xE E c d (xall c d K A B F l X) = 0) :
    xM E c d (xall c d K A B F l X) = xM E a b (xall a b K A B F l X) ∧ xN E c d (xall c d K A B F l X) = xN E a b (xall a b K A B F l X) ∧ (xM E a b (xall a b K A B F l X)).length ≤ 200 ∧ (xN E a b (xall a b K A B F l X)).length ≤ 200 ∧ ∀ i, i < (xN E a b (xall a b K A B F l X)).length → ((xN E a b (xall a b K A B F l X)).getD i []).length ≤ l.length := by
  obtain ⟨_, hb, T, h3, h4, h5, h6, h7⟩ := x_ok h1
  obtain ⟨_, _, T', h3', h4', h5', _, _⟩ := x_ok h2
  have e : T' = T := xouter_same (by unfold xall at h3'; exact h3') (by unfold xall at h3; exact h3)
  have hb' := bnd_all hb
  have hf := h6.few
  rw [h4, h5, h4', h5', e]
  exact ⟨rfl, rfl, by omega, by omega, xinv_small h6 h7⟩

set_option maxRecDepth 20000 in
set_option maxHeartbeats 4000000 in
theorem spaceBounds_walk {na fa : Option Addr} {N nc F fc : Nat} {M : Nat → ByteArray} {K A B : Nat → Int} {w : World} (hp : Prc w na N nc fa F M K A B) (a b c d : Int) :
    Calls Try.prog 6 #[.agg #[.slice na N nc, .slice fa F fc], .int .i64 a, .int .i64 b, .int .i64 c, .int .i64 d] w fun e w' => e = .returned (.bool true) ∧ Below w.heap.size w w' := by
  obtain ⟨e0, he⟩ := chk_ex N F M K A B
  obtain ⟨X, hX⟩ := xok_ex K A B F (stAll K A B F N)
  have HE : Hid (ChkIs N F M K A B e0) := he
  have HXo : Hid (XOk K A B F (stAll K A B F N) X) := hX
  obtain ⟨W, eW⟩ : ∃ x, x = w.alloc (.cells #[.slice na N nc, .slice fa F fc] 25) := ⟨_, rfl⟩
  have HW : Hid (Below w.heap.size w W) := by subst eW; exact box_below _ _
  have HBx : Hid (∀ w1, Below W.heap.size W w1 → w1.cell? ⟨w.heap.size, 0, none⟩ = some (.slice na N nc) ∧ w1.cell? ⟨w.heap.size, 1, none⟩ = some (.slice fa F fc)) := fun w1 h => by
    subst eW
    exact ⟨new_alloc h rfl, new_alloc h rfl⟩
  have HEW : Hid (w.alloc (.cells #[.slice na N nc, .slice fa F fc] 25) = W) := eW.symm
  have HPW : Hid (Prc W na N nc fa F M K A B) := hp.below HW.out
  have C1 : Hid (Calls Try.prog 10 #[] W fun e w' => (∃ na fa, e = .returned (.agg #[.slice na 3 3, .slice fa 2 2]) ∧ Prc w' na 3 3 fa 2 sMs sKs sAs sBs) ∧ Below W.heap.size W w') := straight_any W
  have hFF := hp.nF
  clear eW hp he hX
  go_enter Try.func6, Try.ntmps6
  go_wp2_with fail
  rw [HEW.out]
  refine C1.out.mono ?_
  rintro e w1 ⟨⟨na', fa', rfl, hp1⟩, hb1⟩
  have HB1 : Hid (Below W.heap.size W w1) := hb1
  have C2 : Hid (Calls Try.prog 18 #[.agg #[.slice na' 3 3, .slice fa' 2 2], .int .i64 9, .int .i64 200] w1 fun e w' => Below w1.heap.size w1 w' ∧ ∃ (ma : Option Addr) (mc : Nat) (xa : Option Addr) (xc base : Nat), e = .returned (.tuple #[.agg #[.slice ma 3 mc, .slice xa 3 xc], .int .i64 0]) ∧ Spc w' base (.slice ma 3 mc) (.slice xa 3 xc) 2 [[1, 0], [0, 1], [0, 0]] [[(0, 1)], [(1, 2)], []]) := st_explore hp1 (by omega) (by omega)
  clear hb1 hp1 C1
  go_wp2_with fail
  refine C2.out.mono ?_
  rintro e w2 ⟨hb2, ma, mc, xa, xc, _, rfl, _⟩
  obtain ⟨W2, eW2⟩ : ∃ x, x = w2.alloc (.cells #[.slice ma 3 mc, .slice xa 3 xc] 46) := ⟨_, rfl⟩
  have HB2 : Hid (Below W.heap.size W W2) := by
    subst eW2
    have h1 : Below W.heap.size W w2 := HB1.out.trans (hb2.mono HB1.out.size)
    exact h1.alloc h1.size _
  have HEW2 : Hid (w2.alloc (.cells #[.slice ma 3 mc, .slice xa 3 xc] 46) = W2) := eW2.symm
  obtain ⟨hc0, hc1⟩ := HBx.out w2 (HB1.out.trans (hb2.mono HB1.out.size))
  have hsz2 : w.heap.size < w2.heap.size := World.block_lt_of_cell? _ _ hc0
  have C3 : Hid (Calls Try.prog 18 #[.agg #[.slice na N nc, .slice fa F fc], .int .i64 a, .int .i64 b] W2 fun e w' => Below W2.heap.size W2 w' ∧ EpIs W2.heap.size (spE e0 (stAll K A B F N).length) a b F (xall a b K A B F (stAll K A B F N) X) e w') := exploreF_any (HPW.out.below HB2.out) HE.out a b HXo.out
  clear hb2 C2 eW2
  go_wp2_with fail
  rw [HEW2.out]
  refine C3.out.mono ?_
  rintro e w3 ⟨hb3, ma3, mc3, xa3, xc3, base3, _, rfl, hs3⟩
  have HB3 : Hid (Below W.heap.size W w3) := HB2.out.trans (hb3.mono HB2.out.size)
  generalize hM1 : xM (spE e0 (stAll K A B F N).length) a b (xall a b K A B F (stAll K A B F N) X) = M1 at *
  generalize hN1 : xN (spE e0 (stAll K A B F N).length) a b (xall a b K A B F (stAll K A B F N) X) = N1 at *
  generalize hy1 : xE (spE e0 (stAll K A B F N).length) a b (xall a b K A B F (stAll K A B F N) X) = y1 at *
  obtain ⟨W3, eW3⟩ : ∃ x, x = w3.alloc (.cells #[.slice ma3 M1.length mc3, .slice xa3 N1.length xc3] 46) := ⟨_, rfl⟩
  have HB3' : Hid (Below W.heap.size W W3) := by subst eW3; exact HB3.out.alloc HB3.out.size _
  have HS3 : Hid (Spc W3 base3 (.slice ma3 M1.length mc3) (.slice xa3 N1.length xc3) F M1 N1) := by subst eW3; exact hs3.below (box_below _ _)
  have HBx3 : Hid (∀ u, Below W3.heap.size W3 u → u.cell? ⟨w3.heap.size, 0, none⟩ = some (.slice ma3 M1.length mc3) ∧ u.cell? ⟨w3.heap.size, 1, none⟩ = some (.slice xa3 N1.length xc3)) := fun u hu => by
    subst eW3
    exact ⟨new_alloc hu rfl, new_alloc hu rfl⟩
  have HEW3 : Hid (w3.alloc (.cells #[.slice ma3 M1.length mc3, .slice xa3 N1.length xc3] 46) = W3) := eW3.symm
  have HM1 : Hid (xM (spE e0 (stAll K A B F N).length) a b (xall a b K A B F (stAll K A B F N) X) = M1 ∧ xN (spE e0 (stAll K A B F N).length) a b (xall a b K A B F (stAll K A B F N) X) = N1 ∧ xE (spE e0 (stAll K A B F N).length) a b (xall a b K A B F (stAll K A B F N) X) = y1) := ⟨hM1, hN1, hy1⟩
  clear hc0 hc1
  obtain ⟨hc0, hc1⟩ := HBx.out w3 HB3.out
  have hsz3 : w.heap.size < w3.heap.size := World.block_lt_of_cell? _ _ hc0
  have C4 : Hid (Calls Try.prog 18 #[.agg #[.slice na N nc, .slice fa F fc], .int .i64 c, .int .i64 d] W3 fun e w' => Below W3.heap.size W3 w' ∧ EpIs W3.heap.size (spE e0 (stAll K A B F N).length) c d F (xall c d K A B F (stAll K A B F N) X) e w') := exploreF_any (HPW.out.below HB3'.out) HE.out c d HXo.out
  clear hb3 hs3 C3 eW3 hM1 hN1 hy1
  go_wp2_with fail
  rw [HEW3.out]
  refine C4.out.mono ?_
  rintro e w4 ⟨hb4, ma4, mc4, xa4, xc4, base4, _, rfl, hs4⟩
  have HB4 : Hid (Below w.heap.size w w4) := HW.out.trans ((HB3'.out.trans (hb4.mono HB3'.out.size)).mono HW.out.size)
  generalize hM2 : xM (spE e0 (stAll K A B F N).length) c d (xall c d K A B F (stAll K A B F N) X) = M2 at *
  generalize hN2 : xN (spE e0 (stAll K A B F N).length) c d (xall c d K A B F (stAll K A B F N) X) = N2 at *
  generalize hy2 : xE (spE e0 (stAll K A B F N).length) c d (xall c d K A B F (stAll K A B F N) X) = y2 at *
  have HM2 : Hid (xM (spE e0 (stAll K A B F N).length) c d (xall c d K A B F (stAll K A B F N) X) = M2 ∧ xN (spE e0 (stAll K A B F N).length) c d (xall c d K A B F (stAll K A B F N) X) = N2 ∧ xE (spE e0 (stAll K A B F N).length) c d (xall c d K A B F (stAll K A B F N) X) = y2) := ⟨hM2, hN2, hy2⟩
  obtain ⟨p0, p1⟩ := HBx3.out w4 hb4
  have hsz4 : w3.heap.size < w4.heap.size := World.block_lt_of_cell? _ _ p0
  have HS4 : Hid (Spc w4 base3 (.slice ma3 M1.length mc3) (.slice xa3 N1.length xc3) F M1 N1 ∧ Spc w4 base4 (.slice ma4 M2.length mc4) (.slice xa4 N2.length xc4) F M2 N2) := ⟨HS3.out.below hb4, hs4⟩
  clear hb4 hs4 C4 hM2 hN2 hy2 hc0 hc1
  by_cases h1 : y1 = 0
  · have h1' : (y1 != 0) = false := by simp [h1]
    have h1'' : (y1 == 0) = true := by simp [h1]
    by_cases h2 : y2 = 0
    · have h2' : (y2 != 0) = false := by simp [h2]
      obtain ⟨g1, g2, g3, g4, g5⟩ := x_same (a := a) (b := b) (c := c) (d := d) (by rw [HM1.out.2.2]; exact h1) (by rw [HM2.out.2.2]; exact h2)
      rw [HM1.out.1, HM2.out.1] at g1
      rw [HM1.out.2.1, HM2.out.2.1] at g2
      rw [HM1.out.1] at g3
      rw [HM1.out.2.1] at g4 g5
      subst g1
      subst g2
      have hl60 : (stAll K A B F N).length ≤ 60 ∧ F ≤ 30 := by
        obtain ⟨hE, _⟩ := x_ok (by rw [HM1.out.2.2]; exact h1)
        have h6 := spE_zero hE
        refine ⟨h6.2, ?_⟩
        have := HE.out
        rw [h6.1] at this
        exact (chk_zero this).1.2
      have C5 : Hid (∀ u, Below w4.heap.size w4 u → Calls Try.prog 26 #[.agg #[.slice ma3 M2.length mc3, .slice xa3 N2.length xc3], .agg #[.slice ma4 M2.length mc4, .slice xa4 N2.length xc4]] u fun e w' => e = .returned (.bool true) ∧ Below u.heap.size u w') := fun u hu => sameSpace_any rfl rfl (by omega) (by omega) (by omega) (HS4.out.1.below hu) (HS4.out.2.below hu) (fun i hi => by have := g5 i hi; omega)
      clear g3 g4 g5 hl60 h1 h2
      go_wp2_with fail
      refine (C5.out _ (box_below _ _)).mono ?_
      rintro e w5 ⟨rfl, hb5⟩
      have HF : Hid (Below w.heap.size w w5) := (HB4.out.alloc HB4.out.size _).trans (hb5.mono (by have := HB4.out.size; simp; omega))
      clear hb5 C5
      go_wp2
      go_ret
      exact ⟨rfl, HF.out⟩
    · have h2' : (y2 != 0) = true := by simp [h2]
      clear h1 h2
      go_wp2
      go_ret
      exact ⟨rfl, HB4.out.alloc HB4.out.size _⟩
  · have h1' : (y1 != 0) = true := by simp [h1]
    have h1'' : (y1 == 0) = false := by simp [h1]
    have hM0 : M1 = [] := by rw [← HM1.out.1]; exact xM_nil (by rw [HM1.out.2.2]; exact h1)
    by_cases h2 : y2 = 0
    · have h2' : (y2 == 0) = true := by simp [h2]
      clear h1 h2 hM0
      go_wp2
      go_ret
      exact ⟨rfl, HB4.out.alloc HB4.out.size _⟩
    · have h2' : (y2 == 0) = false := by simp [h2]
      have hM2 : M2 = [] := by rw [← HM2.out.1]; exact xM_nil (by rw [HM2.out.2.2]; exact h2)
      subst hM0
      subst hM2
      clear h1 h2
      simp only [List.length_nil] at p0 ⊢
      go_wp2
      go_ret
      exact ⟨rfl, HB4.out.alloc HB4.out.size _⟩

end Go.Proofs.Ytpgodjinbabniab
