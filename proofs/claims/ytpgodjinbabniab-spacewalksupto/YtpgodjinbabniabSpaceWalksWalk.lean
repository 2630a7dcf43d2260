/- The law SpaceWalks, walked. -/
import Derived.Test.YtpgodjinbabniabSpCounts
import Derived.Test.YtpgodjinbabniabSpWalks
namespace Go.Proofs.Ytpgodjinbabniab
open Go.RowKit Go.Maps

set_option maxRecDepth 20000 in
set_option maxHeartbeats 8000000 in
theorem spaceWalks_walk {na fa : Option Addr} {N nc F fc : Nat} {M : Nat → ByteArray} {K A B : Nat → Int} {w : World} (hp : Prc w na N nc fa F M K A B) (tk st : Int) {da : Option Addr} {D dc : Nat} {d : Nat → Int} (hD : D ≤ 1048576) (hd : Row w da D d) :
    Calls Try.prog 4 #[.agg #[.slice na N nc, .slice fa F fc], .int .i64 tk, .int .i64 st, .slice da D dc] w fun e w' => e = .returned (.bool true) ∧ Below w.heap.size w w' := by
  obtain ⟨e0, he⟩ := chk_ex N F M K A B
  obtain ⟨X, hX⟩ := xok_ex K A B F (stAll K A B F N)
  have HE : Hid (ChkIs N F M K A B e0) := he
  have HXo : Hid (XOk K A B F (stAll K A B F N) X) := hX
  obtain ⟨W, eW⟩ : ∃ x, x = w.alloc (.cells #[.slice na N nc, .slice fa F fc] 25) := ⟨_, rfl⟩
  have HW : Hid (Below w.heap.size w W) := by subst eW; exact box_below _ _
  have HBx : Hid (∀ w1, Below W.heap.size W w1 → w1.cell? ⟨w.heap.size, 0, none⟩ = some (.slice na N nc) ∧ w1.cell? ⟨w.heap.size, 1, none⟩ = some (.slice fa F fc)) := fun w1 h => by
    subst eW
    exact ⟨new_alloc h rfl, new_alloc h rfl⟩
  have HEW : Hid (w.alloc (.cells #[.slice na N nc, .slice fa F fc] 25) = W) := eW.symm
  have HPW : Hid (Prc W na N nc fa F M K A B) := hp.below HW.out
  have HDW : Hid (Row W da D d) := hd.below HW.out
  have C1 : Hid (Calls Try.prog 10 #[] W fun e w' => (∃ na fa, e = .returned (.agg #[.slice na 3 3, .slice fa 2 2]) ∧ Prc w' na 3 3 fa 2 sMs sKs sAs sBs) ∧ Below W.heap.size W w') := straight_any W
  clear eW hp he hX hd
  go_enter Try.func4, Try.ntmps4
  go_wp2_with fail
  rw [HEW.out]
  refine C1.out.mono ?_
  rintro e w1 ⟨⟨na', fa', rfl, hp1⟩, hb1⟩
  have HB1 : Hid (Below W.heap.size W w1) := hb1
  have C2 : Hid (Calls Try.prog 18 #[.agg #[.slice na' 3 3, .slice fa' 2 2], .int .i64 1, .int .i64 9] w1 fun e w' => Below w1.heap.size w1 w' ∧ ∃ (ma : Option Addr) (mc : Nat) (xa : Option Addr) (xc base : Nat), e = .returned (.tuple #[.agg #[.slice ma 3 mc, .slice xa 3 xc], .int .i64 0]) ∧ Spc w' base (.slice ma 3 mc) (.slice xa 3 xc) 2 [[1, 0], [0, 1], [0, 0]] [[(0, 1)], [(1, 2)], []]) := st_explore hp1 (by omega) (by omega)
  clear hb1 hp1 C1
  go_wp2_with fail
  refine C2.out.mono ?_
  rintro e w2 ⟨hb2, ma, mc, xa, xc, base2, rfl, hs2⟩
  obtain ⟨xb, xo, a2, c2, rfl, hx2, _⟩ := nxs_at hs2.2 (i := 0) (by decide)
  have hx0 : w2.cell? ⟨xb, xo, none⟩ = some (.slice a2 1 c2) := by simpa using hx2
  have hxl : xb < w2.heap.size := World.block_lt_of_cell? _ _ hx0
  obtain ⟨W2, eW2⟩ : ∃ x, x = w2.alloc (.cells #[.slice ma 3 mc, .slice (some ⟨xb, xo, none⟩) 3 xc] 46) := ⟨_, rfl⟩
  have HB2 : Hid (Below W.heap.size W W2) := by
    subst eW2
    have h1 : Below W.heap.size W w2 := HB1.out.trans (hb2.mono HB1.out.size)
    exact h1.alloc h1.size _
  have HEW2 : Hid (w2.alloc (.cells #[.slice ma 3 mc, .slice (some ⟨xb, xo, none⟩) 3 xc] 46) = W2) := eW2.symm
  obtain ⟨hc0, hc1⟩ := HBx.out w2 (HB1.out.trans (hb2.mono HB1.out.size))
  have hsz2 : w.heap.size < w2.heap.size := World.block_lt_of_cell? _ _ hc0
  have C3 : Hid (Calls Try.prog 18 #[.agg #[.slice na N nc, .slice fa F fc], .int .i64 tk, .int .i64 st] W2 fun e w' => Below W2.heap.size W2 w' ∧ EpIs W2.heap.size (spE e0 (stAll K A B F N).length) tk st F (xall tk st K A B F (stAll K A B F N) X) e w') := exploreF_any (HPW.out.below HB2.out) HE.out tk st HXo.out
  clear hb2 C2 eW2 hs2 hx2
  go_wp2_with fail
  rw [HEW2.out]
  refine C3.out.mono ?_
  rintro e w3 ⟨hb3, ma3, mc3, xa3, xc3, base3, _, rfl, hs3⟩
  have HB3 : Hid (Below W.heap.size W w3) := HB2.out.trans (hb3.mono HB2.out.size)
  generalize hM1 : xM (spE e0 (stAll K A B F N).length) tk st (xall tk st K A B F (stAll K A B F N) X) = M1 at *
  generalize hN1 : xN (spE e0 (stAll K A B F N).length) tk st (xall tk st K A B F (stAll K A B F N) X) = N1 at *
  generalize hy1 : xE (spE e0 (stAll K A B F N).length) tk st (xall tk st K A B F (stAll K A B F N) X) = y1 at *
  obtain ⟨ml, hml⟩ : ∃ ml, ml = M1.length := ⟨_, rfl⟩
  obtain ⟨nl, hnl⟩ : ∃ nl, nl = N1.length := ⟨_, rfl⟩
  rw [← hml, ← hnl] at hs3 ⊢
  obtain ⟨W3, eW3⟩ : ∃ x, x = w3.alloc (.cells #[.slice ma3 ml mc3, .slice xa3 nl xc3] 46) := ⟨_, rfl⟩
  have HB3' : Hid (Below W.heap.size W W3) := by subst eW3; exact HB3.out.alloc HB3.out.size _
  have HS3 : Hid (Spc W3 base3 (.slice ma3 ml mc3) (.slice xa3 nl xc3) F M1 N1) := by subst eW3; exact hs3.below (box_below _ _)
  have HBx3 : Hid (∀ u, Below W3.heap.size W3 u → u.cell? ⟨w3.heap.size, 0, none⟩ = some (.slice ma3 ml mc3) ∧ u.cell? ⟨w3.heap.size, 1, none⟩ = some (.slice xa3 nl xc3)) := fun u hu => by
    subst eW3
    exact ⟨new_alloc hu rfl, new_alloc hu rfl⟩
  have HEW3 : Hid (w3.alloc (.cells #[.slice ma3 ml mc3, .slice xa3 nl xc3] 46) = W3) := eW3.symm
  have HBw3 : Hid (Below w.heap.size w W3) := HW.out.trans (HB3'.out.mono HW.out.size)
  clear hc0 hc1
  obtain ⟨hc0, hc1⟩ := HBx.out w3 HB3.out
  have hsz3 : w.heap.size < w3.heap.size := World.block_lt_of_cell? _ _ hc0
  clear hb3 hs3 C3 eW3 hx0 hxl hsz2
  by_cases h1 : y1 = 0
  · have h1' : (y1 != 0) = false := by simp [h1]
    subst h1
    obtain ⟨hE0, hbnd, T, tR, t1, t2, t3, t4⟩ := x_ok hy1
    rw [hM1] at t1
    rw [hN1] at t2
    have h6 := spE_zero hE0
    have HEz : Hid (ChkIs N F M K A B 0) := by have := HE.out; rw [h6.1] at this; exact this
    have hF30 : F ≤ 30 := (chk_zero HEz.out).1.2
    have hl60 : (stAll K A B F N).length ≤ 60 := h6.2
    have hb' := bnd_all hbnd
    have hfew := t3.few
    have hmlT : ml = T.marks.length := by rw [hml, t1]
    have hnlT : nl = T.marks.length := by rw [hnl, t2, t4]
    have hnm : nl = ml := by omega
    subst hnm
    have HLT : Hid (nl = T.marks.length ∧ nl = T.nexts.length ∧ nl ≤ 200) := ⟨hnlT, by omega, by omega⟩
    have HSc : Hid (Spc W3 base3 (.slice ma3 nl mc3) (.slice xa3 nl xc3) F T.marks T.nexts) := by have := HS3.out; rw [t1, t2] at this; exact this
    have HI : Hid (XInv tk st.toNat (nxl K A B F (stAll K A B F N)) (cnl X (stAll K A B F N).length) (lst F (bgn K A)) T [] ∧ T.nexts.length = T.marks.length) := ⟨t3, t4⟩
    have HSm : Hid (∀ i, i < T.nexts.length → (T.nexts.getD i []).length ≤ (stAll K A B F N).length) := xinv_small t3 t4
    have C4 : Hid (Calls Try.prog 12 #[.agg #[.slice na N nc, .slice fa F fc], .slice da D dc] W3 fun e w' => Below W3.heap.size W3 w' ∧ WdIs 0 K A B F (stAll K A B F N) D e w') := by
      have := walked_any (fc := fc) (dc := dc) (HPW.out.below HB3'.out) HE.out hD (HDW.out.below HB3'.out)
      rwa [hE0] at this
    clear hM1 hN1 hy1 hml hnl t1 t2 t3 t4 tR hmlT hnlT h6 hE0 HS3 hbnd hb' hfew
    go_wp2_with fail
    rw [HEW3.out]
    refine C4.out.mono ?_
    rintro e w4 ⟨hb4, hw4⟩
    have HB4 : Hid (Below W3.heap.size W3 w4) := hb4
    have HBw4 : Hid (Below w.heap.size w w4) := HBw3.out.trans (hb4.mono HBw3.out.size)
    clear hc0 hc1 hb4 C4
    rcases hw4 with ⟨h2, _⟩ | ⟨_, n, Ms, Sx, ga, gc, sa, sc, hn, rfl, hgr, hrow, hpth⟩
    · exact absurd rfl h2
    have HGr : Hid (Gr w4 ga (n + 1) (fun _ => F) Ms) := hgr
    have HRo : Hid (Row w4 sa n (fun i => (Sx i : Int))) := hrow
    have HPt : Hid (Pth K A B F (stAll K A B F N) n Ms Sx) := hpth
    clear hgr hrow hpth
    go_wp2
    go_loopw [15, 61] (fun v i wr => ∃ k a : Nat, k ≤ n ∧ i = .int .i64 k ∧ v = .int .i64 a ∧ a < nl ∧ Hid (T.marks.getD a [] = lst F (Ms k)) ∧ Hid (Below w4.heap.size w4 wr)) (fun _ i _ => n - (intOf i).toNat)
    case atStart =>
      refine ⟨0, 0, Nat.zero_le _, rfl, rfl, ?_, hid ?_, hid (Below.refl _ _)⟩
      · have := HI.out.1.first
        have := (List.getElem?_eq_some_iff.1 this).1
        have := HLT.out.1
        omega
      · rw [List.getD_eq_getElem?_getD, HI.out.1.first, HPt.out.zero]; rfl
    case round =>
      obtain ⟨k, a, hk, rfl, rfl, ha, HM, HBr⟩ := hrel
      have HBr3 : Hid (Below W3.heap.size W3 wr) := HB4.out.trans (HBr.out.mono HB4.out.size)
      have HBrw : Hid (Below w.heap.size w wr) := HBw4.out.trans (HBr.out.mono HBw4.out.size)
      have haI : (a : Int) < (nl : Int) := by omega
      have haT : a < T.marks.length := by have := HLT.out.1; omega
      by_cases hlt : k < n
      · obtain ⟨U, eU⟩ : ∃ x, x = wr.alloc (.cells #[.int .i64 (Sx k : Nat)] 3) := ⟨_, rfl⟩
        have HBU : Hid (Below wr.heap.size wr U) := by subst eU; exact box_below _ _
        have HEU : Hid (wr.alloc (.cells #[.int .i64 (Sx k : Nat)] 3) = U) := eU.symm
        have hbx : U.cell? ⟨wr.heap.size, 0, none⟩ = some (.int .i64 (Sx k : Nat)) := by subst eU; exact cell_of_alloc rfl
        have HU3 : Hid (Below W3.heap.size W3 U) := HBr3.out.trans (HBU.out.mono HBr3.out.size)
        have HU4 : Hid (Below w4.heap.size w4 U) := HBr.out.trans (HBU.out.mono HBr.out.size)
        obtain ⟨sb, so, hsa, hsc⟩ := HRo.out
        obtain rfl := hsa (by omega)
        have hsk := row_at hsc HBr.out hlt
        obtain ⟨q0, q1⟩ := HBx3.out U HU3.out
        obtain ⟨mb, mo, hma, hmc⟩ := mks_gr HLT.out.1 (HSc.out.below HU3.out).1
        obtain rfl := hma (by omega)
        obtain ⟨ra, rc, hma2, hmr⟩ := hmc a ha
        obtain ⟨gb, go, hga, hgc⟩ := HGr.out.below HU4.out
        obtain rfl := hga (by omega)
        obtain ⟨ra', rc', hga2, hgr2⟩ := hgc k (by omega)
        have hkI : (k : Int) < (n : Int) + 1 := by omega
        have hkn : (k : Int) < (n : Int) := by omega
        have C5 : Hid (∀ q, Calls Try.prog 11 #[.slice ra F rc, .slice ra' F rc'] (U.drewN q) fun e w' => e = .returned (.bool true) ∧ ∃ m, w' = (U.drewN q).drewN m) := fun q => by
          have := equal_any ra ra' F rc F rc' _ _ (U.drewN q) (by omega) (hmr.below (below_drewn (Below.refl _ _) q)) (hgr2.below (below_drewn (Below.refl _ _) q))
          rwa [same_yes rfl (fun i hi => by show fnl (T.marks.getD a []) i = _; rw [HM.out]; exact fnl_lst hi)] at this
        obtain ⟨s1, s2, s3⟩ := HPt.out.step k hlt
        obtain ⟨n1, n2, n3⟩ := sk_step HXo.out (steps_lt HEz.out) HI.out.1 HI.out.2 haT HM.out s1 s2
        have HN3 : Hid (∀ i, i < (T.nexts.getD a []).length → ((T.nexts.getD a []).getD i (0, 0)).1 = Sx k → ∃ k2 : Nat, ((T.nexts.getD a []).getD i (0, 0)).2 = k2 ∧ k2 < T.marks.length ∧ T.marks.getD k2 [] = lst F (Ms (k + 1))) := fun i h1 h2 => by
          obtain ⟨k2, e1, e2, e3⟩ := n3 i h1 h2
          exact ⟨k2, e1, e2, by rw [e3, s3]⟩
        obtain ⟨xb, xo, ea, ec, hxa, hxc, hxp⟩ := nxs_at (HSc.out.below HU3.out).2 n1
        subst hxa
        have hsmall := HSm.out a n1
        have C6 : Hid (∀ q, Calls Try.prog 19 #[.slice ea (T.nexts.getD a []).length ec, .func (Fn.func 20) #[] #[.pointer (some ⟨wr.heap.size, 0, none⟩)]] (U.drewN q) fun e w' => (∃ y : Nat, y < (T.nexts.getD a []).length ∧ e = .returned (.int .i64 y) ∧ ((T.nexts.getD a []).getD y (0, 0)).1 = Sx k) ∧ Below (U.drewN q).heap.size (U.drewN q) w') := fun q => skIdx (by simpa using hbx) rfl (by omega) (hxp.below (below_drewn (Below.refl _ _) q)) n2
        have HXP : Hid (Prs U ea (T.nexts.getD a [])) := hxp
        generalize hel : (T.nexts.getD a []).length = el at *
        clear hmc hma hmr hgc hga hgr2 s1 s2 s3 n1 n2 n3 hxp eU hsc hsa hbx
        go_wp2
        rw [HEU.out]
        go_quiet (first | (go_at_call 11; exact Calls.quiet_of (C5.out _)))
        clear C5
        go_wp2_with fail
        refine (C6.out _).mono ?_
        rintro e w7 ⟨⟨y, hy, rfl, hy1⟩, hb7⟩
        have HB7 : Hid (Below U.heap.size U w7) := (below_drewn (Below.refl _ _) _).trans (hb7.mono (by simp))
        obtain ⟨k2, e1, e2, e3⟩ := HN3.out y (by omega) hy1
        have HM2 : Hid (T.marks.getD k2 [] = lst F (Ms (k + 1))) := e3
        obtain ⟨eb, eo, hea, hec⟩ := HXP.out
        obtain rfl := hea (by omega)
        have hev := (hec y (by omega)).2
        rw [e1] at hev
        have hev7 := (HB7.out.cell (p := ⟨eb, eo + y * 2 + 1, none⟩) (World.block_lt_of_cell? _ _ hev)).trans hev
        have hxc7 := (HB7.out.cell (p := ⟨xb, xo + a, none⟩) (World.block_lt_of_cell? _ _ hxc)).trans hxc
        have q17 := (HB7.out.cell (p := ⟨w3.heap.size, 1, none⟩) (World.block_lt_of_cell? _ _ q1)).trans q1
        have hyI : (y : Int) < (el : Int) := by omega
        have HBr7 : Hid (Below w4.heap.size w4 w7) := HU4.out.trans (HB7.out.mono HU4.out.size)
        have hk2 : k2 < nl := by have := HLT.out.1; omega
        clear hb7 C6 hec hea hev e1 e2 e3 hy1 hxc q0 q1 hma2 hga2 hsk
        go_wp2
        go_roundw
        case rel => exact ⟨k + 1, k2, by omega, by go_num, rfl, hk2, HM2, HBr7⟩
        case measure => simp [intOf]; omega
      · obtain rfl : k = n := by omega
        obtain ⟨q0, q1⟩ := HBx3.out wr HBr3.out
        obtain ⟨mb, mo, hma, hmc⟩ := mks_gr HLT.out.1 (HSc.out.below HBr3.out).1
        obtain rfl := hma (by omega)
        obtain ⟨ra, rc, hma2, hmr⟩ := hmc a ha
        obtain ⟨gb, go, hga, hgc⟩ := HGr.out.below HBr.out
        obtain rfl := hga (by omega)
        obtain ⟨ra', rc', hga2, hgr2⟩ := hgc k (by omega)
        have hkI : (k : Int) < (k : Int) + 1 := by omega
        have C5 : Hid (∀ q, Calls Try.prog 11 #[.slice ra F rc, .slice ra' F rc'] (wr.drewN q) fun e w' => e = .returned (.bool true) ∧ ∃ m, w' = (wr.drewN q).drewN m) := fun q => by
          have := equal_any ra ra' F rc F rc' _ _ (wr.drewN q) (by omega) (hmr.below (below_drewn (Below.refl _ _) q)) (hgr2.below (below_drewn (Below.refl _ _) q))
          rwa [same_yes rfl (fun i hi => by show fnl (T.marks.getD a []) i = _; rw [HM.out]; exact fnl_lst hi)] at this
        clear hmc hma hmr hgc hga hgr2
        go_wp2
        go_quiet (first | (go_at_call 11; exact Calls.quiet_of (C5.out _)))
        clear C5
        go_wp2
        go_ret
        exact ⟨rfl, below_drewn HBrw.out _⟩
  · have h1' : (y1 != 0) = true := by simp [h1]
    have hM0 : M1 = [] := by rw [← hM1]; exact xM_nil (by rw [hy1]; exact h1)
    have hN0 : N1 = [] := by rw [← hN1]; exact xN_nil (by rw [hy1]; exact h1)
    have e1 : ml = 0 := by rw [hml, hM0]; rfl
    have e2 : nl = 0 := by rw [hnl, hN0]; rfl
    subst e1
    subst e2
    clear h1 hM0 hN0 hM1 hN1 hy1 hml hnl
    go_wp2
    go_ret
    rw [HEW3.out]
    exact ⟨rfl, HBw3.out⟩

end Go.Proofs.Ytpgodjinbabniab
