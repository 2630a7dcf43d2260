/- The law SpaceCounts, walked. -/
import Derived.Test.YtpgodjinbabniabSpCounts
namespace Go.Proofs.Ytpgodjinbabniab
open Go.RowKit Go.Maps

set_option maxRecDepth 20000 in
set_option maxHeartbeats 8000000 in
theorem spaceCounts_walk {na fa : Option Addr} {N nc F fc : Nat} {M : Nat → ByteArray} {K A B : Nat → Int} {w : World} (hp : Prc w na N nc fa F M K A B) (tk st : Int) :
    Calls Try.prog 5 #[.agg #[.slice na N nc, .slice fa F fc], .int .i64 tk, .int .i64 st] w fun e w' => e = .returned (.bool true) ∧ Below w.heap.size w w' := by
  obtain ⟨e0, he⟩ := chk_ex N F M K A B
  obtain ⟨X, hX⟩ := xok_ex K A B F (stAll K A B F N)
  have HE : Hid (ChkIs N F M K A B e0) := he
  have HXo : Hid (XOk K A B F (stAll K A B F N) X) := hX
  obtain ⟨W, eW⟩ : ∃ x, x = (w.alloc (.cells #[.slice na N nc, .slice fa F fc] 25)).alloc (.cells #[.int .i64 tk] 3) := ⟨_, rfl⟩
  have HW : Hid (Below w.heap.size w W ∧ W.heap.size = w.heap.size + 1 + 1) := by subst eW; exact ⟨(box_below _ _).trans ((box_below _ _).mono (by simp)), by simp⟩
  have HBx : Hid (∀ u, Below W.heap.size W u → u.cell? ⟨w.heap.size, 0, none⟩ = some (.slice na N nc) ∧ u.cell? ⟨w.heap.size, 1, none⟩ = some (.slice fa F fc) ∧ u.cell? ⟨w.heap.size + 1, 0, none⟩ = some (.int .i64 tk)) := fun u hu => by
    have e1 : (w.alloc (.cells #[.slice na N nc, .slice fa F fc] 25)).heap.size = w.heap.size + 1 := by simp
    subst eW
    refine ⟨keep_alloc hu (cell_of_alloc rfl), keep_alloc hu (cell_of_alloc rfl), ?_⟩
    rw [← e1]
    exact new_alloc hu rfl
  have HEW : Hid ((w.alloc (.cells #[.slice na N nc, .slice fa F fc] 25)).alloc (.cells #[.int .i64 tk] 3) = W) := eW.symm
  have HPW : Hid (Prc W na N nc fa F M K A B) := hp.below HW.out.1
  have C1 : Hid (Calls Try.prog 10 #[] W fun e w' => (∃ na fa, e = .returned (.agg #[.slice na 3 3, .slice fa 2 2]) ∧ Prc w' na 3 3 fa 2 sMs sKs sAs sBs) ∧ Below W.heap.size W w') := straight_any W
  clear eW hp he hX
  go_enter Try.func5, Try.ntmps5
  go_wp2_with fail
  rw [HEW.out]
  refine C1.out.mono ?_
  rintro e w1 ⟨⟨na', fa', rfl, hp1⟩, hb1⟩
  have HB1 : Hid (Below W.heap.size W w1) := hb1
  have C2 : Hid (Calls Try.prog 18 #[.agg #[.slice na' 3 3, .slice fa' 2 2], .int .i64 1, .int .i64 2] w1 fun e w' => Below w1.heap.size w1 w' ∧ ∃ (ma : Option Addr) (mc : Nat) (xa : Option Addr) (xc : Nat), e = .returned (.tuple #[.agg #[.slice ma 0 mc, .slice xa 0 xc], .int .i64 8])) := st_explore2 hp1
  clear hb1 hp1 C1
  go_wp2_with fail
  refine C2.out.mono ?_
  rintro e w2 ⟨hb2, ma, mc, xa, xc, rfl⟩
  obtain ⟨W2, eW2⟩ : ∃ x, x = w2.alloc (.cells #[.slice ma 0 mc, .slice xa 0 xc] 46) := ⟨_, rfl⟩
  have HB2 : Hid (Below W.heap.size W W2) := by
    subst eW2
    have h1 : Below W.heap.size W w2 := HB1.out.trans (hb2.mono HB1.out.size)
    exact h1.alloc h1.size _
  have HEW2 : Hid (w2.alloc (.cells #[.slice ma 0 mc, .slice xa 0 xc] 46) = W2) := eW2.symm
  obtain ⟨hc0, hc1, hc2⟩ := HBx.out w2 (HB1.out.trans (hb2.mono HB1.out.size))
  have hsz2 : w.heap.size < w2.heap.size := World.block_lt_of_cell? _ _ hc0
  have hsz2' : w.heap.size + 1 < w2.heap.size := World.block_lt_of_cell? _ _ hc2
  have C3 : Hid (Calls Try.prog 18 #[.agg #[.slice na N nc, .slice fa F fc], .int .i64 tk, .int .i64 st] W2 fun e w' => Below W2.heap.size W2 w' ∧ EpIs W2.heap.size (spE e0 (stAll K A B F N).length) tk st F (xall tk st K A B F (stAll K A B F N) X) e w') := exploreF_any (HPW.out.below HB2.out) HE.out tk st HXo.out
  clear hb2 C2 eW2
  go_wp2_with fail
  rw [HEW2.out]
  refine C3.out.mono ?_
  rintro e w3 ⟨hb3, ma3, mc3, xa3, xc3, base3, _, rfl, hs3⟩
  have HB3 : Hid (Below W.heap.size W w3) := HB2.out.trans (hb3.mono HB2.out.size)
  generalize hM1 : xM (spE e0 (stAll K A B F N).length) tk st (xall tk st K A B F (stAll K A B F N) X) = M1 at *
  generalize hN1 : xN (spE e0 (stAll K A B F N).length) tk st (xall tk st K A B F (stAll K A B F N) X) = N1 at *
  generalize hy1 : xE (spE e0 (stAll K A B F N).length) tk st (xall tk st K A B F (stAll K A B F N) X) = y1 at *
  obtain ⟨ml, hml⟩ : ∃ ml, ml = M1.length := ⟨_, rfl⟩
  obtain ⟨nl, hnl⟩ : ∃ nl, nl = N1.length := ⟨_, rfl⟩
  rw [← hml, ← hnl] at hs3 ⊢
  obtain ⟨W3, eW3⟩ : ∃ x, x = w3.alloc (.cells #[.slice ma3 ml mc3, .slice xa3 nl xc3] 46) := ⟨_, rfl⟩
  have HB3' : Hid (Below W.heap.size W W3 ∧ W3.heap.size = w3.heap.size + 1) := by subst eW3; exact ⟨HB3.out.alloc HB3.out.size _, by simp⟩
  have HS3 : Hid (Spc W3 base3 (.slice ma3 ml mc3) (.slice xa3 nl xc3) F M1 N1) := by subst eW3; exact hs3.below (box_below _ _)
  have HBx3 : Hid (∀ u, Below W3.heap.size W3 u → u.cell? ⟨w3.heap.size, 0, none⟩ = some (.slice ma3 ml mc3) ∧ u.cell? ⟨w3.heap.size, 1, none⟩ = some (.slice xa3 nl xc3)) := fun u hu => by
    subst eW3
    exact ⟨new_alloc hu rfl, new_alloc hu rfl⟩
  have HEW3 : Hid (w3.alloc (.cells #[.slice ma3 ml mc3, .slice xa3 nl xc3] 46) = W3) := eW3.symm
  have HL : Hid (ml = M1.length ∧ nl = N1.length) := ⟨hml, hnl⟩
  have HBw3 : Hid (Below w.heap.size w W3) := HW.out.1.trans (HB3'.out.1.mono HW.out.1.size)
  clear hb3 hs3 C3 eW3 hc0 hc1 hc2
  by_cases h1 : y1 = 0
  · have h1' : (y1 != 0) = false := by simp [h1]
    subst h1
    obtain ⟨hE0, T, t1, t2, t3, t4, t5, t6, t7, t8, t9, t10, t11⟩ := x_counts (a := tk) (b := st) HXo.out (fun h => by
      have h6 := spE_zero h
      have := HE.out
      rw [h6.1] at this
      exact steps_lt this) hy1
    rw [hM1] at t1
    rw [hN1] at t2
    have h6 := spE_zero hE0
    have hF30 : F ≤ 30 := by
      have := HE.out
      rw [h6.1] at this
      exact (chk_zero this).1.2
    have hl60 : (stAll K A B F N).length ≤ 60 := h6.2
    have HT : Hid (M1 = T.marks ∧ N1 = T.nexts) := ⟨t1, t2⟩
    have hmlT : ml = T.marks.length := by rw [hml, t1]
    have hnlT : nl = T.marks.length := by rw [hnl, t2, t3]
    have HNd : Hid (T.marks.Nodup ∧ (∀ m, m ∈ T.marks → Shp F m ∧ ovr tk m = false) ∧ (∀ i, i < T.nexts.length → (T.nexts.getD i []).length ≤ (stAll K A B F N).length) ∧ (∀ i, i < T.nexts.length → ∀ e, e ∈ T.nexts.getD i [] → ∃ k : Nat, e.2 = k ∧ k < T.marks.length) ∧ (∀ k, 0 < k → k < T.marks.length → ∃ n e, n < k ∧ e ∈ T.nexts.getD n [] ∧ e.2 = (k : Int))) := ⟨t7, t8, t9, t10, t11⟩
    have hml200 : ml ≤ 200 := by omega
    have hml0 : 0 < ml := by omega
    have hmlst : (ml : Int) ≤ st := by omega
    have hnm : nl = ml := by omega
    subst hnm
    have HLT : Hid (nl = T.marks.length ∧ nl = T.nexts.length) := ⟨hnlT, by omega⟩
    have hcap : nl ≤ mc3 := mks_cap HS3.out.1
    have HSc : Hid (Spc W3 base3 (.slice ma3 nl mc3) (.slice xa3 nl xc3) F T.marks T.nexts) := by have := HS3.out; rw [t1, t2] at this; exact this
    clear hM1 hN1 hy1 hml hnl t1 t2 t3 t4 t5 t6 t7 t8 t9 t10 t11 hmlT hnlT h6 hE0 HS3 HL
    have hmk := run_make_row' (P := Try.prog) 55 4 (.bool false) 1 Try.underlying55 Try.info4 rfl .i64 .i64 nl (by omega) (by omega)
    have HC0 : Hid (Ct W3 ((w3.alloc (.cells #[.slice ma3 nl mc3, .slice xa3 nl xc3] 46)).alloc (.cells ((madeCells #[.bool false] nl).setIfInBounds 0 (.bool true)) 4)) (w3.heap.size + 1) nl T.nexts 0 0) := by rw [HEW3.out]; exact ct_start W3 _ _ HB3'.out.2 _
    have hrow0 : ((w3.alloc (.cells #[.slice ma3 nl mc3, .slice xa3 nl xc3] 46)).alloc (.cells (madeCells #[.bool false] nl) 4)).cell? ⟨w3.heap.size + 1, 0, none⟩ = some (.bool false) := by
      rw [HEW3.out, ← HB3'.out.2]
      exact (World.rowIs_made W3 (.bool false) nl 4).cell hml0
    have hfr0 : ((w3.alloc (.cells #[.slice ma3 nl mc3, .slice xa3 nl xc3] 46)).alloc (.cells (madeCells #[.bool false] nl) 4)).frozen? ⟨w3.heap.size + 1, 0, none⟩ = false := by
      rw [HEW3.out, ← HB3'.out.2]
      exact (World.rowIs_made W3 (.bool false) nl 4).frozen 0
    have hml0I : (0 : Int) < (nl : Int) := by omega
    have hsz3 : w.heap.size + 1 < w3.heap.size := by have := HB3.out.size; have := HW.out.2; omega
    go_wp2
    clear hmk hrow0 hfr0
    go_loopw [51] (fun i wr => ∃ n : Nat, n ≤ nl ∧ i = .int .i64 n ∧ Hid (Ct W3 wr (w3.heap.size + 1) nl T.nexts n 0)) (fun i _ => nl - (intOf i).toNat)
    case atStart => exact ⟨0, Nat.zero_le _, rfl, HC0.out⟩
    case round =>
      obtain ⟨n, hn, rfl, HT⟩ := hrel
      clear HC0
      by_cases hlt : n < nl
      · have hnT : n < T.nexts.length := by have := HLT.out; omega
        obtain ⟨xb, xo, ea, ec, rfl, hxc, hpr⟩ := nxs_at (HSc.out.below HT.out.below).2 hnT
        have HPr : Hid (Prs W3 ea (T.nexts.getD n [])) := by
          obtain ⟨xb', xo', ea', ec', hx1, hx2, hx3⟩ := nxs_at HSc.out.2 hnT
          simp only [Option.some.injEq, Addr.mk.injEq, and_true] at hx1
          obtain ⟨rfl, rfl⟩ := hx1
          have := (HT.out.below.cell (p := ⟨xb, xo + n, none⟩) (World.block_lt_of_cell? _ _ hx2)).trans hx2
          rw [hxc] at this
          simp only [Option.some.injEq, Value.slice.injEq] at this
          obtain ⟨rfl, _, rfl⟩ := this
          exact hx3
        have hnI : (n : Int) < (nl : Int) := by omega
        obtain ⟨el, hel⟩ : ∃ el, el = (T.nexts.getD n []).length := ⟨_, rfl⟩
        have HEl : Hid (el = (T.nexts.getD n []).length) := hel
        have hel60 : el ≤ 60 := by have := HNd.out.2.2.1 n hnT; omega
        have HnT : Hid (n < T.nexts.length) := hnT
        rw [← hel] at hxc
        clear hpr hel hnT
        go_wp2
        clear hxc
        go_loopw [58] (fun i wr => ∃ j : Nat, j ≤ el ∧ i = .int .i64 j ∧ Hid (Ct W3 wr (w3.heap.size + 1) nl T.nexts n j)) (fun i _ => el - (intOf i).toNat)
        case atStart => exact ⟨0, Nat.zero_le _, rfl, HT.out⟩
        case round =>
          obtain ⟨j, hj, rfl, HJ⟩ := hrel
          by_cases hjl : j < el
          · obtain ⟨eb, eo, hea, hec⟩ := HPr.out
            rw [← HEl.out] at hea hec
            obtain rfl := hea (by omega)
            obtain ⟨g1, g2⟩ := hec j hjl
            have d1 := (HJ.out.below.cell (p := ⟨eb, eo + j * 2, none⟩) (World.block_lt_of_cell? _ _ g1)).trans g1
            have d2 := (HJ.out.below.cell (p := ⟨eb, eo + j * 2 + 1, none⟩) (World.block_lt_of_cell? _ _ g2)).trans g2
            have hjI : (j : Int) < (el : Int) := by omega
            have hjT : j < (T.nexts.getD n []).length := by have := HEl.out; omega
            obtain ⟨k, hk1, hk2⟩ := HNd.out.2.2.2.1 n HnT.out ((T.nexts.getD n []).getD j (0, 0)) (getD2_mem hjT)
            rw [hk1] at d2
            have HJT : Hid (j < (T.nexts.getD n []).length) := hjT
            have HK1 : Hid (((T.nexts.getD n []).getD j (0, 0)).2 = (k : Int)) := hk1
            have hknl : (k : Int) < (nl : Int) := by have := HLT.out; omega
            have hsl : eb < wr.heap.size := World.block_lt_of_cell? _ _ d1
            obtain ⟨Y, hY, _⟩ := HJ.out.row
            have hck : wr.cell? ⟨w3.heap.size + 1, k, none⟩ = some (.bool (Y k)) := hY.cell (by omega)
            have hfk := hY.frozen k
            have hfbl := hY.lt
            generalize ((T.nexts.getD n []).getD j (0, 0)).1 = s1 at *
            clear hec hea g1 g2 hk1 hjT hY hk2
            by_cases hnk : (n : Int) < (k : Int)
            · have HN' : Hid (Ct W3 ((wr.setCell ⟨w3.heap.size + 1, k, none⟩ (.bool true)).alloc (.cells #[.int .i64 s1, .int .i64 (k : Nat)] 52)) (w3.heap.size + 1) nl T.nexts n (j + 1)) := HJ.out.hit HJT.out _ HK1.out
              clear HJ
              go_wp2
              go_roundw
              case rel => exact ⟨j + 1, by omega, by go_num, HN'.out⟩
              case measure => simp [intOf]; omega
            · have HN' : Hid (Ct W3 (wr.alloc (.cells #[.int .i64 s1, .int .i64 (k : Nat)] 52)) (w3.heap.size + 1) nl T.nexts n (j + 1)) := HJ.out.miss HJT.out _ (by rw [HK1.out]; exact hnk)
              clear HJ
              go_wp2
              go_roundw
              case rel => exact ⟨j + 1, by omega, by go_num, HN'.out⟩
              case measure => simp [intOf]; omega
          · obtain rfl : el = j := by omega
            have HN' : Hid (Ct W3 wr (w3.heap.size + 1) nl T.nexts (n + 1) 0) := HJ.out.next HEl.out
            clear HJ
            go_wp2
            go_roundw
            case rel => exact ⟨n + 1, by omega, by go_num, HN'.out⟩
            case measure => simp [intOf]; omega
      · obtain rfl : nl = n := by omega
        obtain ⟨p0, p1⟩ := HBx3.out wr HT.out.below
        obtain ⟨gb, go, _, _, rfl, _, _⟩ := mk_at HSc.out.1 (i := 0) (by have := HLT.out; omega)
        go_wp2
        clear p0 p1
        go_loopw [75] (fun i wr => ∃ n : Nat, n ≤ nl ∧ i = .int .i64 n ∧ Hid (Ct W3 wr (w3.heap.size + 1) nl T.nexts nl 0)) (fun i _ => nl - (intOf i).toNat)
        case atStart => exact ⟨0, Nat.zero_le _, rfl, HT.out⟩
        case round =>
          obtain ⟨n, hn2, rfl, HJ⟩ := hrel
          clear HT
          obtain ⟨p0, p1⟩ := HBx3.out wr HJ.out.below
          have hbl3 : w3.heap.size < wr.heap.size := World.block_lt_of_cell? _ _ p0
          by_cases hlt : n < nl
          · have hnT : n < T.marks.length := by have := HLT.out; omega
            obtain ⟨gb', go', g, gc, hge, hmc, hmk⟩ := mk_at (HSc.out.below HJ.out.below).1 hnT
            simp only [Option.some.injEq, Addr.mk.injEq, and_true] at hge
            obtain ⟨rfl, rfl⟩ := hge
            have hnI : (n : Int) < (nl : Int) := by omega
            have hcapI : (n : Int) < (mc3 : Int) := by omega
            have hcapN : n < mc3 := by omega
            have hsl : gb < wr.heap.size := World.block_lt_of_cell? _ _ hmc
            have HBa : Hid (Below W3.heap.size W3 (wr.alloc (.cells #[.slice (some ⟨g, 0, none⟩) F gc] 26))) := HJ.out.below.alloc HJ.out.below.size _
            have hmem : T.marks.getD n [] ∈ T.marks := by
              rw [List.getD_eq_getElem?_getD, List.getElem?_eq_getElem hnT]
              exact List.getElem_mem hnT
            obtain ⟨hsh, hov⟩ := HNd.out.2.1 _ hmem
            have C5 : Hid (Calls Try.prog 21 #[.slice (some ⟨g, 0, none⟩) F gc, .func (Fn.func 22) #[] #[.pointer (some ⟨w.heap.size + 1, 0, none⟩)]] (wr.alloc (.cells #[.slice (some ⟨g, 0, none⟩) F gc] 26)) fun e w' => e = .returned (.bool false) ∧ w' = wr.alloc (.cells #[.slice (some ⟨g, 0, none⟩) F gc] 26)) :=
              outAll_any (HBx.out _ (HB3'.out.1.trans (HBa.out.mono HB3'.out.1.size))).2.2 (by omega) (hmk.alloc _).row (fun i hi => ⟨(hsh.2 i hi).1, by have := ovr_no (F := F) (f := fnl (T.marks.getD n [])) (by rw [← hsh.1]; exact hov) i hi; exact this⟩)
            have C6 : Hid (Calls Try.prog 23 #[.slice (some ⟨gb, go, none⟩) n mc3, .func (Fn.func 24) #[] #[.pointer (some ⟨wr.heap.size, 0, none⟩)]] (wr.alloc (.cells #[.slice (some ⟨g, 0, none⟩) F gc] 26)) fun e w' => e = .returned (.bool false) ∧ ∃ q, w' = (wr.alloc (.cells #[.slice (some ⟨g, 0, none⟩) F gc] 26)).drewN q) :=
              eqNone_any (by omega) (by omega) (cell_of_alloc rfl) (gr_take (mks_gr HLT.out.1 (HSc.out.below HBa.out).1) (by omega)) (hmk.alloc _).row (fun i hi => marks_ne HNd.out.1 (fun m hm => (HNd.out.2.1 m hm).1) hi hnT)
            clear hmk hmem hsh hov hnT
            go_wp2_with fail
            refine C5.out.mono ?_
            rintro e w5 ⟨rfl, rfl⟩
            go_wp2_with fail
            refine C6.out.mono ?_
            rintro e w6 ⟨rfl, q6, rfl⟩
            have HN' : Hid (Ct W3 ((wr.alloc (.cells #[.slice (some ⟨g, 0, none⟩) F gc] 26)).drewN q6) (w3.heap.size + 1) nl T.nexts nl 0) := HJ.out.alloc _ _
            clear C5 C6 HJ hmc p0 p1
            go_wp2
            go_roundw
            case rel => exact ⟨n + 1, by omega, by go_num, HN'.out⟩
            case measure => simp [intOf]; omega
          · obtain ⟨Y, hY, hYt⟩ := HJ.out.row
            have C7 : Hid (Calls Try.prog 25 #[.slice (some ⟨w3.heap.size + 1, 0, none⟩) nl nl, .bool false] wr fun e w' => e = .returned (.bool false) ∧ w' = wr) := by
              have := containsB_any (some ⟨w3.heap.size + 1, 0, none⟩) nl nl Y wr (by omega) ⟨w3.heap.size + 1, 0, fun _ => rfl, fun i hi => by rw [Nat.zero_add]; exact hY.cell hi⟩
              rwa [hasB_no (fun i hi => by rw [hYt i hi (ct_all (fun k h0 hk => HNd.out.2.2.2.2 k h0 (by have := HLT.out; omega)) HLT.out.2 i hi)]; decide)] at this
            have HFn : Hid (Below w.heap.size w wr) := HBw3.out.trans (HJ.out.below.mono HBw3.out.size)
            have hgt : ¬ st < (nl : Int) := by omega
            have hee : ((nl : Int) == (nl : Int)) = true := beq_iff_eq.2 rfl
            clear hY hYt HJ
            go_wp2_with fail
            refine C7.out.mono ?_
            rintro e w8 ⟨rfl, rfl⟩
            clear C7
            go_wp2
            go_ret
            exact ⟨rfl, HFn.out⟩
  · have h1' : (y1 != 0) = true := by simp [h1]
    have hM0 : M1 = [] := by rw [← hM1]; exact xM_nil (by rw [hy1]; exact h1)
    have hN0 : N1 = [] := by rw [← hN1]; exact xN_nil (by rw [hy1]; exact h1)
    have e1 : ml = 0 := by rw [hml, hM0]; rfl
    have e2 : nl = 0 := by rw [hnl, hN0]; rfl
    subst e1
    subst e2
    clear h1 hM0 hN0 hM1 hN1 hy1 hml hnl
    go_wp2
    go_ret
    rw [HEW3.out]
    exact ⟨rfl, HBw3.out⟩

end Go.Proofs.Ytpgodjinbabniab
