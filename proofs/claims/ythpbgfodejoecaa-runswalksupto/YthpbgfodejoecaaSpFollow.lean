/- follow. -/
import Derived.Test.YthpbgfodejoecaaSpAdd
namespace Go.Proofs.Ythpbgfodejoecaa
open Go.RowKit Go.Maps

theorem zero3 (w : World) : (zeroValue 3).run Try.prog w = .ok (.int .i64 0) w := by kernel_rfl

theorem ret_two {a b c : Int} (h : a = b) : Ending.returned (.tuple #[.int .i64 a, .int .i64 c]) = .returned (.tuple #[.int .i64 b, .int .i64 c]) := by rw [h]

theorem fr_tuple {b0 : Nat} {K A B : Nat → Int} {F : Nat} {m : Nat → Int} {t : St3} {e : Ending} {w : World} (h : FrIs b0 K A B F m t e w) : ∃ v1 v2, e = .returned (.tuple #[v1, v2]) := by
  rcases h with ⟨_, rfl⟩ | ⟨_, _, rfl⟩ | ⟨_, _, a, c, _, rfl, _⟩ <;> exact ⟨_, _, rfl⟩

/-- What follow answers: m' is the marking behind the step. -/
def FoIs (w' : World) (base r mb : Nat) (b0 b1 b2 b3 b4 : Value) (tk : Int) (q : Nat) (F : Nat) (marks : List (List Int)) (nexts : List (List (Int × Int))) (C : List (Int × Int)) (mv nv cv : Value) (D : DataW Unit) (at' s : Nat) (m' : List Int) (e : Ending) : Prop :=
  (ovr tk m' = true ∧ e = .returned (.tuple #[.int .i64 0, .int .i64 7]) ∧ Xr w' base r mb b0 b1 b2 b3 b4 tk q F marks nexts C mv nv cv D) ∨
  (ovr tk m' = false ∧ m' ∈ marks ∧ e = .returned (.tuple #[.int .i64 ((marks.idxOf m' : Nat) : Int), .int .i64 0]) ∧ Xr w' base r mb b0 b1 b2 b3 b4 tk q F marks nexts C mv nv cv D) ∨
  (ovr tk m' = false ∧ m' ∉ marks ∧ marks.length = q ∧ e = .returned (.tuple #[.int .i64 0, .int .i64 8]) ∧ Xr w' base r mb b0 b1 b2 b3 b4 tk q F marks nexts C mv nv cv D) ∨
  (ovr tk m' = false ∧ m' ∉ marks ∧ marks.length ≠ q ∧ e = .returned (.tuple #[.int .i64 ((marks.length : Nat) : Int), .int .i64 0]) ∧ ∃ mv' cv' D', Xr w' base r mb b0 b1 b2 b3 b4 tk q F (marks ++ [m']) nexts (C ++ [((at' : Int), (s : Int))]) mv' nv cv' D')

theorem look_at {w : World} {base r mb : Nat} {b0 b1 b2 b3 b4 : Value} {tk st : Int} {F : Nat} {marks : List (List Int)} {nexts : List (List (Int × Int))} {C : List (Int × Int)} {mv nv cv : Value} {D : DataW Unit}
    (h : Xr w base r mb b0 b1 b2 b3 b4 tk st F marks nexts C mv nv cv D) {Z : Nat → Int} (h9 : ∀ i, i < F → 0 ≤ Z i ∧ Z i ≤ 9) :
    ∃ (c : Int) (z : Bool), (Instr.lookup 120 (.map (some mb)) (kyv F Z) true).run Try.prog w = .ok (.tuple #[.int .i64 c, .bool z]) w ∧ Hid ((z = true ↔ lst F Z ∈ marks) ∧ (lst F Z ∈ marks → c = ((marks.idxOf (lst F Z) : Nat) : Int))) := by
  have e : kyv F (fnl (lst F Z)) = kyv F Z := by
    have el : kyl F (fnl (lst F Z)) = kyl F Z := List.map_congr_left (fun i _ => by
      unfold kyf
      by_cases hi : i < F
      · rw [if_pos hi, if_pos hi, fnl_lst hi]
      · rw [if_neg hi, if_neg hi])
    unfold kyv
    rw [el]
  obtain ⟨kl, hkl⟩ := key_some h9
  obtain ⟨v, ps, hrun, hv⟩ := h.map.look_ok Try.keyed Try.underlying120 (zero3 w) (plainElem_int Try.underlying3 (by decide)) hkl
  obtain ⟨c, rfl, hc, _⟩ := plainElem_int_inv Try.underlying3 hv
  obtain ⟨h1, h2⟩ := h.nmd (lst F Z) kl (shp_lst h9) (by rw [e]; exact hkl)
  refine ⟨c, Maps.has D kl, hrun, h1, fun hm => ?_⟩
  have h3 := h2 hm
  have h4 := congrArg Prod.fst hc
  simp only at h4
  rw [h3] at h4
  simp only [DataW.lit.injEq, Lit.int.injEq, true_and] at h4
  exact h4.symm

theorem mk_at {w : World} {base F : Nat} {ma : Option Addr} {n mc : Nat} {marks : List (List Int)} (h : Mks w base (.slice ma n mc) F marks) {i : Nat} (hi : i < marks.length) :
    ∃ b o g c, ma = some ⟨b, o, none⟩ ∧ w.cell? ⟨b, o + i, none⟩ = some (.slice (some ⟨g, 0, none⟩) F c) ∧ Mk w g F (fnl (marks.getD i [])) := by
  obtain ⟨G, ⟨Vs, h1, h2⟩, h3⟩ := h
  obtain ⟨c, hc⟩ := h2 i hi
  rcases h1.2 with ⟨e, h0⟩ | ⟨g, cap, cur, e, _⟩
  · omega
  · simp only [Value.slice.injEq] at e
    obtain ⟨rfl, rfl, rfl⟩ := e
    have := h1.cells (g := g) rfl i _ hc
    rw [add_none2] at this
    exact ⟨g, 0, G i, c, rfl, this, h3 i hi⟩

set_option maxRecDepth 20000 in
set_option maxHeartbeats 4000000 in
theorem follow_any {w : World} {base r mb : Nat} {na fa sa ia oa : Option Addr} {N nc F fc sc ic oc : Nat} {M : Nat → ByteArray} {K A B : Nat → Int} {l : List St3} (hB : Brd w na N nc fa F sa ia oa M K A B l)
    {tk : Int} {q : Nat} {marks : List (List Int)} {nexts : List (List (Int × Int))} {C : List (Int × Int)} {mv nv cv : Value} {D : DataW Unit}
    (h : Xr w base r mb (.slice na N nc) (.slice fa F fc) (.slice sa l.length sc) (.slice ia N ic) (.slice oa N oc) tk q F marks nexts C mv nv cv D) (hbase : base ≤ w.heap.size) (h200 : marks.length ≤ q) (hq : q ≤ 200) (htk : tk ≤ 9) {at' s : Nat} (hat : at' < marks.length) (hs : s < l.length) (hen : enb K A B F (fnl (marks.getD at' [])) (l.getD s (0, 0, 0))) :
    Calls Try.prog 98 #[.pointer (some ⟨r, 0, none⟩), .int .i64 (at' : Nat), .int .i64 (s : Nat)] w fun e w' => Below base w w' ∧ Kp [some 3, some 31, some 44] w w' ∧
      FoIs w' base r mb (.slice na N nc) (.slice fa F fc) (.slice sa l.length sc) (.slice ia N ic) (.slice oa N oc) tk q F marks nexts C mv nv cv D at' s (lst F (frs K A B (l.getD s (0, 0, 0)) (fnl (marks.getD at' [])))) e := by
  have HB : Hid (Brd w na N nc fa F sa ia oa M K A B l) := hB
  have HX : Hid (Xr w base r mb (.slice na N nc) (.slice fa F fc) (.slice sa l.length sc) (.slice ia N ic) (.slice oa N oc) tk q F marks nexts C mv nv cv D) := h
  have hF30 : F ≤ 30 := (chk_zero hB.chk).1.2
  have hF0 : 0 < F := chk_some hB.chk
  have hl60 := hB.few
  obtain ⟨n, hn⟩ : ∃ n, n = marks.length := ⟨_, rfl⟩
  have HN : Hid (n = marks.length) := hn
  obtain ⟨ma, mc, hmv⟩ : ∃ ma mc, mv = .slice ma n mc := by
    obtain ⟨G, ⟨Vs, h1, _⟩, _⟩ := h.mks
    rw [hn]
    rcases h1.2 with ⟨rfl, h0⟩ | ⟨g, cap, cur, rfl, _⟩
    · exact ⟨none, 0, by rw [h0]⟩
    · exact ⟨_, _, rfl⟩
  subst hmv
  obtain ⟨gb, go, g, gc, rfl, hmc, hmk⟩ := mk_at h.mks hat
  have HEn : Hid (enb K A B F (fnl (marks.getD at' [])) (l.getD s (0, 0, 0))) := hen
  have hsh : Shp F (marks.getD at' []) := h.shp _ (by rw [List.getD_eq_getElem?_getD, List.getElem?_eq_getElem hat]; exact List.getElem_mem hat)
  generalize hm : fnl (marks.getD at' []) = m at *
  have H9 : Hid (∀ i, i < F → 0 ≤ m i ∧ m i ≤ 9) := by
    have := hsh.2
    rw [hm] at this
    exact this
  have HMk : Hid (Mk w g F m) := hmk
  have hatn : (at' : Int) < (n : Int) := by omega
  have hrl : r < w.heap.size := srch_lt h.blk
  obtain ⟨⟨p0, p1, p2, p3, p4⟩, p5, p6, p7, _, p9, _⟩ := srch_cells h.blk
  have C1 : Hid (∀ u, Below w.heap.size w u → Calls Try.prog 76 #[.agg #[.slice na N nc, .slice fa F fc, .slice sa l.length sc, .slice ia N ic, .slice oa N oc], .slice (some ⟨g, 0, none⟩) F gc, .int .i64 (s : Nat)] u fun e w' => Below u.heap.size u w' ∧ FrIs u.heap.size K A B F m (l.getD s (0, 0, 0)) e w') := fun u hu => by
    refine (fire_any (HB.out.below hu) (HMk.out.below hu).row H9.out (s : Int)).mono fun e w' hh => ⟨hh.1, ?_⟩
    rcases hh.2 with ⟨h1, _⟩ | ⟨_, h1⟩
    · exact absurd ⟨by omega, by omega⟩ h1
    · rw [Int.toNat_natCast] at h1
      exact h1
  have HSl : Hid (s < l.length) := hs
  clear hB h hen hmk hsh hs hm hn
  go_enter Try.func98, Try.ntmps98
  go_wp2
  go_region_held3 (fun z => z.cell? ⟨r, 0, none⟩ = some (.slice na N nc) ∧ z.cell? ⟨r, 1, none⟩ = some (.slice fa F fc) ∧ z.cell? ⟨r, 2, none⟩ = some (.slice sa l.length sc) ∧ z.cell? ⟨r, 3, none⟩ = some (.slice ia N ic) ∧ z.cell? ⟨r, 4, none⟩ = some (.slice oa N oc) ∧ z.cell? ⟨r, 7, none⟩ = some (.slice (some ⟨gb, go, none⟩) n mc) ∧ z.cell? ⟨gb, go + at', none⟩ = some (.slice (some ⟨g, 0, none⟩) F gc))
    (first | (with_reducible exact ⟨x0, x1, x2, x3, x4, x7, xg⟩) | (exact ⟨p0, p1, p2, p3, p4, p7, hmc⟩))
    (first | (go_at_call 76; refine (C1.out _ (below_drew_iff.2 (Below.refl _ _))).mono ?_; rintro e w1 ⟨hb1, hf1⟩; have hb1' : Below w.heap.size w w1 := (below_drew_iff.2 (Below.refl _ _)).trans hb1; obtain ⟨v1, v2, rfl⟩ := fr_tuple hf1; obtain ⟨⟨x0, x1, x2, x3, x4⟩, x5, x6, x7, _, x9, _⟩ := srch_cells (HX.out.below hb1').blk; have xg : w1.cell? ⟨gb, go + at', none⟩ = some (.slice (some ⟨g, 0, none⟩) F gc) := (hb1'.cell (p := ⟨gb, go + at', none⟩) (World.block_lt_of_cell? _ _ hmc)).trans hmc; dsimp only))
  have HB1 : Hid (Below w.heap.size w w1) := hb1'
  have HX1 : Hid (Xr w1 base r mb (.slice na N nc) (.slice fa F fc) (.slice sa l.length sc) (.slice ia N ic) (.slice oa N oc) tk q F marks nexts C (.slice (some ⟨gb, go, none⟩) n mc) nv cv D) := HX.out.below hb1'
  have HF1 : Hid (Below base w w1 ∧ Kp [some 3, some 31, some 44] w w1) := ⟨hb1'.mono hbase, kp_below hb1'⟩
  clear p0 p1 p2 p3 p4 p5 p6 p7 p9 hb1 hmc xg x0 x1 x2 x3 x4 C1
  rcases hf1 with ⟨h1, _⟩ | ⟨_, h1, h2⟩ | ⟨_, h2, g5, c5, hg5, he5, hm5⟩
  · exact absurd HEn.out h1
  · cases h2
    have HO : Hid (ovr tk (lst F (frs K A B (l.getD s (0, 0, 0)) m)) = true) := by
      obtain ⟨j, hj, h9⟩ := h1
      exact ovr_lst.2 ⟨j, hj, by omega⟩
    clear h1 hb1' x5 x6 x7 x9
    go_wp2
    go_ret2
    exact ⟨HF1.out.1, HF1.out.2, Or.inl ⟨HO.out, rfl, HX1.out⟩⟩
  · cases he5
    obtain ⟨Z, hZ⟩ : ∃ Z, Z = frs K A B (l.getD s (0, 0, 0)) m := ⟨_, rfl⟩
    have HZ9 : Hid (∀ i, i < F → 0 ≤ Z i ∧ Z i ≤ 9) := fun i hi => by rw [hZ]; exact ⟨frs_bound HEn.out H9.out i hi, h2 i hi⟩
    rw [← hZ] at hm5
    have HZe : Hid (Z = frs K A B (l.getD s (0, 0, 0)) m) := hZ
    have HM5 : Hid (Mk w1 g5 F Z) := hm5
    have C2 : Hid (∀ u, Below w1.heap.size w1 u → Calls Try.prog 103 #[.slice (some ⟨g5, 0, none⟩) F c5] u fun e w' => (∃ y : Int, e = .returned (.int .i64 y) ∧ (tk < y ↔ ∃ i, i < F ∧ tk < Z i)) ∧ w' = u) := fun u hu => max_any _ F c5 Z u (by omega) hF0 (HM5.out.below hu).row tk
    clear h2 hm5 hg5 hb1' hZ
    go_wp2
    go_region_held3 (fun z => z.cell? ⟨r, 5, none⟩ = some (.int .i64 tk))
      (first | (with_reducible exact z5) | (exact x5))
      (first | (go_at_call 103; refine (C2.out _ (below_drew_iff.2 (Below.refl _ _))).mono ?_; rintro e w2 ⟨⟨y, rfl, hy⟩, hw2⟩; have hb2 : Below w1.heap.size w1 w2 := (by rw [hw2]; exact below_drew_iff.2 (Below.refl _ _)); have HY : Hid (tk < y ↔ ∃ i, i < F ∧ tk < Z i) := hy; have hX2 := HX1.out.below hb2; have z5 := (srch_cells hX2.blk).2.1; clear hw2 hy; dsimp only))
    have HX2 : Hid (Xr w2 base r mb (.slice na N nc) (.slice fa F fc) (.slice sa l.length sc) (.slice ia N ic) (.slice oa N oc) tk q F marks nexts C (.slice (some ⟨gb, go, none⟩) n mc) nv cv D) := hX2
    have HB2 : Hid (Below w.heap.size w w2) := HB1.out.trans (hb2.mono HB1.out.size)
    have HM2 : Hid (Mk w2 g5 F Z) := HM5.out.below hb2
    have HF2 : Hid (Below base w w2 ∧ Kp [some 3, some 31, some 44] w w2) := ⟨HB2.out.mono hbase, kp_below HB2.out⟩
    obtain ⟨_, y5, y6, y7, _, y9, _⟩ := srch_cells hX2.blk
    clear hX2 z5 x5 x6 x7 x9 hb2 C2
    by_cases hyt : tk < y
    · have HO : Hid (ovr tk (lst F Z) = true) := ovr_lst.2 (HY.out.1 hyt)
      go_wp2
      go_ret2
      rw [← HZe.out]
      exact ⟨HF2.out.1, HF2.out.2, Or.inl ⟨HO.out, rfl, HX2.out⟩⟩
    · have HO : Hid (ovr tk (lst F Z) = false) := by
        cases ho : ovr tk (lst F Z)
        · rfl
        · exact absurd (HY.out.2 (ovr_lst.1 ho)) hyt
      have C3 : Hid (∀ u, Below w2.heap.size w2 u → Calls Try.prog 97 #[.slice (some ⟨g5, 0, none⟩) F c5] u fun e w' => e = .returned (kyv F Z) ∧ Below u.heap.size u w') := fun u hu => keyOf_any _ F c5 Z u hF30 HZ9.out (HM2.out.below hu).row
      go_wp2
      go_region_held3 (fun z => z.cell? ⟨r, 9, none⟩ = some (.map (some mb)))
        (first | (with_reducible exact z9) | (exact y9))
        (first | (go_at_call 97; refine (C3.out _ (below_drew_iff.2 (Below.refl _ _))).mono ?_; rintro e w3 ⟨rfl, hb3⟩; have hb3' : Below w2.heap.size w2 w3 := (below_drew_iff.2 (Below.refl _ _)).trans hb3; have hX3 := HX2.out.below hb3'; obtain ⟨c, z, hrun, HL⟩ := look_at hX3 HZ9.out; have z9 := (srch_cells hX3.blk).2.2.2.2.2.1; dsimp only))
      have HX3 : Hid (Xr w3 base r mb (.slice na N nc) (.slice fa F fc) (.slice sa l.length sc) (.slice ia N ic) (.slice oa N oc) tk q F marks nexts C (.slice (some ⟨gb, go, none⟩) n mc) nv cv D) := hX3
      have HB3 : Hid (Below w.heap.size w w3) := HB2.out.trans (hb3'.mono HB2.out.size)
      have HM3 : Hid (Mk w3 g5 F Z) := HM2.out.below hb3'
      have HF3 : Hid (Below base w w3 ∧ Kp [some 3, some 31, some 44] w w3) := ⟨HB3.out.mono hbase, kp_below HB3.out⟩
      obtain ⟨_, _, z6, z7, _, _, _⟩ := srch_cells hX3.blk
      clear hX3 z9 y5 y6 y7 y9 hb3 hb3' C3 hrun
      cases hz : z
      · have HNm : Hid (lst F Z ∉ marks) := fun hm => by
          have := HL.out.1.2 hm
          rw [hz] at this
          cases this
        clear HL hz
        have C4 : Hid (∀ u, Below w3.heap.size w3 u → Calls Try.prog 68 #[.pointer (some ⟨r, 0, none⟩), .slice (some ⟨g5, 0, none⟩) F c5, .agg #[.int .i64 (at' : Nat), .int .i64 (s : Nat)]] u fun e w' => e = .returned (.int .i64 (marks.length : Nat)) ∧ Below base u w' ∧ Kp [some 3, some 31, some 44] u w' ∧ ∃ mv' cv' D', Xr w' base r mb (.slice na N nc) (.slice fa F fc) (.slice sa l.length sc) (.slice ia N ic) (.slice oa N oc) tk q F (marks ++ [lst F Z]) nexts (C ++ [(((at' : Nat) : Int), ((s : Nat) : Int))]) mv' nv cv' D') := fun u hu => add_any (HX3.out.below hu) hF30 (Nat.le_trans hbase (Nat.le_trans HB3.out.size hu.size)) (by omega) (HM3.out.below hu) HZ9.out HNm.out _ _
        by_cases hnq : n = q
        · have hnq' : ((n : Int) == (q : Int)) = true := beq_iff_eq.2 (by omega)
          go_wp2
          go_quiet (fail)
          go_wp2
          go_ret2
          rw [← HZe.out]
          refine ⟨below_drewn HF3.out.1 _, fun i o ho ht => HF3.out.2 i o ho ht, Or.inr (Or.inr (Or.inl ⟨HO.out, HNm.out, by rw [← HN.out]; exact hnq, rfl, HX3.out.below (below_drewn (Below.refl _ _) _)⟩))⟩
        · have hnq' : ((n : Int) == (q : Int)) = false := beq_eq_false_iff_ne.2 (by omega)
          go_wp2
          go_quiet (fail)
          go_wp2_with fail
          refine (C4.out _ (below_drewn (Below.refl _ _) nq)).mono ?_
          rintro e w4 ⟨rfl, hb4, hk4, hX4⟩
          have HF4 : Hid (Below base w w4 ∧ Kp [some 3, some 31, some 44] w w4 ∧ ∃ mv' cv' D', Xr w4 base r mb (.slice na N nc) (.slice fa F fc) (.slice sa l.length sc) (.slice ia N ic) (.slice oa N oc) tk q F (marks ++ [lst F Z]) nexts (C ++ [(((at' : Nat) : Int), ((s : Nat) : Int))]) mv' nv cv' D') := ⟨(below_drewn HF3.out.1 nq).trans hb4, Kp.trans (fun i o ho ht => HF3.out.2 i o ho ht) hk4, hX4⟩
          clear hb4 hk4 hX4 C4
          go_wp2
          go_ret2
          rw [← HZe.out]
          exact ⟨HF4.out.1, HF4.out.2.1, Or.inr (Or.inr (Or.inr ⟨HO.out, HNm.out, by rw [← HN.out]; exact hnq, rfl, HF4.out.2.2⟩))⟩
      · have HMm : Hid (lst F Z ∈ marks ∧ c = ((marks.idxOf (lst F Z) : Nat) : Int)) := ⟨HL.out.1.1 hz, HL.out.2 (HL.out.1.1 hz)⟩
        clear HL hz
        go_wp2
        go_ret2
        rw [← HZe.out]
        exact ⟨HF3.out.1, HF3.out.2, Or.inr (Or.inl ⟨HO.out, HMm.out.1, ret_two HMm.out.2, HX3.out⟩)⟩

end Go.Proofs.Ythpbgfodejoecaa
