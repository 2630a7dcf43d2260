/- add. -/
import Derived.Deep.RegionHeld3
import Derived.Deep.AppendLies
import Derived.Test.YthpbgfodejoecaaSpMem
import Derived.Test.YthpbgfodejoecaaHeldJ
namespace Go.Proofs.Ythpbgfodejoecaa
open Go.RowKit Go.Maps

theorem Try.info127 : (Try.prog.info? 127).map (fun i => (i.zero, i.size, i.bytes)) = some (some (.agg #[.int .i64 0, .int .i64 0]), 2, 16) := by kernel_rfl

theorem mks_snoc {w : World} {base F : Nat} {v : Value} {marks : List (List Int)} {Z : Nat → Int} {n g : Nat} {G : Nat → Nat} (hn : n = marks.length) (h : Mrs w base v F (n + 1) (fun i => if i = n then Z else fnl (marks.getD i [])) (fun i => if i = n then g else G i)) : Mks w base v F (marks ++ [lst F Z]) := by
  subst hn
  refine ⟨fun i => if i = marks.length then g else G i, ?_⟩
  have e : (marks ++ [lst F Z]).length = marks.length + 1 := by simp
  rw [e]
  refine ⟨h.own, fun i hi => (h.rows i hi).congr (fun j hj => ?_)⟩
  by_cases e2 : i = marks.length
  · subst e2
    simp only [if_true]
    rw [show (marks ++ [lst F Z]).getD marks.length [] = lst F Z by simp, fnl_lst hj]
  · rw [if_neg e2]
    have hlt : i < marks.length := by omega
    simp [List.getElem?_append_left hlt]

/-- Behind the map's store. -/
structure AddA (W w3 : World) (base mb n : Nat) (D : DataW Unit) : Prop where
  below : Below base W w3
  kp : Kp [some 123, some 26, some 3, some 127, some 31, some 44] W w3
  map : w3.ownsMap Try.prog 149 (plainElem Try.prog 3) mb n D

theorem add_map {W w2 : World} {base r mb n : Nat} {b0 b1 b2 b3 b4 : Value} {tk st : Int} {F : Nat} {marks : List (List Int)} {nexts : List (List (Int × Int))} {C : List (Int × Int)} {mv nv cv : Value} {D : DataW Unit} {Z : Nat → Int} {kl : Lit}
    (hn : n = marks.length) (h : Xr W base r mb b0 b1 b2 b3 b4 tk st F marks nexts C mv nv cv D) (hb : Below W.heap.size W w2) (hbase : base ≤ W.heap.size) (hk : keyOf Try.prog 149 (kyv F Z) = some kl) (h1000 : n ≤ 1000) :
    ∃ w3, (Instr.mapUpdate 120 (.map (some mb)) (kyv F Z) (.int .i64 (n : Nat))).run Try.prog w2 = .ok () w3 ∧ w2.cell? ⟨r, 9, none⟩ = some (.map (some mb)) ∧ w3.cell? ⟨r, 9, none⟩ = some (.map (some mb)) ∧ AddA W w3 base mb (n + 1) (D.put kl (.lit (.int .i64 (n : Nat)))) := by
  subst hn
  have hX := h.below hb
  have hwf : (Lit.int .i64 ((marks.length : Nat) : Int)).wf = true := WalkArith.wf_i64 (by omega)
  obtain ⟨w3, hrun, hown, hg⟩ := hX.map.update Try.keyed Try.underlying120 (by unfold maxLen; omega) hk (plainElem_int Try.underlying3 hwf)
  have kp : Kp [some 123, some 26, some 3, some 127, some 31, some 44] w2 w3 := kp_map hX.map hg (by decide)
  have hs3 := srch_kp hX.blk kp (by decide)
  have hbw : Below base W w2 := hb.mono hbase
  exact ⟨w3, hrun, (srch_cells hX.blk).2.2.2.2.2.1, (srch_cells hs3).2.2.2.2.2.1, hbw.grown hg (Nat.le_trans hbase hb.size) (fun b e => by cases e; exact h.hmb), (kp_below hb).trans kp, hown⟩

/-- Behind the markings' store. -/
structure AddB (W w7 : World) (base r mb : Nat) (b0 b1 b2 b3 b4 : Value) (tk st : Int) (F : Nat) (marks : List (List Int)) (nexts : List (List (Int × Int))) (mv nv cv : Value) (D : DataW Unit) : Prop where
  below : Below base W w7
  big : base ≤ w7.heap.size
  kp : Kp [some 3, some 31, some 44] W w7
  blk : Srch w7 r b0 b1 b2 b3 b4 tk st mv nv mb cv
  mks : Mks w7 base mv F marks
  nxs : Nxs w7 base nv nexts
  map : w7.ownsMap Try.prog 149 (plainElem Try.prog 3) mb marks.length D

theorem add_half {W w3 w6 : World} {base r mb n g gc : Nat} {b0 b1 b2 b3 b4 : Value} {tk st : Int} {F : Nat} {marks : List (List Int)} {nexts : List (List (Int × Int))} {C : List (Int × Int)} {ma ca : Option Addr} {mc cc : Nat} {nv v6 : Value} {D D' : DataW Unit} {Z : Nat → Int} {G : Nat → Nat} {Vs : List Value} {o : Obj} {bx : Nat} {fr sp : Int}
    (hn : n = marks.length) (h : Xr W base r mb b0 b1 b2 b3 b4 tk st F marks nexts C (.slice ma n mc) nv (.slice ca n cc) D) (hbase : base ≤ W.heap.size) (ha : AddA W w3 base mb (n + 1) D') (hm : Mk W g F Z) (hbx : W.heap[bx]? = some (.cells #[.int .i64 fr, .int .i64 sp] 127 (0, 0)))
    (hM : Mrs w3 base (.slice ma n mc) F n (fun i => fnl (marks.getD i [])) G) (hV : w3.ownsRow base 26 1 (.slice ma n mc) n Vs ∧ ∀ i, i < n → ∃ c, Vs[i]? = some (.slice (some ⟨G i, 0, none⟩) F c))
    (hown : w6.ownsRow base 26 1 v6 (n + 1) (Vs ++ [.slice (some ⟨g, 0, none⟩) F gc])) (hgrow : (w3.alloc o).grownBy w6 (Value.slice ma n mc).ownBlock) :
    (∃ a c, v6 = .slice a (n + 1) c) ∧ (w6.cell? ⟨r, 7, none⟩ = some (.slice ma n mc) ∧ w6.frozen? ⟨r, 7, none⟩ = false) ∧
      Hid (AddB W (w6.setCell ⟨r, 7, none⟩ v6) base r mb b0 b1 b2 b3 b4 tk st F (marks ++ [lst F Z]) nexts v6 nv (.slice ca n cc) D' ∧ (w6.setCell ⟨r, 7, none⟩ v6).ownsRow base 127 2 (.slice ca n cc) n (pvals C) ∧ (w6.setCell ⟨r, 7, none⟩ v6).heap[bx]? = some (.cells #[.int .i64 fr, .int .i64 sp] 127 (0, 0))) := by
  have hg : w3.grownBy w6 (Value.slice ma n mc).ownBlock := (World.grownBy_alloc _ _ _).trans hgrow
  obtain ⟨h4, h5⟩ := Mrs.app hM hV (mk_kp hm ha.kp (by decide)) hown hgrow
  have hs3 := srch_kp h.blk ha.kp (by decide)
  have kp6 : Kp [some 123, some 3, some 127, some 31, some 44, none] w3 w6 := kp_row hV.1 hg (by decide)
  have hs6 := srch_kp hs3 kp6 (by decide)
  have kp7 : Kp [some 26, some 3, some 127, some 31, some 44, none] w6 (w6.setCell ⟨r, 7, none⟩ v6) := kp_set hs6 (by decide) v6
  have kpA : Kp [some 3, some 127, some 31, some 44] W (w6.setCell ⟨r, 7, none⟩ v6) := ((ha.kp.sub (by decide)).trans (kp6.sub (by decide))).trans (kp7.sub (by decide))
  have hb3 : base ≤ w3.heap.size := Nat.le_trans hbase ha.below.size
  have hb6 : Below base W w6 := ha.below.grown hg hb3 (fun b hb => (hV.1.lt b hb).1)
  refine ⟨h4, ⟨(srch_cells hs6).2.2.2.1, srch_frozen hs6 7⟩, ?_⟩
  have hc : W.ownsRow base 127 2 (.slice ca n cc) n (pvals C) := by have := h.cam; rwa [h.len, ← hn] at this
  refine ⟨⟨hb6.setCell h.hr _, ?_, kpA.sub (by decide), srch_set7 hs6 v6, ?_, nxs_kp h.nxs kpA (by decide) (by decide), ?_⟩, row_kp hc kpA (by decide), kpA bx _ hbx (by simp [otag])⟩
  · simp [World.setCell]
    exact Nat.le_trans hbase hb6.size
  · exact mks_kp (mks_snoc hn h5.out) kp7 (by decide) (by decide)
  · have := map_kp (map_kp ha.map kp6 (by decide)) kp7 (by decide)
    have e : (marks ++ [lst F Z]).length = n + 1 := by simp [hn]
    rw [e]
    exact this

theorem add_app {W w7 w8 : World} {base r mb n gg cap : Nat} {b0 b1 b2 b3 b4 : Value} {tk st : Int} {F : Nat} {marks : List (List Int)} {nexts : List (List (Int × Int))} {mv nv : Value} {ca : Option Addr} {cc : Nat} {D : DataW Unit} {C : List (Int × Int)} {fr sp : Int} {o : Obj}
    (h : AddB W w7 base r mb b0 b1 b2 b3 b4 tk st F marks nexts mv nv (.slice ca n cc) D) (hc : w7.ownsRow base 127 2 (.slice ca n cc) n (pvals C))
    (hown : w8.ownsRow base 127 2 (.slice (some ⟨gg, 0, none⟩) (n + 1) cap) (n + 1) (pvals C ++ [.int .i64 fr, .int .i64 sp])) (hgrow : (w7.alloc o).drew.grownBy w8 (Value.slice ca n cc).ownBlock) :
    w8.frozen? ⟨r, 10, none⟩ = false ∧ Hid (AddB W w8 base r mb b0 b1 b2 b3 b4 tk st F marks nexts mv nv (.slice ca n cc) D ∧ w8.ownsRow base 127 2 (.slice (some ⟨gg, 0, none⟩) (n + 1) cap) (n + 1) (pvals (C ++ [(fr, sp)]))) := by
  have hg2 : (w7.alloc o).grownBy w8 (Value.slice ca n cc).ownBlock := ⟨hgrow.os, hgrow.tape, hgrow.output, hgrow.size, hgrow.block⟩
  have hg : w7.grownBy w8 (Value.slice ca n cc).ownBlock := (World.grownBy_alloc _ _ _).trans hg2
  have kp : Kp [some 123, some 26, some 3, some 31, some 44, none] w7 w8 := kp_row hc hg (by decide)
  have hs : Srch w8 r b0 b1 b2 b3 b4 tk st mv nv mb (.slice ca n cc) := srch_kp h.blk kp (by decide)
  exact ⟨srch_frozen hs 10, ⟨h.below.grown hg h.big (fun b hb => (hc.lt b hb).1), Nat.le_trans h.big hg.size, h.kp.trans (kp.sub (by decide)), hs, mks_kp h.mks kp (by decide) (by decide), nxs_kp h.nxs kp (by decide) (by decide), map_kp h.map kp (by decide)⟩, by rw [← pvals_snoc]; exact hown⟩

theorem add_fin {w W w8 : World} {base r mb n gg cap : Nat} {b0 b1 b2 b3 b4 : Value} {tk st : Int} {F : Nat} {marks : List (List Int)} {nexts : List (List (Int × Int))} {mv nv cv0 mv0 cv : Value} {D0 : DataW Unit} {C : List (Int × Int)} {fr sp : Int} {Z : Nat → Int} {kl : Lit}
    (hF : F ≤ 30) (hn : n = marks.length) (hbase : base ≤ w.heap.size) (h : Xr w base r mb b0 b1 b2 b3 b4 tk st F marks nexts C mv0 nv cv0 D0) (hW : Below w.heap.size w W) (h9 : ∀ i, i < F → 0 ≤ Z i ∧ Z i ≤ 9) (hnew : lst F Z ∉ marks) (hk : keyOf Try.prog 149 (kyv F Z) = some kl)
    (hb : AddB W w8 base r mb b0 b1 b2 b3 b4 tk st F (marks ++ [lst F Z]) nexts mv nv cv (D0.put kl (.lit (.int .i64 (n : Nat))))) (hc : w8.ownsRow base 127 2 (.slice (some ⟨gg, 0, none⟩) (n + 1) cap) (n + 1) (pvals (C ++ [(fr, sp)]))) :
    Hid (Below base w (w8.setCell ⟨r, 10, none⟩ (.slice (some ⟨gg, 0, none⟩) (n + 1) cap)) ∧ Kp [some 3, some 31, some 44] w (w8.setCell ⟨r, 10, none⟩ (.slice (some ⟨gg, 0, none⟩) (n + 1) cap)) ∧
      Xr (w8.setCell ⟨r, 10, none⟩ (.slice (some ⟨gg, 0, none⟩) (n + 1) cap)) base r mb b0 b1 b2 b3 b4 tk st F (marks ++ [lst F Z]) nexts (C ++ [(fr, sp)]) mv nv (.slice (some ⟨gg, 0, none⟩) (n + 1) cap) (D0.put kl (.lit (.int .i64 (n : Nat))))) := by
  have kp : Kp [some 26, some 3, some 127, some 31, some 44, none] w8 (w8.setCell ⟨r, 10, none⟩ (.slice (some ⟨gg, 0, none⟩) (n + 1) cap)) := kp_set hb.blk (by decide) _
  have hb1 : Below base w W := hW.mono hbase
  have hlen : (C ++ [(fr, sp)]).length = n + 1 := by simp [h.len, hn]
  refine ⟨(hb1.trans hb.below).setCell h.hr _, ((kp_below hW).trans hb.kp).trans (kp.sub (by decide)), ?_⟩
  refine ⟨h.hr, h.hmb, srch_set10 hb.blk _, mks_kp hb.mks kp (by decide) (by decide), nxs_kp hb.nxs kp (by decide) (by decide), ?_, map_kp hb.map kp (by decide), ?_, by simp [h.len], fun m hm => ?_⟩
  · rw [hlen]
    exact row_kp hc kp (by decide)
  · have hs := shp_lst h9
    have e : kyv F (fnl (lst F Z)) = kyv F Z := by
      have el : kyl F (fnl (lst F Z)) = kyl F Z := List.map_congr_left (fun i _ => by
        unfold kyf
        by_cases hi : i < F
        · rw [if_pos hi, if_pos hi, fnl_lst hi]
        · rw [if_neg hi, if_neg hi])
      unfold kyv
      rw [el]
    have := nmd_put hF h.nmd h.map.isMap hs hnew (by rw [e]; exact hk)
    rw [← hn] at this
    exact this
  · rcases List.mem_append.1 hm with hm | hm
    · exact h.shp m hm
    · rw [List.mem_singleton.1 hm]
      exact shp_lst h9

set_option maxRecDepth 20000 in
set_option maxHeartbeats 4000000 in
theorem add_any {w : World} {base r mb : Nat} {b0 b1 b2 b3 b4 : Value} {tk st : Int} {F : Nat} {marks : List (List Int)} {nexts : List (List (Int × Int))} {C : List (Int × Int)} {mv nv cv : Value} {D : DataW Unit}
    (h : Xr w base r mb b0 b1 b2 b3 b4 tk st F marks nexts C mv nv cv D) (hF : F ≤ 30) (hbase : base ≤ w.heap.size) (h200 : marks.length ≤ 1000) {g gc : Nat} {Z : Nat → Int} (hm : Mk w g F Z) (h9 : ∀ i, i < F → 0 ≤ Z i ∧ Z i ≤ 9) (hnew : lst F Z ∉ marks) (fr sp : Int) :
    Calls Try.prog 68 #[.pointer (some ⟨r, 0, none⟩), .slice (some ⟨g, 0, none⟩) F gc, .agg #[.int .i64 fr, .int .i64 sp]] w fun e w' => e = .returned (.int .i64 (marks.length : Nat)) ∧ Below base w w' ∧ Kp [some 3, some 31, some 44] w w' ∧ ∃ mv' cv' D', Xr w' base r mb b0 b1 b2 b3 b4 tk st F (marks ++ [lst F Z]) nexts (C ++ [(fr, sp)]) mv' nv cv' D' := by
  have HX : Hid (Xr w base r mb b0 b1 b2 b3 b4 tk st F marks nexts C mv nv cv D) := h
  have HM : Hid (Mk w g F Z) := hm
  have H9 : Hid (∀ i, i < F → 0 ≤ Z i ∧ Z i ≤ 9) := h9
  have HNw : Hid (lst F Z ∉ marks) := hnew
  have hrl : r < w.heap.size := srch_lt h.blk
  obtain ⟨i1, hi, hz0, hz1, hz2⟩ := info_parts Try.info26
  have HI1 : Hid (Try.prog.info? 26 = some i1 ∧ i1.zero = some (.slice none 0 0) ∧ i1.size = 1 ∧ i1.bytes = 24) := ⟨hi, hz0, hz1, hz2⟩
  clear hi hz0 hz1 hz2
  obtain ⟨i5, hi, hz0, hz1, hz2⟩ := info_parts Try.info127
  have HI5 : Hid (Try.prog.info? 127 = some i5 ∧ i5.zero = some (.agg #[.int .i64 0, .int .i64 0]) ∧ i5.size = 2 ∧ i5.bytes = 16) := ⟨hi, hz0, hz1, hz2⟩
  clear hi hz0 hz1 hz2
  obtain ⟨n, hn⟩ : ∃ n, n = marks.length := ⟨_, rfl⟩
  have HN : Hid (n = marks.length) := hn
  have hn1000 : n ≤ 1000 := by omega
  obtain ⟨ma, mc, hmv⟩ : ∃ ma mc, mv = .slice ma n mc := by
    obtain ⟨G, ⟨Vs, h1, _⟩, _⟩ := h.mks
    rw [hn]
    rcases h1.2 with ⟨rfl, h0⟩ | ⟨g, cap, cur, rfl, _⟩
    · exact ⟨none, 0, by rw [h0]⟩
    · exact ⟨_, _, rfl⟩
  obtain ⟨ca, cc, hcv, hccn, _⟩ := owns_prs h.cam rfl
  rw [h.len, ← hn] at hcv
  subst hmv
  subst hcv
  obtain ⟨kl, hkl⟩ := key_some H9.out
  have HK : Hid (keyOf Try.prog 149 (kyv F Z) = some kl) := hkl
  obtain ⟨W, eW⟩ : ∃ x, x = w.alloc (.cells #[.int .i64 fr, .int .i64 sp] 127) := ⟨_, rfl⟩
  have HW : Hid (Below w.heap.size w W ∧ W.heap.size = w.heap.size + 1) := by subst eW; exact ⟨box_below _ _, by simp⟩
  have HEW : Hid (w.alloc (.cells #[.int .i64 fr, .int .i64 sp] 127) = W) := eW.symm
  have HBx : Hid (∀ u, Below W.heap.size W u → u.cell? ⟨w.heap.size, 0, none⟩ = some (.int .i64 fr) ∧ u.cell? ⟨w.heap.size, 1, none⟩ = some (.int .i64 sp)) := fun u hu => by
    subst eW
    exact ⟨new_alloc hu rfl, new_alloc hu rfl⟩
  have C1 : Hid (∀ u, Below W.heap.size W u → Calls Try.prog 97 #[.slice (some ⟨g, 0, none⟩) F gc] u fun e w' => e = .returned (kyv F Z) ∧ Below u.heap.size u w') := fun u hu => keyOf_any _ F gc Z u hF H9.out ((HM.out.below HW.out.1).below hu).row
  have hXW : Xr W base r mb b0 b1 b2 b3 b4 tk st F marks nexts C (.slice ma n mc) nv (.slice ca n cc) D := h.below HW.out.1
  obtain ⟨_, _, _, q7, _, q9, q10⟩ := srch_cells hXW.blk
  have hrW : r < W.heap.size := srch_lt hXW.blk
  have HXW : Hid (Xr W base r mb b0 b1 b2 b3 b4 tk st F marks nexts C (.slice ma n mc) nv (.slice ca n cc) D) := hXW
  have HNe : Hid (∀ b, b = r ∨ b = w.heap.size → (Value.slice ca n cc).ownBlock ≠ some b) := fun b hb e => by
    have hlt := (h.cam.lt b e).2
    rcases hb with rfl | rfl
    · obtain ⟨d, hd⟩ : ∃ d, w.heap[b]? = some (.cells d 127 (0, 0)) := by
        rcases h.cam.2 with ⟨e2, _⟩ | ⟨g2, cap, cur, e2, _, hg2, _⟩
        · rw [e2] at e
          cases e
        · rw [e2] at e
          cases e
          exact ⟨cur, hg2⟩
      have h1 := h.blk
      unfold Srch at h1
      rw [h1] at hd
      simp at hd
    · omega
  have HBk : Hid (W.heap[w.heap.size]? = some (.cells #[.int .i64 fr, .int .i64 sp] 127 (0, 0))) := by
    show W.heap[w.heap.size]? = _
    rw [eW]
    exact Go.Deep.blk_alloc_new _ _
  have HMW : Hid (Mk W g F Z) := hm.below HW.out.1
  have hbW : base ≤ W.heap.size := Nat.le_trans hbase HW.out.1.size
  have p7 := (srch_cells h.blk).2.2.2.1
  clear eW h hm h9 hnew hkl hXW hn
  go_enter Try.func68, Try.ntmps68
  go_wp2
  rw [HEW.out]
  clear p7
  go_region_held3 (fun z => z.cell? ⟨r, 9, none⟩ = some (.map (some mb)))
    (first | (with_reducible exact y9) | (with_reducible exact x9) | (with_reducible exact (World.cell?_drew _ _).trans q9))
    (first | (go_at_call 97; refine (C1.out _ (below_drew_iff.2 (Below.refl _ _))).mono ?_; rintro e w2 ⟨rfl, hb2⟩; have hb2' : Below W.heap.size W w2 := (below_drew_iff.2 (Below.refl _ _)).trans hb2; obtain ⟨w3, hrun, x9, y9, h3⟩ := add_map HN.out HXW.out hb2' hbW HK.out hn1000; have H3 : Hid (AddA W w3 base mb (n + 1) (D.put kl (.lit (.int .i64 (n : Nat))))) := h3; clear h3; dsimp only))
  clear hrun hb2 hb2' C1 x9 y9 q7 q9 q10
  have hs3 := srch_kp HXW.out.blk H3.out.kp (by decide)
  obtain ⟨_, _, _, q7, _, q9, q10⟩ := srch_cells hs3
  have hr3 : r < w3.heap.size := srch_lt hs3
  have hf7 := srch_frozen hs3 7
  clear hs3
  obtain ⟨G, hM⟩ := mks_kp HXW.out.mks H3.out.kp (by decide) (by decide)
  rw [← HN.out] at hM
  obtain ⟨Vs, hVs⟩ := hM.own
  have HVs : Hid (w3.ownsRow base 26 1 (.slice ma n mc) n Vs ∧ ∀ i, i < n → ∃ c, Vs[i]? = some (.slice (some ⟨G i, 0, none⟩) F c)) := hVs
  have HMr : Hid (Mrs w3 base (.slice ma n mc) F n (fun i => fnl (marks.getD i [])) G) := hM
  have HSz3 : Hid (base ≤ w3.heap.size) := Nat.le_trans hbW H3.out.below.size
  clear hM hVs
  go_upto_region 4 with (at_builtin; refine wpList_append_own_at _ rfl _ _ 27 rfl base 26 i1 (.slice none 0 0) 1 24 Try.underlying27 HI1.out.1 HI1.out.2.1 HI1.out.2.2.1 HI1.out.2.2.2 rfl (by decide) _ _ _ rfl (HVs.out.1.alloc _) ⟨w3.heap.size, 0, none⟩ 1 1 [.slice (some ⟨g, 0, none⟩) F gc] rfl rfl (World.news_of_block (cs := #[.slice (some ⟨g, 0, none⟩) F gc]) (t := 26) (fr := (0, 0)) (heap_alloc_new w3 _)) (by simp [Value.oneCell']) (by unfold maxLen; omega) (by omega) (by have := HSz3.out; simp; omega) ?_; intro v6 w6 hown6 hgrow6 _ _; obtain ⟨⟨a6, c6, rfl⟩, ⟨r7, rf7⟩, H6⟩ := add_half HN.out HXW.out hbW H3.out HMW.out HBk.out HMr.out HVs.out hown6 hgrow6; clear hown6 hgrow6)
  clear r7 rf7 q7 q9 q10 hf7
  generalize hw7 : w6.setCell ⟨r, 7, none⟩ (.slice a6 (n + 1) c6) = w7 at *
  clear hw7
  have HX7 : Hid (AddB W w7 base r mb b0 b1 b2 b3 b4 tk st F (marks ++ [lst F Z]) nexts (.slice a6 (n + 1) c6) nv (.slice ca n cc) (D.put kl (.lit (.int .i64 (n : Nat))))) := H6.out.1
  have HCam7 : Hid (w7.ownsRow base 127 2 (.slice ca n cc) n (pvals C)) := H6.out.2.1
  have hbx7 := H6.out.2.2
  have k10 := (srch_cells HX7.out.blk).2.2.2.2.2.2
  have hr7 : r < w7.heap.size := srch_lt HX7.out.blk
  have kb0 : w7.cell? ⟨w.heap.size, 0, none⟩ = some (.int .i64 fr) := cell_of_cells hbx7 rfl
  have kb1 : w7.cell? ⟨w.heap.size, 1, none⟩ = some (.int .i64 sp) := cell_of_cells hbx7 rfl
  have HSz7 : Hid (base ≤ w7.heap.size) := HX7.out.big
  clear hbx7 H6
  refine G_region (fun z => z.cell? ⟨r, 10, none⟩ = some (.slice ca n cc) ∧ z.cell? ⟨w.heap.size, 0, none⟩ = some (.int .i64 fr) ∧ z.cell? ⟨w.heap.size, 1, none⟩ = some (.int .i64 sp)) (fun j => j == 10) (by kernel_rfl) ⟨k10, kb0, kb1⟩ (fun hHeld => ?_)
  refine G_take (i := 0) (oi := { dst := some 33, op := Op.move (Operand.tmp 0), type := 147, pos := _, after := #[], guard := none }) (v := .pointer (some ⟨r, 0, none⟩)) rfl (by kernel_rfl) (by kernel_rfl) (by kernel_rfl) (by kernel_rfl) (fun _ _ _ h => h) (by rfl) (fun u hu => ?_) hHeld ?_
  · (try dsimp only at hu); go_simp
  (try simp only [Act.put, List.setIfInBounds_toArray, List.set_cons_zero, List.set_cons_succ])
  refine G_take (i := 1) (oi := { dst := some 34, op := Op.move (Operand.tmp 0), type := 147, pos := _, after := #[], guard := none }) (v := .pointer (some ⟨r, 0, none⟩)) rfl (by kernel_rfl) (by kernel_rfl) (by kernel_rfl) (by kernel_rfl) (fun _ _ _ h => h) (by rfl) (fun u hu => ?_) hHeld ?_
  · (try dsimp only at hu); go_simp
  (try simp only [Act.put, List.setIfInBounds_toArray, List.set_cons_zero, List.set_cons_succ])
  refine G_take (i := 2) (oi := { dst := some 35, op := Op.nilCheck (Operand.tmp 34), type := 0, pos := _, after := #[{ on := 1, ground := Ground.data }], guard := none }) (v := .pointer (some ⟨r, 0, none⟩)) rfl (by kernel_rfl) (by kernel_rfl) (by kernel_rfl) (by kernel_rfl) (fun _ _ _ h => h) (by rfl) (fun u hu => ?_) hHeld ?_
  · (try dsimp only at hu); go_simp
  (try simp only [Act.put, List.setIfInBounds_toArray, List.set_cons_zero, List.set_cons_succ])
  refine G_take (i := 3) (oi := { dst := some 36, op := Op.fieldAddr 123 (Operand.tmp 35) 5, type := 0, pos := _, after := #[{ on := 2, ground := Ground.data }], guard := none }) (v := .pointer (some ⟨r, 10, none⟩)) rfl (by kernel_rfl) (by kernel_rfl) (by kernel_rfl) (by kernel_rfl) (fun _ _ _ h => h) (by rfl) (fun u hu => ?_) hHeld ?_
  · (try dsimp only at hu); go_simp
  (try simp only [Act.put, List.setIfInBounds_toArray, List.set_cons_zero, List.set_cons_succ])
  refine G_take (i := 4) (oi := { dst := some 37, op := Op.load 121 (Operand.tmp 36), type := 121, pos := _, after := #[{ on := 3, ground := Ground.data }], guard := none }) (v := .slice ca n cc) rfl (by kernel_rfl) (by kernel_rfl) (by kernel_rfl) (by kernel_rfl) (fun _ _ _ h => h) (by rfl) (fun u hu => ?_) hHeld ?_
  · (try dsimp only at hu); go_simp
  (try simp only [Act.put, List.setIfInBounds_toArray, List.set_cons_zero, List.set_cons_succ])
  refine G_take (i := 5) (oi := { dst := some 38, op := Op.load 127 (Operand.tmp 5), type := 127, pos := _, after := #[], guard := none }) (v := .agg #[.int .i64 fr, .int .i64 sp]) rfl (by kernel_rfl) (by kernel_rfl) (by kernel_rfl) (by kernel_rfl) (fun _ _ _ h => h) (by rfl) (fun u hu => ?_) hHeld ?_
  · (try dsimp only at hu); go_simp
  (try simp only [Act.put, List.setIfInBounds_toArray, List.set_cons_zero, List.set_cons_succ])
  refine G_step (i := 6) (o := { dst := some 39, op := Op.buildSlice 121 1 #[(0, Operand.tmp 38)], type := 121, pos := _, after := #[{ on := 5, ground := Ground.data }], guard := none }) (by kernel_rfl) rfl (fun K' hK => ?_)
  go_simp
  refine hK.out _ _ (fun _ => ?_) (fun hS2 => ?_)
  · exact ⟨keep_alloc (Below.refl _ _).drew k10, keep_alloc (Below.refl _ _).drew kb0, keep_alloc (Below.refl _ _).drew kb1⟩
  have hHeld2 := hS2 rfl
  clear hK K' hS2 hHeld
  (try simp only [Act.put, List.setIfInBounds_toArray, List.set_cons_zero, List.set_cons_succ])
  refine G_step (i := 7) (o := { dst := some 40, op := Op.call { callee := Callee.builtin Builtin.append, args := #[Operand.tmp 37, Operand.tmp 39], argTypes := #[121, 121] }, type := 121, pos := _, after := #[{ on := 4, ground := Ground.data }, { on := 6, ground := Ground.data }], guard := none }) (by kernel_rfl) rfl (fun K' hK => ?_)
  (refine step_append_lies _ (by rfl) _ _ _ (by rfl) base 127 i5 _ 2 16 Try.underlying121 HI5.out.1 HI5.out.2.1 HI5.out.2.2.1 HI5.out.2.2.2 rfl (by omega) (.slice ca n cc) n (pvals C) (by rfl) ((HCam7.out.alloc _).drew) ⟨w7.heap.size, 0, none⟩ 1 1 [.int .i64 fr, .int .i64 sp] (by rfl) (by rfl) (World.news_of_block (cs := #[.int .i64 fr, .int .i64 sp]) (t := 127) (fr := (0, 0)) (heap_alloc_new w7 _)) (by simp [Value.oneCell']) (by omega) (by unfold maxLen; omega) (by omega) (by have := HSz7.out; simp; omega) (w7.heap.size + 1) (by simp) ?_; intro gg cap w8 hown8 hgrow8 _ _; obtain ⟨gf, H8⟩ := add_app HX7.out HCam7.out hown8 hgrow8; have g10 : w8.cell? ⟨r, 10, none⟩ = some (.slice ca n cc) := grown_cell hgrow8 k10 (HNe.out _ (Or.inl rfl)); have gb0 : w8.cell? ⟨w.heap.size, 0, none⟩ = some (.int .i64 fr) := grown_cell hgrow8 kb0 (HNe.out _ (Or.inr rfl)); have gb1 : w8.cell? ⟨w.heap.size, 1, none⟩ = some (.int .i64 sp) := grown_cell hgrow8 kb1 (HNe.out _ (Or.inr rfl)); clear hown8)
  refine hK.out _ _ (fun _ => ?_) (fun hS2 => ?_)
  · exact ⟨g10, gb0, gb1⟩
  have hHeld3 := hS2 rfl
  clear hK K' hS2 hHeld2
  (try simp only [Act.put, List.setIfInBounds_toArray, List.set_cons_zero, List.set_cons_succ])
  refine G_step (i := 8) (o := { dst := some 41, op := Op.nilCheck (Operand.tmp 33), type := 0, pos := _, after := #[{ on := 0, ground := Ground.data }, { on := 0, ground := Ground.phase }, { on := 1, ground := Ground.phase }, { on := 2, ground := Ground.phase }, { on := 3, ground := Ground.phase }, { on := 4, ground := Ground.phase }, { on := 5, ground := Ground.phase }, { on := 6, ground := Ground.phase }, { on := 7, ground := Ground.phase }], guard := none }) (by kernel_rfl) rfl (fun K' hK => ?_)
  go_simp
  refine hK.out _ _ (fun _ => ?_) (fun hS2 => ?_)
  · exact ⟨g10, gb0, gb1⟩
  have hHeld4 := hS2 rfl
  clear hK K' hS2 hHeld3
  (try simp only [Act.put, List.setIfInBounds_toArray, List.set_cons_zero, List.set_cons_succ])
  refine G_step (i := 9) (o := { dst := some 42, op := Op.fieldAddr 123 (Operand.tmp 41) 5, type := 0, pos := _, after := #[{ on := 8, ground := Ground.data }, { on := 0, ground := Ground.phase }, { on := 1, ground := Ground.phase }, { on := 2, ground := Ground.phase }, { on := 3, ground := Ground.phase }, { on := 4, ground := Ground.phase }, { on := 5, ground := Ground.phase }, { on := 6, ground := Ground.phase }, { on := 7, ground := Ground.phase }], guard := none }) (by kernel_rfl) rfl (fun K' hK => ?_)
  go_simp
  refine hK.out _ _ (fun _ => ?_) (fun hS2 => ?_)
  · exact ⟨g10, gb0, gb1⟩
  have hHeld5 := hS2 rfl
  clear hK K' hS2 hHeld4
  (try simp only [Act.put, List.setIfInBounds_toArray, List.set_cons_zero, List.set_cons_succ])
  refine G_step (i := 10) (o := { dst := none, op := Op.store 121 (Operand.tmp 42) (Operand.tmp 40), type := 0, pos := _, after := #[{ on := 9, ground := Ground.data }, { on := 7, ground := Ground.data }, { on := 7, ground := Ground.chain }, { on := 0, ground := Ground.phase }, { on := 1, ground := Ground.phase }, { on := 2, ground := Ground.phase }, { on := 3, ground := Ground.phase }, { on := 4, ground := Ground.phase }, { on := 5, ground := Ground.phase }, { on := 6, ground := Ground.phase }, { on := 7, ground := Ground.phase }], guard := none }) (by kernel_rfl) rfl (fun K' hK => ?_)
  go_simp
  refine hK.out _ _ (fun h => absurd h (by decide)) (fun _ => ?_)
  clear hK K' hHeld5
  (try simp only [Act.put, List.setIfInBounds_toArray, List.set_cons_zero, List.set_cons_succ])
  refine G_done (by kernel_rfl) ?_ _
  have HF := add_fin hF HN.out hbase HX.out HW.out.1 H9.out HNw.out HK.out H8.out.1 H8.out.2
  clear g10 gb0 gb1 gf hgrow8 k10 kb0 kb1
  go_wp2
  go_ret
  exact ⟨ret_int (congrArg (fun k : Nat => (k : Int)) HN.out), HF.out.1, HF.out.2.1, _, _, _, HF.out.2.2⟩

end Go.Proofs.Ythpbgfodejoecaa
