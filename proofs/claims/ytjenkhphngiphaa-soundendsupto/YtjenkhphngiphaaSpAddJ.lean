/- add. follow. spread. Reverse, wayTo. -/
import Derived.Test.YtjenkhphngiphaaSpKeyJ
import Derived.Test.YtjenkhphngiphaaHeld
import Derived.Deep.RegionHeld3
import Derived.Deep.AppendLies
import Derived.RegionTactic
import Derived.ChangeAlike
namespace Go.Proofs.Ytjenkhphngiphaa
open Go.RowKit Go.Maps

theorem Try.info114 : (Try.prog.info? 114).map (fun i => (i.zero, i.size, i.bytes)) = some (some (.agg #[.int .i64 0, .int .i64 0]), 2, 16) := by kernel_rfl

theorem mks_snoc {w : World} {base F : Nat} {v : Value} {marks : List (List Int)} {Z : Nat → Int} {n g : Nat} {G : Nat → Nat} (hn : n = marks.length) (h : Mrs w base v F (n + 1) (fun i => if i = n then Z else fnl (marks.getD i [])) (fun i => if i = n then g else G i)) : Mks w base v F (marks ++ [lst F Z]) := by
  subst hn
  refine ⟨fun i => if i = marks.length then g else G i, ?_⟩
  have e : (marks ++ [lst F Z]).length = marks.length + 1 := by simp
  rw [e]
  refine ⟨h.own, fun i hi => (h.rows i hi).congr (fun j hj => ?_)⟩
  by_cases e2 : i = marks.length
  · subst e2
    simp only [if_true]
    rw [show (marks ++ [lst F Z]).getD marks.length [] = lst F Z by simp, fnl_lst hj]
  · rw [if_neg e2]
    have hlt : i < marks.length := by omega
    simp [List.getElem?_append_left hlt]

/-- Behind the map's store. -/
structure AddA (W w3 : World) (base mb n : Nat) (D : DataW Unit) : Prop where
  below : Below base W w3
  kp : Kp [some 111, some 26, some 3, some 114, some 56, some 58] W w3
  map : w3.ownsMap Try.prog 142 (plainElem Try.prog 3) mb n D

theorem add_map {W w2 : World} {base r mb n : Nat} {b0 b1 b2 b3 b4 : Value} {tk st : Int} {F : Nat} {marks : List (List Int)} {nexts : List (List (Int × Int))} {C : List (Int × Int)} {mv nv cv : Value} {D : DataW Unit} {Z : Nat → Int} {kl : Lit}
    (hn : n = marks.length) (h : Xr W base r mb b0 b1 b2 b3 b4 tk st F marks nexts C mv nv cv D) (hb : Below W.heap.size W w2) (hbase : base ≤ W.heap.size) (hk : keyOf Try.prog 142 (kyv F Z) = some kl) (h1000 : n ≤ 1000) :
    ∃ w3, (Instr.mapUpdate 108 (.map (some mb)) (kyv F Z) (.int .i64 (n : Nat))).run Try.prog w2 = .ok () w3 ∧ w2.cell? ⟨r, 9, none⟩ = some (.map (some mb)) ∧ w3.cell? ⟨r, 9, none⟩ = some (.map (some mb)) ∧ AddA W w3 base mb (n + 1) (D.put kl (.lit (.int .i64 (n : Nat)))) := by
  subst hn
  have hX := h.below hb
  have hwf : (Lit.int .i64 ((marks.length : Nat) : Int)).wf = true := WalkArith.wf_i64 (by omega)
  obtain ⟨w3, hrun, hown, hg⟩ := hX.map.update Try.keyed Try.underlying108 (by unfold maxLen; omega) hk (plainElem_int Try.underlying3 hwf)
  have kp : Kp [some 111, some 26, some 3, some 114, some 56, some 58] w2 w3 := kp_map hX.map hg (by decide)
  have hs3 := srch_kp hX.blk kp (by decide)
  have hbw : Below base W w2 := hb.mono hbase
  exact ⟨w3, hrun, (srch_cells hX.blk).2.2.2.2.2.1, (srch_cells hs3).2.2.2.2.2.1, hbw.grown hg (Nat.le_trans hbase hb.size) (fun b e => by cases e; exact h.hmb), (kp_below hb).trans kp, hown⟩

/-- Behind the markings' store. -/
structure AddB (W w7 : World) (base r mb : Nat) (b0 b1 b2 b3 b4 : Value) (tk st : Int) (F : Nat) (marks : List (List Int)) (nexts : List (List (Int × Int))) (mv nv cv : Value) (D : DataW Unit) : Prop where
  below : Below base W w7
  big : base ≤ w7.heap.size
  kp : Kp [some 3, some 56, some 58] W w7
  blk : Srch w7 r b0 b1 b2 b3 b4 tk st mv nv mb cv
  mks : Mks w7 base mv F marks
  nxs : Nxs w7 base nv nexts
  map : w7.ownsMap Try.prog 142 (plainElem Try.prog 3) mb marks.length D

theorem add_half {W w3 w6 : World} {base r mb n g gc : Nat} {b0 b1 b2 b3 b4 : Value} {tk st : Int} {F : Nat} {marks : List (List Int)} {nexts : List (List (Int × Int))} {C : List (Int × Int)} {ma ca : Option Addr} {mc cc : Nat} {nv v6 : Value} {D D' : DataW Unit} {Z : Nat → Int} {G : Nat → Nat} {Vs : List Value} {o : Obj} {bx : Nat} {fr sp : Int}
    (hn : n = marks.length) (h : Xr W base r mb b0 b1 b2 b3 b4 tk st F marks nexts C (.slice ma n mc) nv (.slice ca n cc) D) (hbase : base ≤ W.heap.size) (ha : AddA W w3 base mb (n + 1) D') (hm : Mk W g F Z) (hbx : W.heap[bx]? = some (.cells #[.int .i64 fr, .int .i64 sp] 114 (0, 0)))
    (hM : Mrs w3 base (.slice ma n mc) F n (fun i => fnl (marks.getD i [])) G) (hV : w3.ownsRow base 26 1 (.slice ma n mc) n Vs ∧ ∀ i, i < n → ∃ c, Vs[i]? = some (.slice (some ⟨G i, 0, none⟩) F c))
    (hown : w6.ownsRow base 26 1 v6 (n + 1) (Vs ++ [.slice (some ⟨g, 0, none⟩) F gc])) (hgrow : (w3.alloc o).grownBy w6 (Value.slice ma n mc).ownBlock) :
    (∃ a c, v6 = .slice a (n + 1) c) ∧ (w6.cell? ⟨r, 7, none⟩ = some (.slice ma n mc) ∧ w6.frozen? ⟨r, 7, none⟩ = false) ∧
      Hid (AddB W (w6.setCell ⟨r, 7, none⟩ v6) base r mb b0 b1 b2 b3 b4 tk st F (marks ++ [lst F Z]) nexts v6 nv (.slice ca n cc) D' ∧ (w6.setCell ⟨r, 7, none⟩ v6).ownsRow base 114 2 (.slice ca n cc) n (pvals C) ∧ (w6.setCell ⟨r, 7, none⟩ v6).heap[bx]? = some (.cells #[.int .i64 fr, .int .i64 sp] 114 (0, 0))) := by
  have hg : w3.grownBy w6 (Value.slice ma n mc).ownBlock := (World.grownBy_alloc _ _ _).trans hgrow
  obtain ⟨h4, h5⟩ := Mrs.app hM hV (mk_kp hm ha.kp (by decide)) hown hgrow
  have hs3 := srch_kp h.blk ha.kp (by decide)
  have kp6 : Kp [some 111, some 3, some 114, some 56, some 58, none] w3 w6 := kp_row hV.1 hg (by decide)
  have hs6 := srch_kp hs3 kp6 (by decide)
  have kp7 : Kp [some 26, some 3, some 114, some 56, some 58, none] w6 (w6.setCell ⟨r, 7, none⟩ v6) := kp_set hs6 (by decide) v6
  have kpA : Kp [some 3, some 114, some 56, some 58] W (w6.setCell ⟨r, 7, none⟩ v6) := ((ha.kp.sub (by decide)).trans (kp6.sub (by decide))).trans (kp7.sub (by decide))
  have hb3 : base ≤ w3.heap.size := Nat.le_trans hbase ha.below.size
  have hb6 : Below base W w6 := ha.below.grown hg hb3 (fun b hb => (hV.1.lt b hb).1)
  refine ⟨h4, ⟨(srch_cells hs6).2.2.2.1, srch_frozen hs6 7⟩, ?_⟩
  have hc : W.ownsRow base 114 2 (.slice ca n cc) n (pvals C) := by have := h.cam; rwa [h.len, ← hn] at this
  refine ⟨⟨hb6.setCell h.hr _, ?_, kpA.sub (by decide), srch_set7 hs6 v6, ?_, nxs_kp h.nxs kpA (by decide) (by decide), ?_⟩, row_kp hc kpA (by decide), kpA bx _ hbx (by simp [otag])⟩
  · simp [World.setCell]
    exact Nat.le_trans hbase hb6.size
  · exact mks_kp (mks_snoc hn h5.out) kp7 (by decide) (by decide)
  · have := map_kp (map_kp ha.map kp6 (by decide)) kp7 (by decide)
    have e : (marks ++ [lst F Z]).length = n + 1 := by simp [hn]
    rw [e]
    exact this

theorem add_app {W w7 w8 : World} {base r mb n gg cap : Nat} {b0 b1 b2 b3 b4 : Value} {tk st : Int} {F : Nat} {marks : List (List Int)} {nexts : List (List (Int × Int))} {mv nv : Value} {ca : Option Addr} {cc : Nat} {D : DataW Unit} {C : List (Int × Int)} {fr sp : Int} {o : Obj}
    (h : AddB W w7 base r mb b0 b1 b2 b3 b4 tk st F marks nexts mv nv (.slice ca n cc) D) (hc : w7.ownsRow base 114 2 (.slice ca n cc) n (pvals C))
    (hown : w8.ownsRow base 114 2 (.slice (some ⟨gg, 0, none⟩) (n + 1) cap) (n + 1) (pvals C ++ [.int .i64 fr, .int .i64 sp])) (hgrow : (w7.alloc o).drew.grownBy w8 (Value.slice ca n cc).ownBlock) :
    w8.frozen? ⟨r, 10, none⟩ = false ∧ Hid (AddB W w8 base r mb b0 b1 b2 b3 b4 tk st F marks nexts mv nv (.slice ca n cc) D ∧ w8.ownsRow base 114 2 (.slice (some ⟨gg, 0, none⟩) (n + 1) cap) (n + 1) (pvals (C ++ [(fr, sp)]))) := by
  have hg2 : (w7.alloc o).grownBy w8 (Value.slice ca n cc).ownBlock := ⟨hgrow.os, hgrow.tape, hgrow.output, hgrow.size, hgrow.block⟩
  have hg : w7.grownBy w8 (Value.slice ca n cc).ownBlock := (World.grownBy_alloc _ _ _).trans hg2
  have kp : Kp [some 111, some 26, some 3, some 56, some 58, none] w7 w8 := kp_row hc hg (by decide)
  have hs : Srch w8 r b0 b1 b2 b3 b4 tk st mv nv mb (.slice ca n cc) := srch_kp h.blk kp (by decide)
  exact ⟨srch_frozen hs 10, ⟨h.below.grown hg h.big (fun b hb => (hc.lt b hb).1), Nat.le_trans h.big hg.size, h.kp.trans (kp.sub (by decide)), hs, mks_kp h.mks kp (by decide) (by decide), nxs_kp h.nxs kp (by decide) (by decide), map_kp h.map kp (by decide)⟩, by rw [← pvals_snoc]; exact hown⟩

theorem add_fin {w W w8 : World} {base r mb n gg cap : Nat} {b0 b1 b2 b3 b4 : Value} {tk st : Int} {F : Nat} {marks : List (List Int)} {nexts : List (List (Int × Int))} {mv nv cv0 mv0 cv : Value} {D0 : DataW Unit} {C : List (Int × Int)} {fr sp : Int} {Z : Nat → Int} {kl : Lit}
    (hF : F ≤ 30) (hn : n = marks.length) (hbase : base ≤ w.heap.size) (h : Xr w base r mb b0 b1 b2 b3 b4 tk st F marks nexts C mv0 nv cv0 D0) (hW : Below w.heap.size w W) (h9 : ∀ i, i < F → 0 ≤ Z i ∧ Z i ≤ 9) (hnew : lst F Z ∉ marks) (hk : keyOf Try.prog 142 (kyv F Z) = some kl)
    (hb : AddB W w8 base r mb b0 b1 b2 b3 b4 tk st F (marks ++ [lst F Z]) nexts mv nv cv (D0.put kl (.lit (.int .i64 (n : Nat))))) (hc : w8.ownsRow base 114 2 (.slice (some ⟨gg, 0, none⟩) (n + 1) cap) (n + 1) (pvals (C ++ [(fr, sp)]))) :
    Hid (Below base w (w8.setCell ⟨r, 10, none⟩ (.slice (some ⟨gg, 0, none⟩) (n + 1) cap)) ∧ Kp [some 3, some 56, some 58] w (w8.setCell ⟨r, 10, none⟩ (.slice (some ⟨gg, 0, none⟩) (n + 1) cap)) ∧
      Xr (w8.setCell ⟨r, 10, none⟩ (.slice (some ⟨gg, 0, none⟩) (n + 1) cap)) base r mb b0 b1 b2 b3 b4 tk st F (marks ++ [lst F Z]) nexts (C ++ [(fr, sp)]) mv nv (.slice (some ⟨gg, 0, none⟩) (n + 1) cap) (D0.put kl (.lit (.int .i64 (n : Nat))))) := by
  have kp : Kp [some 26, some 3, some 114, some 56, some 58, none] w8 (w8.setCell ⟨r, 10, none⟩ (.slice (some ⟨gg, 0, none⟩) (n + 1) cap)) := kp_set hb.blk (by decide) _
  have hb1 : Below base w W := hW.mono hbase
  have hlen : (C ++ [(fr, sp)]).length = n + 1 := by simp [h.len, hn]
  refine ⟨(hb1.trans hb.below).setCell h.hr _, ((kp_below hW).trans hb.kp).trans (kp.sub (by decide)), ?_⟩
  refine ⟨h.hr, h.hmb, srch_set10 hb.blk _, mks_kp hb.mks kp (by decide) (by decide), nxs_kp hb.nxs kp (by decide) (by decide), ?_, map_kp hb.map kp (by decide), ?_, by simp [h.len], fun m hm => ?_⟩
  · rw [hlen]
    exact row_kp hc kp (by decide)
  · have hs := shp_lst h9
    have e : kyv F (fnl (lst F Z)) = kyv F Z := by
      have el : kyl F (fnl (lst F Z)) = kyl F Z := List.map_congr_left (fun i _ => by
        unfold kyf
        by_cases hi : i < F
        · rw [if_pos hi, if_pos hi, fnl_lst hi]
        · rw [if_neg hi, if_neg hi])
      unfold kyv
      rw [el]
    have := nmd_put hF h.nmd h.map.isMap hs hnew (by rw [e]; exact hk)
    rw [← hn] at this
    exact this
  · rcases List.mem_append.1 hm with hm | hm
    · exact h.shp m hm
    · rw [List.mem_singleton.1 hm]
      exact shp_lst h9

set_option maxRecDepth 20000 in
set_option maxHeartbeats 4000000 in
theorem add_any {w : World} {base r mb : Nat} {b0 b1 b2 b3 b4 : Value} {tk st : Int} {F : Nat} {marks : List (List Int)} {nexts : List (List (Int × Int))} {C : List (Int × Int)} {mv nv cv : Value} {D : DataW Unit}
    (h : Xr w base r mb b0 b1 b2 b3 b4 tk st F marks nexts C mv nv cv D) (hF : F ≤ 30) (hbase : base ≤ w.heap.size) (h200 : marks.length ≤ 1000) {g gc : Nat} {Z : Nat → Int} (hm : Mk w g F Z) (h9 : ∀ i, i < F → 0 ≤ Z i ∧ Z i ≤ 9) (hnew : lst F Z ∉ marks) (fr sp : Int) :
    Calls Try.prog 56 #[.pointer (some ⟨r, 0, none⟩), .slice (some ⟨g, 0, none⟩) F gc, .agg #[.int .i64 fr, .int .i64 sp]] w fun e w' => e = .returned (.int .i64 (marks.length : Nat)) ∧ Below base w w' ∧ Kp [some 3, some 56, some 58] w w' ∧ ∃ mv' cv' D', Xr w' base r mb b0 b1 b2 b3 b4 tk st F (marks ++ [lst F Z]) nexts (C ++ [(fr, sp)]) mv' nv cv' D' := by
  have HX : Hid (Xr w base r mb b0 b1 b2 b3 b4 tk st F marks nexts C mv nv cv D) := h
  have HM : Hid (Mk w g F Z) := hm
  have H9 : Hid (∀ i, i < F → 0 ≤ Z i ∧ Z i ≤ 9) := h9
  have HNw : Hid (lst F Z ∉ marks) := hnew
  have hrl : r < w.heap.size := srch_lt h.blk
  obtain ⟨i1, hi, hz0, hz1, hz2⟩ := info_parts Try.info26
  have HI1 : Hid (Try.prog.info? 26 = some i1 ∧ i1.zero = some (.slice none 0 0) ∧ i1.size = 1 ∧ i1.bytes = 24) := ⟨hi, hz0, hz1, hz2⟩
  clear hi hz0 hz1 hz2
  obtain ⟨i5, hi, hz0, hz1, hz2⟩ := info_parts Try.info114
  have HI5 : Hid (Try.prog.info? 114 = some i5 ∧ i5.zero = some (.agg #[.int .i64 0, .int .i64 0]) ∧ i5.size = 2 ∧ i5.bytes = 16) := ⟨hi, hz0, hz1, hz2⟩
  clear hi hz0 hz1 hz2
  obtain ⟨n, hn⟩ : ∃ n, n = marks.length := ⟨_, rfl⟩
  have HN : Hid (n = marks.length) := hn
  have hn1000 : n ≤ 1000 := by omega
  obtain ⟨ma, mc, hmv⟩ : ∃ ma mc, mv = .slice ma n mc := by
    obtain ⟨G, ⟨Vs, h1, _⟩, _⟩ := h.mks
    rw [hn]
    rcases h1.2 with ⟨rfl, h0⟩ | ⟨g, cap, cur, rfl, _⟩
    · exact ⟨none, 0, by rw [h0]⟩
    · exact ⟨_, _, rfl⟩
  obtain ⟨ca, cc, hcv, hccn, _⟩ := owns_prs h.cam rfl
  rw [h.len, ← hn] at hcv
  subst hmv
  subst hcv
  obtain ⟨kl, hkl⟩ := key_some H9.out
  have HK : Hid (keyOf Try.prog 142 (kyv F Z) = some kl) := hkl
  obtain ⟨W, eW⟩ : ∃ x, x = w.alloc (.cells #[.int .i64 fr, .int .i64 sp] 114) := ⟨_, rfl⟩
  have HW : Hid (Below w.heap.size w W ∧ W.heap.size = w.heap.size + 1) := by subst eW; exact ⟨box_below _ _, by simp⟩
  have HEW : Hid (w.alloc (.cells #[.int .i64 fr, .int .i64 sp] 114) = W) := eW.symm
  have HBx : Hid (∀ u, Below W.heap.size W u → u.cell? ⟨w.heap.size, 0, none⟩ = some (.int .i64 fr) ∧ u.cell? ⟨w.heap.size, 1, none⟩ = some (.int .i64 sp)) := fun u hu => by
    subst eW
    exact ⟨new_alloc hu rfl, new_alloc hu rfl⟩
  have C1 : Hid (∀ u, Below W.heap.size W u → Calls Try.prog 91 #[.slice (some ⟨g, 0, none⟩) F gc] u fun e w' => e = .returned (kyv F Z) ∧ Below u.heap.size u w') := fun u hu => keyOf_any _ F gc Z u hF H9.out ((HM.out.below HW.out.1).below hu).row
  have hXW : Xr W base r mb b0 b1 b2 b3 b4 tk st F marks nexts C (.slice ma n mc) nv (.slice ca n cc) D := h.below HW.out.1
  obtain ⟨_, _, _, q7, _, q9, q10⟩ := srch_cells hXW.blk
  have hrW : r < W.heap.size := srch_lt hXW.blk
  have HXW : Hid (Xr W base r mb b0 b1 b2 b3 b4 tk st F marks nexts C (.slice ma n mc) nv (.slice ca n cc) D) := hXW
  have HNe : Hid (∀ b, b = r ∨ b = w.heap.size → (Value.slice ca n cc).ownBlock ≠ some b) := fun b hb e => by
    have hlt := (h.cam.lt b e).2
    rcases hb with rfl | rfl
    · obtain ⟨d, hd⟩ : ∃ d, w.heap[b]? = some (.cells d 114 (0, 0)) := by
        rcases h.cam.2 with ⟨e2, _⟩ | ⟨g2, cap, cur, e2, _, hg2, _⟩
        · rw [e2] at e
          cases e
        · rw [e2] at e
          cases e
          exact ⟨cur, hg2⟩
      have h1 := h.blk
      unfold Srch at h1
      rw [h1] at hd
      simp at hd
    · omega
  have HBk : Hid (W.heap[w.heap.size]? = some (.cells #[.int .i64 fr, .int .i64 sp] 114 (0, 0))) := by
    show W.heap[w.heap.size]? = _
    rw [eW]
    exact Go.Deep.blk_alloc_new _ _
  have HMW : Hid (Mk W g F Z) := hm.below HW.out.1
  have hbW : base ≤ W.heap.size := Nat.le_trans hbase HW.out.1.size
  have p7 := (srch_cells h.blk).2.2.2.1
  clear eW h hm h9 hnew hkl hXW hn
  go_enter Try.func56, Try.ntmps56
  go_wp2
  rw [HEW.out]
  clear p7
  go_region_held3 (fun z => z.cell? ⟨r, 9, none⟩ = some (.map (some mb)))
    (first | (with_reducible exact y9) | (with_reducible exact x9) | (with_reducible exact (World.cell?_drew _ _).trans q9))
    (first | (go_at_call 91; refine (C1.out _ (below_drew_iff.2 (Below.refl _ _))).mono ?_; rintro e w2 ⟨rfl, hb2⟩; have hb2' : Below W.heap.size W w2 := (below_drew_iff.2 (Below.refl _ _)).trans hb2; obtain ⟨w3, hrun, x9, y9, h3⟩ := add_map HN.out HXW.out hb2' hbW HK.out hn1000; have H3 : Hid (AddA W w3 base mb (n + 1) (D.put kl (.lit (.int .i64 (n : Nat))))) := h3; clear h3; dsimp only))
  clear hrun hb2 hb2' C1 x9 y9 q7 q9 q10
  have hs3 := srch_kp HXW.out.blk H3.out.kp (by decide)
  obtain ⟨_, _, _, q7, _, q9, q10⟩ := srch_cells hs3
  have hr3 : r < w3.heap.size := srch_lt hs3
  have hf7 := srch_frozen hs3 7
  clear hs3
  obtain ⟨G, hM⟩ := mks_kp HXW.out.mks H3.out.kp (by decide) (by decide)
  rw [← HN.out] at hM
  obtain ⟨Vs, hVs⟩ := hM.own
  have HVs : Hid (w3.ownsRow base 26 1 (.slice ma n mc) n Vs ∧ ∀ i, i < n → ∃ c, Vs[i]? = some (.slice (some ⟨G i, 0, none⟩) F c)) := hVs
  have HMr : Hid (Mrs w3 base (.slice ma n mc) F n (fun i => fnl (marks.getD i [])) G) := hM
  have HSz3 : Hid (base ≤ w3.heap.size) := Nat.le_trans hbW H3.out.below.size
  clear hM hVs
  go_upto_region 4 with (at_builtin; refine wpList_append_own_at _ rfl _ _ 32 rfl base 26 i1 (.slice none 0 0) 1 24 Try.underlying32 HI1.out.1 HI1.out.2.1 HI1.out.2.2.1 HI1.out.2.2.2 rfl (by decide) _ _ _ rfl (HVs.out.1.alloc _) ⟨w3.heap.size, 0, none⟩ 1 1 [.slice (some ⟨g, 0, none⟩) F gc] rfl rfl (World.news_of_block (cs := #[.slice (some ⟨g, 0, none⟩) F gc]) (t := 26) (fr := (0, 0)) (heap_alloc_new w3 _)) (by simp [Value.oneCell']) (by unfold maxLen; omega) (by omega) (by have := HSz3.out; simp; omega) ?_; intro v6 w6 hown6 hgrow6 _ _; obtain ⟨⟨a6, c6, rfl⟩, ⟨r7, rf7⟩, H6⟩ := add_half HN.out HXW.out hbW H3.out HMW.out HBk.out HMr.out HVs.out hown6 hgrow6; clear hown6 hgrow6)
  clear r7 rf7 q7 q9 q10 hf7
  generalize hw7 : w6.setCell ⟨r, 7, none⟩ (.slice a6 (n + 1) c6) = w7 at *
  clear hw7
  have HX7 : Hid (AddB W w7 base r mb b0 b1 b2 b3 b4 tk st F (marks ++ [lst F Z]) nexts (.slice a6 (n + 1) c6) nv (.slice ca n cc) (D.put kl (.lit (.int .i64 (n : Nat))))) := H6.out.1
  have HCam7 : Hid (w7.ownsRow base 114 2 (.slice ca n cc) n (pvals C)) := H6.out.2.1
  have hbx7 := H6.out.2.2
  have k10 := (srch_cells HX7.out.blk).2.2.2.2.2.2
  have hr7 : r < w7.heap.size := srch_lt HX7.out.blk
  have kb0 : w7.cell? ⟨w.heap.size, 0, none⟩ = some (.int .i64 fr) := cell_of_cells hbx7 rfl
  have kb1 : w7.cell? ⟨w.heap.size, 1, none⟩ = some (.int .i64 sp) := cell_of_cells hbx7 rfl
  have HSz7 : Hid (base ≤ w7.heap.size) := HX7.out.big
  clear hbx7 H6
  refine G_region (fun z => z.cell? ⟨r, 10, none⟩ = some (.slice ca n cc) ∧ z.cell? ⟨w.heap.size, 0, none⟩ = some (.int .i64 fr) ∧ z.cell? ⟨w.heap.size, 1, none⟩ = some (.int .i64 sp)) (fun j => j == 10) (by kernel_rfl) ⟨k10, kb0, kb1⟩ (fun hHeld => ?_)
  refine G_take (i := 0) (oi := { dst := some 33, op := Op.move (Operand.tmp 0), type := 140, pos := _, after := #[], guard := none }) (v := .pointer (some ⟨r, 0, none⟩)) rfl (by kernel_rfl) (by kernel_rfl) (by kernel_rfl) (by kernel_rfl) (fun _ _ _ h => h) (by rfl) (fun u hu => ?_) hHeld ?_
  · (try dsimp only at hu); go_simp
  (try simp only [Act.put, List.setIfInBounds_toArray, List.set_cons_zero, List.set_cons_succ])
  refine G_take (i := 1) (oi := { dst := some 34, op := Op.move (Operand.tmp 0), type := 140, pos := _, after := #[], guard := none }) (v := .pointer (some ⟨r, 0, none⟩)) rfl (by kernel_rfl) (by kernel_rfl) (by kernel_rfl) (by kernel_rfl) (fun _ _ _ h => h) (by rfl) (fun u hu => ?_) hHeld ?_
  · (try dsimp only at hu); go_simp
  (try simp only [Act.put, List.setIfInBounds_toArray, List.set_cons_zero, List.set_cons_succ])
  refine G_take (i := 2) (oi := { dst := some 35, op := Op.nilCheck (Operand.tmp 34), type := 0, pos := _, after := #[{ on := 1, ground := Ground.data }], guard := none }) (v := .pointer (some ⟨r, 0, none⟩)) rfl (by kernel_rfl) (by kernel_rfl) (by kernel_rfl) (by kernel_rfl) (fun _ _ _ h => h) (by rfl) (fun u hu => ?_) hHeld ?_
  · (try dsimp only at hu); go_simp
  (try simp only [Act.put, List.setIfInBounds_toArray, List.set_cons_zero, List.set_cons_succ])
  refine G_take (i := 3) (oi := { dst := some 36, op := Op.fieldAddr 111 (Operand.tmp 35) 5, type := 0, pos := _, after := #[{ on := 2, ground := Ground.data }], guard := none }) (v := .pointer (some ⟨r, 10, none⟩)) rfl (by kernel_rfl) (by kernel_rfl) (by kernel_rfl) (by kernel_rfl) (fun _ _ _ h => h) (by rfl) (fun u hu => ?_) hHeld ?_
  · (try dsimp only at hu); go_simp
  (try simp only [Act.put, List.setIfInBounds_toArray, List.set_cons_zero, List.set_cons_succ])
  refine G_take (i := 4) (oi := { dst := some 37, op := Op.load 109 (Operand.tmp 36), type := 109, pos := _, after := #[{ on := 3, ground := Ground.data }], guard := none }) (v := .slice ca n cc) rfl (by kernel_rfl) (by kernel_rfl) (by kernel_rfl) (by kernel_rfl) (fun _ _ _ h => h) (by rfl) (fun u hu => ?_) hHeld ?_
  · (try dsimp only at hu); go_simp
  (try simp only [Act.put, List.setIfInBounds_toArray, List.set_cons_zero, List.set_cons_succ])
  refine G_take (i := 5) (oi := { dst := some 38, op := Op.load 114 (Operand.tmp 5), type := 114, pos := _, after := #[], guard := none }) (v := .agg #[.int .i64 fr, .int .i64 sp]) rfl (by kernel_rfl) (by kernel_rfl) (by kernel_rfl) (by kernel_rfl) (fun _ _ _ h => h) (by rfl) (fun u hu => ?_) hHeld ?_
  · (try dsimp only at hu); go_simp
  (try simp only [Act.put, List.setIfInBounds_toArray, List.set_cons_zero, List.set_cons_succ])
  refine G_step (i := 6) (o := { dst := some 39, op := Op.buildSlice 109 1 #[(0, Operand.tmp 38)], type := 109, pos := _, after := #[{ on := 5, ground := Ground.data }], guard := none }) (by kernel_rfl) rfl (fun K' hK => ?_)
  go_simp
  refine hK.out _ _ (fun _ => ?_) (fun hS2 => ?_)
  · exact ⟨keep_alloc (Below.refl _ _).drew k10, keep_alloc (Below.refl _ _).drew kb0, keep_alloc (Below.refl _ _).drew kb1⟩
  have hHeld2 := hS2 rfl
  clear hK K' hS2 hHeld
  (try simp only [Act.put, List.setIfInBounds_toArray, List.set_cons_zero, List.set_cons_succ])
  refine G_step (i := 7) (o := { dst := some 40, op := Op.call { callee := Callee.builtin Builtin.append, args := #[Operand.tmp 37, Operand.tmp 39], argTypes := #[109, 109] }, type := 109, pos := _, after := #[{ on := 4, ground := Ground.data }, { on := 6, ground := Ground.data }], guard := none }) (by kernel_rfl) rfl (fun K' hK => ?_)
  (refine step_append_lies _ (by rfl) _ _ _ (by rfl) base 114 i5 _ 2 16 Try.underlying109 HI5.out.1 HI5.out.2.1 HI5.out.2.2.1 HI5.out.2.2.2 rfl (by omega) (.slice ca n cc) n (pvals C) (by rfl) ((HCam7.out.alloc _).drew) ⟨w7.heap.size, 0, none⟩ 1 1 [.int .i64 fr, .int .i64 sp] (by rfl) (by rfl) (World.news_of_block (cs := #[.int .i64 fr, .int .i64 sp]) (t := 114) (fr := (0, 0)) (heap_alloc_new w7 _)) (by simp [Value.oneCell']) (by omega) (by unfold maxLen; omega) (by omega) (by have := HSz7.out; simp; omega) (w7.heap.size + 1) (by simp) ?_; intro gg cap w8 hown8 hgrow8 _ _; obtain ⟨gf, H8⟩ := add_app HX7.out HCam7.out hown8 hgrow8; have g10 : w8.cell? ⟨r, 10, none⟩ = some (.slice ca n cc) := grown_cell hgrow8 k10 (HNe.out _ (Or.inl rfl)); have gb0 : w8.cell? ⟨w.heap.size, 0, none⟩ = some (.int .i64 fr) := grown_cell hgrow8 kb0 (HNe.out _ (Or.inr rfl)); have gb1 : w8.cell? ⟨w.heap.size, 1, none⟩ = some (.int .i64 sp) := grown_cell hgrow8 kb1 (HNe.out _ (Or.inr rfl)); clear hown8)
  refine hK.out _ _ (fun _ => ?_) (fun hS2 => ?_)
  · exact ⟨g10, gb0, gb1⟩
  have hHeld3 := hS2 rfl
  clear hK K' hS2 hHeld2
  (try simp only [Act.put, List.setIfInBounds_toArray, List.set_cons_zero, List.set_cons_succ])
  refine G_step (i := 8) (o := { dst := some 41, op := Op.nilCheck (Operand.tmp 33), type := 0, pos := _, after := #[{ on := 0, ground := Ground.data }, { on := 0, ground := Ground.phase }, { on := 1, ground := Ground.phase }, { on := 2, ground := Ground.phase }, { on := 3, ground := Ground.phase }, { on := 4, ground := Ground.phase }, { on := 5, ground := Ground.phase }, { on := 6, ground := Ground.phase }, { on := 7, ground := Ground.phase }], guard := none }) (by kernel_rfl) rfl (fun K' hK => ?_)
  go_simp
  refine hK.out _ _ (fun _ => ?_) (fun hS2 => ?_)
  · exact ⟨g10, gb0, gb1⟩
  have hHeld4 := hS2 rfl
  clear hK K' hS2 hHeld3
  (try simp only [Act.put, List.setIfInBounds_toArray, List.set_cons_zero, List.set_cons_succ])
  refine G_step (i := 9) (o := { dst := some 42, op := Op.fieldAddr 111 (Operand.tmp 41) 5, type := 0, pos := _, after := #[{ on := 8, ground := Ground.data }, { on := 0, ground := Ground.phase }, { on := 1, ground := Ground.phase }, { on := 2, ground := Ground.phase }, { on := 3, ground := Ground.phase }, { on := 4, ground := Ground.phase }, { on := 5, ground := Ground.phase }, { on := 6, ground := Ground.phase }, { on := 7, ground := Ground.phase }], guard := none }) (by kernel_rfl) rfl (fun K' hK => ?_)
  go_simp
  refine hK.out _ _ (fun _ => ?_) (fun hS2 => ?_)
  · exact ⟨g10, gb0, gb1⟩
  have hHeld5 := hS2 rfl
  clear hK K' hS2 hHeld4
  (try simp only [Act.put, List.setIfInBounds_toArray, List.set_cons_zero, List.set_cons_succ])
  refine G_step (i := 10) (o := { dst := none, op := Op.store 109 (Operand.tmp 42) (Operand.tmp 40), type := 0, pos := _, after := #[{ on := 9, ground := Ground.data }, { on := 7, ground := Ground.data }, { on := 7, ground := Ground.chain }, { on := 0, ground := Ground.phase }, { on := 1, ground := Ground.phase }, { on := 2, ground := Ground.phase }, { on := 3, ground := Ground.phase }, { on := 4, ground := Ground.phase }, { on := 5, ground := Ground.phase }, { on := 6, ground := Ground.phase }, { on := 7, ground := Ground.phase }], guard := none }) (by kernel_rfl) rfl (fun K' hK => ?_)
  go_simp
  refine hK.out _ _ (fun h => absurd h (by decide)) (fun _ => ?_)
  clear hK K' hHeld5
  (try simp only [Act.put, List.setIfInBounds_toArray, List.set_cons_zero, List.set_cons_succ])
  refine G_done (by kernel_rfl) ?_ _
  have HF := add_fin hF HN.out hbase HX.out HW.out.1 H9.out HNw.out HK.out H8.out.1 H8.out.2
  clear g10 gb0 gb1 gf hgrow8 k10 kb0 kb1
  go_wp2
  go_ret
  exact ⟨ret_int (congrArg (fun k : Nat => (k : Int)) HN.out), HF.out.1, HF.out.2.1, _, _, _, HF.out.2.2⟩

end Go.Proofs.Ytjenkhphngiphaa

namespace Go.Proofs.Ytjenkhphngiphaa
open Go.RowKit Go.Maps

theorem zero3 (w : World) : (zeroValue 3).run Try.prog w = .ok (.int .i64 0) w := by kernel_rfl

theorem ret_two {a b c : Int} (h : a = b) : Ending.returned (.tuple #[.int .i64 a, .int .i64 c]) = .returned (.tuple #[.int .i64 b, .int .i64 c]) := by rw [h]

theorem fr_tuple {b0 : Nat} {K A B : Nat → Int} {F : Nat} {m : Nat → Int} {t : St3} {e : Ending} {w : World} (h : FrIs b0 K A B F m t e w) : ∃ v1 v2, e = .returned (.tuple #[v1, v2]) := by
  rcases h with ⟨_, rfl⟩ | ⟨_, _, rfl⟩ | ⟨_, _, a, c, _, rfl, _⟩ <;> exact ⟨_, _, rfl⟩

/-- What follow answers: m' is the marking behind the step. -/
def FoIs (w' : World) (base r mb : Nat) (b0 b1 b2 b3 b4 : Value) (tk : Int) (q : Nat) (F : Nat) (marks : List (List Int)) (nexts : List (List (Int × Int))) (C : List (Int × Int)) (mv nv cv : Value) (D : DataW Unit) (at' s : Nat) (m' : List Int) (e : Ending) : Prop :=
  (ovr tk m' = true ∧ e = .returned (.tuple #[.int .i64 0, .int .i64 7]) ∧ Xr w' base r mb b0 b1 b2 b3 b4 tk q F marks nexts C mv nv cv D) ∨
  (ovr tk m' = false ∧ m' ∈ marks ∧ e = .returned (.tuple #[.int .i64 ((marks.idxOf m' : Nat) : Int), .int .i64 0]) ∧ Xr w' base r mb b0 b1 b2 b3 b4 tk q F marks nexts C mv nv cv D) ∨
  (ovr tk m' = false ∧ m' ∉ marks ∧ marks.length = q ∧ e = .returned (.tuple #[.int .i64 0, .int .i64 8]) ∧ Xr w' base r mb b0 b1 b2 b3 b4 tk q F marks nexts C mv nv cv D) ∨
  (ovr tk m' = false ∧ m' ∉ marks ∧ marks.length ≠ q ∧ e = .returned (.tuple #[.int .i64 ((marks.length : Nat) : Int), .int .i64 0]) ∧ ∃ mv' cv' D', Xr w' base r mb b0 b1 b2 b3 b4 tk q F (marks ++ [m']) nexts (C ++ [((at' : Int), (s : Int))]) mv' nv cv' D')

theorem look_at {w : World} {base r mb : Nat} {b0 b1 b2 b3 b4 : Value} {tk st : Int} {F : Nat} {marks : List (List Int)} {nexts : List (List (Int × Int))} {C : List (Int × Int)} {mv nv cv : Value} {D : DataW Unit}
    (h : Xr w base r mb b0 b1 b2 b3 b4 tk st F marks nexts C mv nv cv D) {Z : Nat → Int} (h9 : ∀ i, i < F → 0 ≤ Z i ∧ Z i ≤ 9) :
    ∃ (c : Int) (z : Bool), (Instr.lookup 108 (.map (some mb)) (kyv F Z) true).run Try.prog w = .ok (.tuple #[.int .i64 c, .bool z]) w ∧ Hid ((z = true ↔ lst F Z ∈ marks) ∧ (lst F Z ∈ marks → c = ((marks.idxOf (lst F Z) : Nat) : Int))) := by
  have e : kyv F (fnl (lst F Z)) = kyv F Z := by
    have el : kyl F (fnl (lst F Z)) = kyl F Z := List.map_congr_left (fun i _ => by
      unfold kyf
      by_cases hi : i < F
      · rw [if_pos hi, if_pos hi, fnl_lst hi]
      · rw [if_neg hi, if_neg hi])
    unfold kyv
    rw [el]
  obtain ⟨kl, hkl⟩ := key_some h9
  obtain ⟨v, ps, hrun, hv⟩ := h.map.look_ok Try.keyed Try.underlying108 (zero3 w) (plainElem_int Try.underlying3 (by decide)) hkl
  obtain ⟨c, rfl, hc, _⟩ := plainElem_int_inv Try.underlying3 hv
  obtain ⟨h1, h2⟩ := h.nmd (lst F Z) kl (shp_lst h9) (by rw [e]; exact hkl)
  refine ⟨c, Maps.has D kl, hrun, h1, fun hm => ?_⟩
  have h3 := h2 hm
  have h4 := congrArg Prod.fst hc
  simp only at h4
  rw [h3] at h4
  simp only [DataW.lit.injEq, Lit.int.injEq, true_and] at h4
  exact h4.symm

theorem mk_at {w : World} {base F : Nat} {ma : Option Addr} {n mc : Nat} {marks : List (List Int)} (h : Mks w base (.slice ma n mc) F marks) {i : Nat} (hi : i < marks.length) :
    ∃ b o g c, ma = some ⟨b, o, none⟩ ∧ w.cell? ⟨b, o + i, none⟩ = some (.slice (some ⟨g, 0, none⟩) F c) ∧ Mk w g F (fnl (marks.getD i [])) := by
  obtain ⟨G, ⟨Vs, h1, h2⟩, h3⟩ := h
  obtain ⟨c, hc⟩ := h2 i hi
  rcases h1.2 with ⟨e, h0⟩ | ⟨g, cap, cur, e, _⟩
  · omega
  · simp only [Value.slice.injEq] at e
    obtain ⟨rfl, rfl, rfl⟩ := e
    have := h1.cells (g := g) rfl i _ hc
    rw [add_none2] at this
    exact ⟨g, 0, G i, c, rfl, this, h3 i hi⟩

set_option maxRecDepth 20000 in
set_option maxHeartbeats 4000000 in
theorem follow_any {w : World} {base r mb : Nat} {na fa sa ia oa : Option Addr} {N nc F fc sc ic oc : Nat} {M : Nat → ByteArray} {K A B : Nat → Int} {l : List St3} (hB : Brd w na N nc fa F sa ia oa M K A B l)
    {tk : Int} {q : Nat} {marks : List (List Int)} {nexts : List (List (Int × Int))} {C : List (Int × Int)} {mv nv cv : Value} {D : DataW Unit}
    (h : Xr w base r mb (.slice na N nc) (.slice fa F fc) (.slice sa l.length sc) (.slice ia N ic) (.slice oa N oc) tk q F marks nexts C mv nv cv D) (hbase : base ≤ w.heap.size) (h200 : marks.length ≤ q) (hq : q ≤ 200) (htk : tk ≤ 9) {at' s : Nat} (hat : at' < marks.length) (hs : s < l.length) (hen : enb K A B F (fnl (marks.getD at' [])) (l.getD s (0, 0, 0))) :
    Calls Try.prog 92 #[.pointer (some ⟨r, 0, none⟩), .int .i64 (at' : Nat), .int .i64 (s : Nat)] w fun e w' => Below base w w' ∧ Kp [some 3, some 56, some 58] w w' ∧
      FoIs w' base r mb (.slice na N nc) (.slice fa F fc) (.slice sa l.length sc) (.slice ia N ic) (.slice oa N oc) tk q F marks nexts C mv nv cv D at' s (lst F (frs K A B (l.getD s (0, 0, 0)) (fnl (marks.getD at' [])))) e := by
  have HB : Hid (Brd w na N nc fa F sa ia oa M K A B l) := hB
  have HX : Hid (Xr w base r mb (.slice na N nc) (.slice fa F fc) (.slice sa l.length sc) (.slice ia N ic) (.slice oa N oc) tk q F marks nexts C mv nv cv D) := h
  have hF30 : F ≤ 30 := (chk_zero hB.chk).1.2
  have hF0 : 0 < F := chk_some hB.chk
  have hl60 := hB.few
  obtain ⟨n, hn⟩ : ∃ n, n = marks.length := ⟨_, rfl⟩
  have HN : Hid (n = marks.length) := hn
  obtain ⟨ma, mc, hmv⟩ : ∃ ma mc, mv = .slice ma n mc := by
    obtain ⟨G, ⟨Vs, h1, _⟩, _⟩ := h.mks
    rw [hn]
    rcases h1.2 with ⟨rfl, h0⟩ | ⟨g, cap, cur, rfl, _⟩
    · exact ⟨none, 0, by rw [h0]⟩
    · exact ⟨_, _, rfl⟩
  subst hmv
  obtain ⟨gb, go, g, gc, rfl, hmc, hmk⟩ := mk_at h.mks hat
  have HEn : Hid (enb K A B F (fnl (marks.getD at' [])) (l.getD s (0, 0, 0))) := hen
  have hsh : Shp F (marks.getD at' []) := h.shp _ (by rw [List.getD_eq_getElem?_getD, List.getElem?_eq_getElem hat]; exact List.getElem_mem hat)
  generalize hm : fnl (marks.getD at' []) = m at *
  have H9 : Hid (∀ i, i < F → 0 ≤ m i ∧ m i ≤ 9) := by
    have := hsh.2
    rw [hm] at this
    exact this
  have HMk : Hid (Mk w g F m) := hmk
  have hatn : (at' : Int) < (n : Int) := by omega
  have hrl : r < w.heap.size := srch_lt h.blk
  obtain ⟨⟨p0, p1, p2, p3, p4⟩, p5, p6, p7, _, p9, _⟩ := srch_cells h.blk
  have C1 : Hid (∀ u, Below w.heap.size w u → Calls Try.prog 37 #[.agg #[.slice na N nc, .slice fa F fc, .slice sa l.length sc, .slice ia N ic, .slice oa N oc], .slice (some ⟨g, 0, none⟩) F gc, .int .i64 (s : Nat)] u fun e w' => Below u.heap.size u w' ∧ FrIs u.heap.size K A B F m (l.getD s (0, 0, 0)) e w') := fun u hu => by
    refine (fire_any (HB.out.below hu) (HMk.out.below hu).row H9.out (s : Int)).mono fun e w' hh => ⟨hh.1, ?_⟩
    rcases hh.2 with ⟨h1, _⟩ | ⟨_, h1⟩
    · exact absurd ⟨by omega, by omega⟩ h1
    · rw [Int.toNat_natCast] at h1
      exact h1
  have HSl : Hid (s < l.length) := hs
  clear hB h hen hmk hsh hs hm hn
  go_enter Try.func92, Try.ntmps92
  go_wp2
  go_region_held3 (fun z => z.cell? ⟨r, 0, none⟩ = some (.slice na N nc) ∧ z.cell? ⟨r, 1, none⟩ = some (.slice fa F fc) ∧ z.cell? ⟨r, 2, none⟩ = some (.slice sa l.length sc) ∧ z.cell? ⟨r, 3, none⟩ = some (.slice ia N ic) ∧ z.cell? ⟨r, 4, none⟩ = some (.slice oa N oc) ∧ z.cell? ⟨r, 7, none⟩ = some (.slice (some ⟨gb, go, none⟩) n mc) ∧ z.cell? ⟨gb, go + at', none⟩ = some (.slice (some ⟨g, 0, none⟩) F gc))
    (first | (with_reducible exact ⟨x0, x1, x2, x3, x4, x7, xg⟩) | (exact ⟨p0, p1, p2, p3, p4, p7, hmc⟩))
    (first | (go_at_call 37; refine (C1.out _ (below_drew_iff.2 (Below.refl _ _))).mono ?_; rintro e w1 ⟨hb1, hf1⟩; have hb1' : Below w.heap.size w w1 := (below_drew_iff.2 (Below.refl _ _)).trans hb1; obtain ⟨v1, v2, rfl⟩ := fr_tuple hf1; obtain ⟨⟨x0, x1, x2, x3, x4⟩, x5, x6, x7, _, x9, _⟩ := srch_cells (HX.out.below hb1').blk; have xg : w1.cell? ⟨gb, go + at', none⟩ = some (.slice (some ⟨g, 0, none⟩) F gc) := (hb1'.cell (p := ⟨gb, go + at', none⟩) (World.block_lt_of_cell? _ _ hmc)).trans hmc; dsimp only))
  have HB1 : Hid (Below w.heap.size w w1) := hb1'
  have HX1 : Hid (Xr w1 base r mb (.slice na N nc) (.slice fa F fc) (.slice sa l.length sc) (.slice ia N ic) (.slice oa N oc) tk q F marks nexts C (.slice (some ⟨gb, go, none⟩) n mc) nv cv D) := HX.out.below hb1'
  have HF1 : Hid (Below base w w1 ∧ Kp [some 3, some 56, some 58] w w1) := ⟨hb1'.mono hbase, kp_below hb1'⟩
  clear p0 p1 p2 p3 p4 p5 p6 p7 p9 hb1 hmc xg x0 x1 x2 x3 x4 C1
  rcases hf1 with ⟨h1, _⟩ | ⟨_, h1, h2⟩ | ⟨_, h2, g5, c5, hg5, he5, hm5⟩
  · exact absurd HEn.out h1
  · cases h2
    have HO : Hid (ovr tk (lst F (frs K A B (l.getD s (0, 0, 0)) m)) = true) := by
      obtain ⟨j, hj, h9⟩ := h1
      exact ovr_lst.2 ⟨j, hj, by omega⟩
    clear h1 hb1' x5 x6 x7 x9
    go_wp2
    go_ret2
    exact ⟨HF1.out.1, HF1.out.2, Or.inl ⟨HO.out, rfl, HX1.out⟩⟩
  · cases he5
    obtain ⟨Z, hZ⟩ : ∃ Z, Z = frs K A B (l.getD s (0, 0, 0)) m := ⟨_, rfl⟩
    have HZ9 : Hid (∀ i, i < F → 0 ≤ Z i ∧ Z i ≤ 9) := fun i hi => by rw [hZ]; exact ⟨frs_bound HEn.out H9.out i hi, h2 i hi⟩
    rw [← hZ] at hm5
    have HZe : Hid (Z = frs K A B (l.getD s (0, 0, 0)) m) := hZ
    have HM5 : Hid (Mk w1 g5 F Z) := hm5
    have C2 : Hid (∀ u, Below w1.heap.size w1 u → Calls Try.prog 66 #[.slice (some ⟨g5, 0, none⟩) F c5] u fun e w' => (∃ y : Int, e = .returned (.int .i64 y) ∧ (tk < y ↔ ∃ i, i < F ∧ tk < Z i)) ∧ w' = u) := fun u hu => max_any _ F c5 Z u (by omega) hF0 (HM5.out.below hu).row tk
    clear h2 hm5 hg5 hb1' hZ
    go_wp2
    go_region_held3 (fun z => z.cell? ⟨r, 5, none⟩ = some (.int .i64 tk))
      (first | (with_reducible exact z5) | (exact x5))
      (first | (go_at_call 66; refine (C2.out _ (below_drew_iff.2 (Below.refl _ _))).mono ?_; rintro e w2 ⟨⟨y, rfl, hy⟩, hw2⟩; have hb2 : Below w1.heap.size w1 w2 := (by rw [hw2]; exact below_drew_iff.2 (Below.refl _ _)); have HY : Hid (tk < y ↔ ∃ i, i < F ∧ tk < Z i) := hy; have hX2 := HX1.out.below hb2; have z5 := (srch_cells hX2.blk).2.1; clear hw2 hy; dsimp only))
    have HX2 : Hid (Xr w2 base r mb (.slice na N nc) (.slice fa F fc) (.slice sa l.length sc) (.slice ia N ic) (.slice oa N oc) tk q F marks nexts C (.slice (some ⟨gb, go, none⟩) n mc) nv cv D) := hX2
    have HB2 : Hid (Below w.heap.size w w2) := HB1.out.trans (hb2.mono HB1.out.size)
    have HM2 : Hid (Mk w2 g5 F Z) := HM5.out.below hb2
    have HF2 : Hid (Below base w w2 ∧ Kp [some 3, some 56, some 58] w w2) := ⟨HB2.out.mono hbase, kp_below HB2.out⟩
    obtain ⟨_, y5, y6, y7, _, y9, _⟩ := srch_cells hX2.blk
    clear hX2 z5 x5 x6 x7 x9 hb2 C2
    by_cases hyt : tk < y
    · have HO : Hid (ovr tk (lst F Z) = true) := ovr_lst.2 (HY.out.1 hyt)
      go_wp2
      go_ret2
      rw [← HZe.out]
      exact ⟨HF2.out.1, HF2.out.2, Or.inl ⟨HO.out, rfl, HX2.out⟩⟩
    · have HO : Hid (ovr tk (lst F Z) = false) := by
        cases ho : ovr tk (lst F Z)
        · rfl
        · exact absurd (HY.out.2 (ovr_lst.1 ho)) hyt
      have C3 : Hid (∀ u, Below w2.heap.size w2 u → Calls Try.prog 91 #[.slice (some ⟨g5, 0, none⟩) F c5] u fun e w' => e = .returned (kyv F Z) ∧ Below u.heap.size u w') := fun u hu => keyOf_any _ F c5 Z u hF30 HZ9.out (HM2.out.below hu).row
      go_wp2
      go_region_held3 (fun z => z.cell? ⟨r, 9, none⟩ = some (.map (some mb)))
        (first | (with_reducible exact z9) | (exact y9))
        (first | (go_at_call 91; refine (C3.out _ (below_drew_iff.2 (Below.refl _ _))).mono ?_; rintro e w3 ⟨rfl, hb3⟩; have hb3' : Below w2.heap.size w2 w3 := (below_drew_iff.2 (Below.refl _ _)).trans hb3; have hX3 := HX2.out.below hb3'; obtain ⟨c, z, hrun, HL⟩ := look_at hX3 HZ9.out; have z9 := (srch_cells hX3.blk).2.2.2.2.2.1; dsimp only))
      have HX3 : Hid (Xr w3 base r mb (.slice na N nc) (.slice fa F fc) (.slice sa l.length sc) (.slice ia N ic) (.slice oa N oc) tk q F marks nexts C (.slice (some ⟨gb, go, none⟩) n mc) nv cv D) := hX3
      have HB3 : Hid (Below w.heap.size w w3) := HB2.out.trans (hb3'.mono HB2.out.size)
      have HM3 : Hid (Mk w3 g5 F Z) := HM2.out.below hb3'
      have HF3 : Hid (Below base w w3 ∧ Kp [some 3, some 56, some 58] w w3) := ⟨HB3.out.mono hbase, kp_below HB3.out⟩
      obtain ⟨_, _, z6, z7, _, _, _⟩ := srch_cells hX3.blk
      clear hX3 z9 y5 y6 y7 y9 hb3 hb3' C3 hrun
      cases hz : z
      · have HNm : Hid (lst F Z ∉ marks) := fun hm => by
          have := HL.out.1.2 hm
          rw [hz] at this
          cases this
        clear HL hz
        have C4 : Hid (∀ u, Below w3.heap.size w3 u → Calls Try.prog 56 #[.pointer (some ⟨r, 0, none⟩), .slice (some ⟨g5, 0, none⟩) F c5, .agg #[.int .i64 (at' : Nat), .int .i64 (s : Nat)]] u fun e w' => e = .returned (.int .i64 (marks.length : Nat)) ∧ Below base u w' ∧ Kp [some 3, some 56, some 58] u w' ∧ ∃ mv' cv' D', Xr w' base r mb (.slice na N nc) (.slice fa F fc) (.slice sa l.length sc) (.slice ia N ic) (.slice oa N oc) tk q F (marks ++ [lst F Z]) nexts (C ++ [(((at' : Nat) : Int), ((s : Nat) : Int))]) mv' nv cv' D') := fun u hu => add_any (HX3.out.below hu) hF30 (Nat.le_trans hbase (Nat.le_trans HB3.out.size hu.size)) (by omega) (HM3.out.below hu) HZ9.out HNm.out _ _
        by_cases hnq : n = q
        · have hnq' : ((n : Int) == (q : Int)) = true := beq_iff_eq.2 (by omega)
          go_wp2
          go_quiet (fail)
          go_wp2
          go_ret2
          rw [← HZe.out]
          refine ⟨below_drewn HF3.out.1 _, fun i o ho ht => HF3.out.2 i o ho ht, Or.inr (Or.inr (Or.inl ⟨HO.out, HNm.out, by rw [← HN.out]; exact hnq, rfl, HX3.out.below (below_drewn (Below.refl _ _) _)⟩))⟩
        · have hnq' : ((n : Int) == (q : Int)) = false := beq_eq_false_iff_ne.2 (by omega)
          go_wp2
          go_quiet (fail)
          go_wp2_with fail
          refine (C4.out _ (below_drewn (Below.refl _ _) nq)).mono ?_
          rintro e w4 ⟨rfl, hb4, hk4, hX4⟩
          have HF4 : Hid (Below base w w4 ∧ Kp [some 3, some 56, some 58] w w4 ∧ ∃ mv' cv' D', Xr w4 base r mb (.slice na N nc) (.slice fa F fc) (.slice sa l.length sc) (.slice ia N ic) (.slice oa N oc) tk q F (marks ++ [lst F Z]) nexts (C ++ [(((at' : Nat) : Int), ((s : Nat) : Int))]) mv' nv cv' D') := ⟨(below_drewn HF3.out.1 nq).trans hb4, Kp.trans (fun i o ho ht => HF3.out.2 i o ho ht) hk4, hX4⟩
          clear hb4 hk4 hX4 C4
          go_wp2
          go_ret2
          rw [← HZe.out]
          exact ⟨HF4.out.1, HF4.out.2.1, Or.inr (Or.inr (Or.inr ⟨HO.out, HNm.out, by rw [← HN.out]; exact hnq, rfl, HF4.out.2.2⟩))⟩
      · have HMm : Hid (lst F Z ∈ marks ∧ c = ((marks.idxOf (lst F Z) : Nat) : Int)) := ⟨HL.out.1.1 hz, HL.out.2 (HL.out.1.1 hz)⟩
        clear HL hz
        go_wp2
        go_ret2
        rw [← HZe.out]
        exact ⟨HF3.out.1, HF3.out.2, Or.inr (Or.inl ⟨HO.out, HMm.out.1, ret_two HMm.out.2, HX3.out⟩)⟩

end Go.Proofs.Ytjenkhphngiphaa

namespace Go.Proofs.Ytjenkhphngiphaa
open Go.RowKit Go.Maps

theorem Try.info58 : (Try.prog.info? 58).map (fun i => (i.zero, i.size, i.bytes)) = some (some (.agg #[.int .i64 0, .int .i64 0]), 2, 16) := by kernel_rfl
theorem Try.info56 : (Try.prog.info? 56).map (fun i => (i.zero, i.size, i.bytes)) = some (some (.slice none 0 0), 1, 24) := by kernel_rfl

/-- How each marking came, and its way. -/
def Cam (C : List (Int × Int)) (ways : List (List Int)) : Prop := C.length = ways.length ∧ ∀ k, k < ways.length →
  (k = 0 ∧ (C.getD k (0, 0)).1 = -1 ∧ ways.getD k [] = []) ∨ (∃ j : Nat, j < k ∧ (C.getD k (0, 0)).1 = j ∧ ways.getD k [] = ways.getD j [] ++ [(C.getD k (0, 0)).2])

theorem cam_start : Cam [(-1, 0)] [[]] := ⟨rfl, fun k hk => by
  obtain rfl : k = 0 := by simp at hk; omega
  exact Or.inl ⟨rfl, rfl, rfl⟩⟩

theorem cam_snoc {C : List (Int × Int)} {ways : List (List Int)} (h : Cam C ways) {j : Nat} (hj : j < ways.length) (s : Int) : Cam (C ++ [((j : Int), s)]) (ways ++ [ways.getD j [] ++ [s]]) := by
  obtain ⟨h1, h2⟩ := h
  refine ⟨by simp [h1], fun k hk => ?_⟩
  by_cases e : k = ways.length
  · subst e
    refine Or.inr ⟨j, hj, ?_, ?_⟩
    · rw [← h1]
      simp
    · rw [show (ways ++ [ways.getD j [] ++ [s]]).getD ways.length [] = ways.getD j [] ++ [s] by simp, show (C ++ [((j : Int), s)]).getD ways.length (0, 0) = ((j : Int), s) by rw [← h1]; simp]
      rw [show (ways ++ [ways.getD j [] ++ [s]]).getD j [] = ways.getD j [] by simp [List.getElem?_append_left hj]]
  · have hk' : k < ways.length := by simp at hk; omega
    have hC : (C ++ [((j : Int), s)]).getD k (0, 0) = C.getD k (0, 0) := by simp [List.getElem?_append_left (show k < C.length by omega)]
    have hW : ∀ i, i < ways.length → (ways ++ [ways.getD j [] ++ [s]]).getD i [] = ways.getD i [] := fun i hi => by simp [List.getElem?_append_left hi]
    rw [hC, hW k hk']
    rcases h2 k hk' with h3 | ⟨i, h3, h4, h5⟩
    · exact Or.inl h3
    · exact Or.inr ⟨i, h3, h4, by rw [hW i (by omega)]; exact h5⟩

/-- One edge, as follow tells it. -/
theorem fo_put {w' : World} {base r mb : Nat} {b0 b1 b2 b3 b4 : Value} {tk : Int} {q F : Nat} {nexts : List (List (Int × Int))} {C : List (Int × Int)} {mv nv cv : Value} {D : DataW Unit} {s : Nat} {e : Ending} {S : Xp} {K A B : Nat → Int} {l : List St3}
    (hlt : S.nexts.length < S.ways.length) (hc : Cam C S.ways) (h : FoIs w' base r mb b0 b1 b2 b3 b4 tk q F S.marks nexts C mv nv cv D S.nexts.length s (lst F (frs K A B (l.getD s (0, 0, 0)) (fnl (S.marks.getD S.nexts.length [])))) e) :
    (∃ c : Int, (c = 7 ∨ c = 8) ∧ xput tk q (nxl K A B F l) S (s : Int) = .inl (c, S.way (s : Int)) ∧ e = .returned (.tuple #[.int .i64 0, .int .i64 c]) ∧ Xr w' base r mb b0 b1 b2 b3 b4 tk q F S.marks nexts C mv nv cv D) ∨
    (∃ (S' : Xp) (to : Int) (C' : List (Int × Int)) (mv' cv' : Value) (D' : DataW Unit), xput tk q (nxl K A B F l) S (s : Int) = .inr S' ∧ S'.cur = S.cur ++ [((s : Int), to)] ∧ e = .returned (.tuple #[.int .i64 to, .int .i64 0]) ∧ Cam C' S'.ways ∧ Xr w' base r mb b0 b1 b2 b3 b4 tk q F S'.marks nexts C' mv' nv cv' D') := by
  have hn : nxl K A B F l (s : Int) S.here = lst F (frs K A B (l.getD s (0, 0, 0)) (fnl (S.marks.getD S.nexts.length []))) := by
    unfold nxl
    rw [Int.toNat_natCast]
    rfl
  rw [← hn] at h
  rcases h with ⟨h1, h2, h3⟩ | ⟨h1, h2, h3, h4⟩ | ⟨h1, h2, h3, h4, h5⟩ | ⟨h1, h2, h3, h4, mv', cv', D', h5⟩
  · refine Or.inl ⟨7, Or.inl rfl, ?_, h2, h3⟩
    unfold xput
    rw [if_pos h1]
  · refine Or.inr ⟨{ S with cur := S.cur ++ [((s : Int), ((S.marks.idxOf (nxl K A B F l (s : Int) S.here) : Nat) : Int))] }, _, C, mv, cv, D, ?_, rfl, h3, hc, h4⟩
    unfold xput
    rw [if_neg (by rw [h1]; decide), if_pos h2]
  · refine Or.inl ⟨8, Or.inr rfl, ?_, h4, h5⟩
    unfold xput
    rw [if_neg (by rw [h1]; decide), if_neg h2, if_pos h3]
  · refine Or.inr ⟨{ S with marks := S.marks ++ [nxl K A B F l (s : Int) S.here], ways := S.ways ++ [S.way (s : Int)], cur := S.cur ++ [((s : Int), ((S.marks.length : Nat) : Int))] }, _, _, mv', cv', D', ?_, rfl, h4, cam_snoc hc hlt _, h5⟩
    unfold xput
    rw [if_neg (by rw [h1]; decide), if_neg h2, if_neg h3]

/-- How far spread has come: the rest of the reckoning gives V. -/
structure Spr (w0 wr : World) (base r mb : Nat) (b0 b1 b2 b3 b4 : Value) (tk : Int) (q F : Nat) (nx : Int → List Int → List Int) (cn : List Int → List Int) (m0 : List Int) (S0 S : Xp) (k : Nat) (C : List (Int × Int)) (mv nv cv : Value) (D : DataW Unit) (ev : Value) : Prop where
  below : Below base w0 wr
  size : w0.heap.size ≤ wr.heap.size
  kp : Kp [some 3, some 56, some 58] w0 wr
  rest : xinner tk q nx ((cn S0.here).drop k) S = xinner tk q nx (cn S0.here) S0
  inv : XInv tk q nx cn m0 S ((cn S0.here).take k)
  nex : S.nexts = S0.nexts
  her : S.here = S0.here
  lt : S.nexts.length < S.marks.length
  xr : Xr wr base r mb b0 b1 b2 b3 b4 tk q F S.marks S0.nexts C mv nv cv D
  nxs0 : Nxs w0 base nv S0.nexts
  cam : Cam C S.ways
  edg : wr.ownsRow w0.heap.size 58 2 ev k (pvals S.cur)

theorem spr_len {w0 wr : World} {base r mb : Nat} {b0 b1 b2 b3 b4 : Value} {tk : Int} {q F : Nat} {nx : Int → List Int → List Int} {cn : List Int → List Int} {m0 : List Int} {S0 S : Xp} {k : Nat} {C : List (Int × Int)} {mv nv cv : Value} {D : DataW Unit} {ev : Value}
    (h : Spr w0 wr base r mb b0 b1 b2 b3 b4 tk q F nx cn m0 S0 S k C mv nv cv D ev) (hk : k ≤ (cn S0.here).length) : S.cur.length = k := by
  have := congrArg List.length h.inv.curs
  rw [List.length_map, List.length_take] at this
  omega

/-- What spread answers. -/
def SpdIs (w' : World) (base r mb : Nat) (b0 b1 b2 b3 b4 : Value) (tk : Int) (q F : Nat) (nx : Int → List Int → List Int) (cn : List Int → List Int) (m0 : List Int) (S : Xp) (e : Ending) : Prop :=
  (∃ (c s : Int) (Sf : Xp) (C : List (Int × Int)) (mv nv cv : Value) (D : DataW Unit), c ≠ 0 ∧ xinner tk q nx (cn S.here) S = .inl (c, Sf.way s) ∧ Sf.nexts = S.nexts ∧ Sf.nexts.length < Sf.marks.length ∧ Sf.ways.length ≤ 200 ∧ e = .returned (.tuple #[.int .i64 s, .int .i64 c]) ∧ Cam C Sf.ways ∧ Xr w' base r mb b0 b1 b2 b3 b4 tk q F Sf.marks Sf.nexts C mv nv cv D) ∨
  (∃ (S' : Xp) (C : List (Int × Int)) (mv nv cv : Value) (D : DataW Unit), xinner tk q nx (cn S.here) S = .inr S' ∧ XInv tk q nx cn m0 S' (cn S'.here) ∧ S'.nexts = S.nexts ∧ S'.nexts.length < S'.marks.length ∧ e = .returned (.tuple #[.int .i64 0, .int .i64 0]) ∧ Cam C S'.ways ∧ Xr w' base r mb b0 b1 b2 b3 b4 tk q F S'.marks (S'.nexts ++ [S'.cur]) C mv nv cv D)

theorem xinner_go {tk : Int} {q : Nat} {nx : Int → List Int → List Int} {S S' : Xp} {s : Int} {l : List Int} (h : xput tk q nx S s = .inr S') : xinner tk q nx (s :: l) S = xinner tk q nx l S' := by
  conv => lhs; unfold xinner
  rw [h]

theorem xinner_stop {tk : Int} {q : Nat} {nx : Int → List Int → List Int} {S : Xp} {s : Int} {l : List Int} {e : Int × List Int} (h : xput tk q nx S s = .inl e) : xinner tk q nx (s :: l) S = .inl e := by
  unfold xinner
  rw [h]

theorem drop_cons {l : List Int} {k : Nat} (h : k < l.length) : l.drop k = l.getD k 0 :: l.drop (k + 1) := by
  rw [List.drop_eq_getElem_cons h]
  congr 1
  simp [h]

theorem take_snoc {l : List Int} {k : Nat} (h : k < l.length) : l.take (k + 1) = l.take k ++ [l.getD k 0] := by
  rw [List.take_add_one]
  simp [h]

/-- 'edges = append(edges, ..)'. -/
theorem Spr.app {w0 wr w6 w7 : World} {base r mb : Nat} {b0 b1 b2 b3 b4 : Value} {tk : Int} {q F : Nat} {nx : Int → List Int → List Int} {cn : List Int → List Int} {m0 : List Int} {S0 S S' : Xp} {k : Nat} {C C' : List (Int × Int)} {mv mv' nv cv cv' : Value} {D D' : DataW Unit} {ev v7 : Value} {to : Int} {o : Obj}
    (h : Spr w0 wr base r mb b0 b1 b2 b3 b4 tk q F nx cn m0 S0 S k C mv nv cv D ev) (hk : k < (cn S0.here).length) (hbase : base ≤ w0.heap.size) (hb : Below base wr w6) (hkp : Kp [some 3, some 56, some 58] wr w6)
    (hput : xput tk q nx S ((cn S0.here).getD k 0) = .inr S') (hcur : S'.cur = S.cur ++ [((cn S0.here).getD k 0, to)]) (hc : Cam C' S'.ways) (hx : Xr w6 base r mb b0 b1 b2 b3 b4 tk q F S'.marks S0.nexts C' mv' nv cv' D')
    (hown : w7.ownsRow w0.heap.size 58 2 v7 (k + 1) (pvals S.cur ++ [.int .i64 ((cn S0.here).getD k 0), .int .i64 to])) (hgrow : (w6.alloc o).grownBy w7 ev.ownBlock) :
    (∃ a c, v7 = .slice a (k + 1) c) ∧ Hid (Spr w0 w7 base r mb b0 b1 b2 b3 b4 tk q F nx cn m0 S0 S' (k + 1) C' mv' nv cv' D' v7) := by
  have hg : w6.grownBy w7 ev.ownBlock := (World.grownBy_alloc _ _ _).trans hgrow
  have he6 : w6.ownsRow w0.heap.size 58 2 ev k (pvals S.cur) := row_kp h.edg hkp (by decide)
  have kp : Kp [some 111, some 26, some 3, some 114, some 56, none] w6 w7 := kp_row he6 hg (by decide)
  have hs6 : w0.heap.size ≤ w6.heap.size := Nat.le_trans h.size hb.size
  have hb6 : Below base w0 w6 := h.below.trans hb
  have hnew : ∀ b, ev.ownBlock = some b → w0.heap.size ≤ b := fun b e => (he6.lt b e).1
  have kp0 : Kp [some 3, some 56, some 58] w0 w7 := (h.kp.trans hkp).new hg hs6 hnew
  refine ⟨?_, ?_⟩
  · rcases hown.2 with ⟨_, h0⟩ | ⟨g, cap, cur, rfl, _⟩
    · omega
    · exact ⟨_, _, rfl⟩
  · have hmem : (cn S0.here).getD k 0 ∈ cn S.here := by
      rw [h.her, List.getD_eq_getElem?_getD, List.getElem?_eq_getElem hk]
      exact List.getElem_mem hk
    rcases xput_inv h.inv h.lt hmem with ⟨r', h1, _⟩ | ⟨S1, h1, h2, h3, h4, h5⟩
    · rw [hput] at h1
      cases h1
    · rw [hput] at h1
      cases h1
      refine ⟨hb6.grown hg (Nat.le_trans hbase hs6) (fun b e => Nat.le_trans hbase (hnew b e)), Nat.le_trans hs6 hg.size, kp0, ?_, ?_, h3.trans h.nex, h4.trans h.her, h5, ?_, h.nxs0, hc, ?_⟩
      · rw [← h.rest, drop_cons hk, xinner_go hput]
      · rw [take_snoc hk]
        exact h2
      · exact xr_kp hx kp (by decide) (nxs_kp h.nxs0 kp0 (by decide) (by decide))
      · rw [hcur, ← pvals_snoc]
        exact hown

/-- 'next = append(next, edges)'. -/
theorem Spr.fin {w0 wr w6 : World} {base r mb : Nat} {b0 b1 b2 b3 b4 : Value} {tk : Int} {q F : Nat} {nx : Int → List Int → List Int} {cn : List Int → List Int} {m0 : List Int} {S0 S : Xp} {k : Nat} {C : List (Int × Int)} {mv cv : Value} {na : Option Addr} {nn nc : Nat} {D : DataW Unit} {ev v6 : Value} {Vs : List Value} {o : Obj}
    (h : Spr w0 wr base r mb b0 b1 b2 b3 b4 tk q F nx cn m0 S0 S k C mv (.slice na nn nc) cv D ev) (hk : k = (cn S0.here).length) (hbase : base ≤ w0.heap.size) (hnn : nn = S0.nexts.length)
    (hV : wr.ownsRow base 56 1 (.slice na nn nc) nn Vs ∧ ∀ i, i < nn → ∃ v, Vs[i]? = some v ∧ wr.ownsRow base 58 2 v (S0.nexts.getD i []).length (pvals (S0.nexts.getD i [])))
    (hown : w6.ownsRow base 56 1 v6 (nn + 1) (Vs ++ [ev])) (hgrow : (wr.alloc o).grownBy w6 (Value.slice na nn nc).ownBlock) :
    (∃ a c, v6 = .slice a (nn + 1) c) ∧ w6.frozen? ⟨r, 8, none⟩ = false ∧ w6.cell? ⟨r, 8, none⟩ = some (.slice na nn nc) ∧
      Hid (Below base w0 (w6.setCell ⟨r, 8, none⟩ v6) ∧ Xr (w6.setCell ⟨r, 8, none⟩ v6) base r mb b0 b1 b2 b3 b4 tk q F S.marks (S.nexts ++ [S.cur]) C mv v6 cv D) := by
  have hg : wr.grownBy w6 (Value.slice na nn nc).ownBlock := (World.grownBy_alloc _ _ _).trans hgrow
  have kp : Kp [some 111, some 26, some 3, some 114, some 58, none] wr w6 := kp_row hV.1 hg (by decide)
  have hs6 := srch_kp h.xr.blk kp (by decide)
  have kp7 : Kp [some 26, some 3, some 114, some 56, some 58, none] w6 (w6.setCell ⟨r, 8, none⟩ v6) := kp_set hs6 (by decide) v6
  have kp8 : Kp [some 26, some 3, some 114, some 58, none] wr (w6.setCell ⟨r, 8, none⟩ v6) := (kp.sub (by decide)).trans (kp7.sub (by decide))
  have hsz : base ≤ wr.heap.size := Nat.le_trans hbase h.size
  have hb6 : Below base w0 w6 := h.below.grown hg hsz (fun b e => (hV.1.lt b e).1)
  have hcl := spr_len h (by omega)
  refine ⟨?_, srch_frozen hs6 8, (srch_cells hs6).2.2.2.2.1, hb6.setCell h.xr.hr _, ⟨h.xr.hr, h.xr.hmb, srch_set8 hs6 v6, mks_kp h.xr.mks kp8 (by decide) (by decide), ?_, row_kp h.xr.cam kp8 (by decide), map_kp h.xr.map kp8 (by decide), h.xr.nmd, h.xr.len, h.xr.shp⟩⟩
  · rcases hown.2 with ⟨_, h0⟩ | ⟨g, cap, cur, rfl, _⟩
    · omega
    · exact ⟨_, _, rfl⟩
  · have hl : (S.nexts ++ [S.cur]).length = nn + 1 := by rw [h.nex, hnn]; simp
    refine ⟨Vs ++ [ev], ?_, fun i hi => ?_⟩
    · rw [hl]
      exact row_kp hown kp7 (by decide)
    · rw [hl] at hi
      have hVl : Vs.length = nn := by have := hV.1.1; omega
      by_cases e : i = nn
      · subst e
        refine ⟨ev, by rw [List.getElem?_append_right (by omega), hVl]; simp, ?_⟩
        have e2 : (S.nexts ++ [S.cur]).getD i [] = S.cur := by rw [h.nex, hnn]; simp
        rw [e2, hcl]
        exact row_kp (owns_base h.edg hbase) kp8 (by decide)
      · obtain ⟨v, h1, h2⟩ := hV.2 i (by omega)
        refine ⟨v, by rw [List.getElem?_append_left (by omega), h1], ?_⟩
        have e2 : (S.nexts ++ [S.cur]).getD i [] = S0.nexts.getD i [] := by rw [h.nex]; simp [List.getElem?_append_left (show i < S0.nexts.length by omega)]
        rw [e2]
        exact row_kp h2 kp8 (by decide)

set_option maxRecDepth 20000 in
set_option maxHeartbeats 4000000 in
theorem spread_any {w : World} {base r mb : Nat} {na fa sa ia oa : Option Addr} {N nc F fc sc ic oc : Nat} {M : Nat → ByteArray} {K A B : Nat → Int} {l : List St3} (hB : Brd w na N nc fa F sa ia oa M K A B l) {X : List Int → Nat → Int} (hX : XOk K A B F l X) {m0 : List Int}
    {tk : Int} {q : Nat} {S : Xp} {C : List (Int × Int)} {mv nv cv : Value} {D : DataW Unit} (hbelow : base ≤ w.heap.size) (hBb : ∀ u, Below base w u → Brd u na N nc fa F sa ia oa M K A B l)
    (h : Xr w base r mb (.slice na N nc) (.slice fa F fc) (.slice sa l.length sc) (.slice ia N ic) (.slice oa N oc) tk q F S.marks S.nexts C mv nv cv D) (hI : XInv tk q (nxl K A B F l) (cnl X l.length) m0 S []) (hc : Cam C S.ways) (hlt : S.nexts.length < S.marks.length) (hcur : S.cur = []) (hq : q ≤ 200) (htk : tk ≤ 9) :
    Calls Try.prog 57 #[.pointer (some ⟨r, 0, none⟩), .int .i64 (S.nexts.length : Nat)] w fun e w' => Below base w w' ∧
      SpdIs w' base r mb (.slice na N nc) (.slice fa F fc) (.slice sa l.length sc) (.slice ia N ic) (.slice oa N oc) tk q F (nxl K A B F l) (cnl X l.length) m0 S e := by
  have HB : Hid (Brd w na N nc fa F sa ia oa M K A B l) := hB
  have HBb : Hid (∀ u, Below base w u → Brd u na N nc fa F sa ia oa M K A B l) := hBb
  have HX : Hid (Xr w base r mb (.slice na N nc) (.slice fa F fc) (.slice sa l.length sc) (.slice ia N ic) (.slice oa N oc) tk q F S.marks S.nexts C mv nv cv D) := h
  have HI : Hid (XInv tk q (nxl K A B F l) (cnl X l.length) m0 S []) := hI
  have HCm : Hid (Cam C S.ways) := hc
  have HCur : Hid (S.cur = []) := hcur
  have HXo : Hid (XOk K A B F l X) := hX
  have hF30 : F ≤ 30 := (chk_zero hB.chk).1.2
  have hl60 := hB.few
  obtain ⟨i3, hi, hz0, hz1, hz2⟩ := info_parts Try.info58
  have HI3 : Hid (Try.prog.info? 58 = some i3 ∧ i3.zero = some (.agg #[.int .i64 0, .int .i64 0]) ∧ i3.size = 2 ∧ i3.bytes = 16) := ⟨hi, hz0, hz1, hz2⟩
  clear hi hz0 hz1 hz2
  obtain ⟨i1, hi, hz0, hz1, hz2⟩ := info_parts Try.info56
  have HI1 : Hid (Try.prog.info? 56 = some i1 ∧ i1.zero = some (.slice none 0 0) ∧ i1.size = 1 ∧ i1.bytes = 24) := ⟨hi, hz0, hz1, hz2⟩
  clear hi hz0 hz1 hz2
  obtain ⟨n, hn⟩ : ∃ n, n = S.marks.length := ⟨_, rfl⟩
  obtain ⟨nn, hnn⟩ : ∃ nn, nn = S.nexts.length := ⟨_, rfl⟩
  have HN : Hid (n = S.marks.length ∧ nn = S.nexts.length) := ⟨hn, hnn⟩
  have hfew := hI.few
  have hn200 : n ≤ 200 := by omega
  have hnnn : (nn : Int) < (n : Int) := by omega
  have hnn200 : nn ≤ 200 := by omega
  obtain ⟨ma, mc, hmv⟩ : ∃ ma mc, mv = .slice ma n mc := by
    obtain ⟨G, ⟨Vs, h1, _⟩, _⟩ := h.mks
    rw [hn]
    rcases h1.2 with ⟨rfl, h0⟩ | ⟨g, cap, cur, rfl, _⟩
    · exact ⟨none, 0, by rw [h0]⟩
    · exact ⟨_, _, rfl⟩
  obtain ⟨xa, xc, hnv⟩ : ∃ xa xc, nv = .slice xa nn xc := by
    obtain ⟨Vs, h1, _⟩ := h.nxs
    rw [hnn]
    rcases h1.2 with ⟨rfl, h0⟩ | ⟨g, cap, cur, rfl, _⟩
    · exact ⟨none, 0, by rw [h0]⟩
    · exact ⟨_, _, rfl⟩
  subst hmv
  subst hnv
  obtain ⟨gb, go, g, gc, rfl, hmc, hmk⟩ := mk_at h.mks hlt
  have hsh : Shp F (S.marks.getD S.nexts.length []) := h.shp _ (by rw [List.getD_eq_getElem?_getD, List.getElem?_eq_getElem hlt]; exact List.getElem_mem hlt)
  have HMk : Hid (Mk w g F (fnl S.here)) := hmk
  have H9 : Hid (∀ i, i < F → 0 ≤ fnl S.here i ∧ fnl S.here i ≤ 9) := hsh.2
  rw [← hnn] at hmc
  have hrl : r < w.heap.size := srch_lt h.blk
  obtain ⟨⟨p0, p1, p2, p3, p4⟩, _, _, p7, p8, _, _⟩ := srch_cells h.blk
  have C1 : Hid (∀ u, Below w.heap.size w u → Calls Try.prog 38 #[.agg #[.slice na N nc, .slice fa F fc, .slice sa l.length sc, .slice ia N ic, .slice oa N oc], .slice (some ⟨g, 0, none⟩) F gc] u fun e w' => Below u.heap.size u w' ∧ ∃ a c, e = .returned (.tuple #[.slice a (tally (X S.here) 1 l.length) c, .int .i64 0]) ∧ w'.ownsRow u.heap.size 3 1 (.slice a (tally (X S.here) 1 l.length) c) (tally (X S.here) 1 l.length) (vals (fl (X S.here) 1 l.length))) := fun u hu =>
    enabledB_own (HB.out.below hu) (HMk.out.below hu).row H9.out (X S.here) (fun i _ => HXo.out S.here i)
  obtain ⟨cn, hcn⟩ : ∃ cn, cn = cnl X l.length S.here := ⟨_, rfl⟩
  have hcl : cn.length = tally (X S.here) 1 l.length := by rw [hcn]; exact fl_len _ _ _
  have HCn : Hid (cn = cnl X l.length S.here ∧ fl (X S.here) 1 l.length = cn ∧ tally (X S.here) 1 l.length = cn.length) := ⟨hcn, hcn.symm, hcl.symm⟩
  have hcn60 : cn.length ≤ 60 := by have := tally_le (X S.here) 1 l.length; omega
  have HLt : Hid (S.nexts.length < S.marks.length) := hlt
  clear hB hBb h hI hc hcur hX hmk hsh hcn hcl hn
  rw [← hnn]
  clear hnn hlt
  go_enter Try.func57, Try.ntmps57
  go_wp2
  go_region_held3 (fun z => z.cell? ⟨r, 0, none⟩ = some (.slice na N nc) ∧ z.cell? ⟨r, 1, none⟩ = some (.slice fa F fc) ∧ z.cell? ⟨r, 2, none⟩ = some (.slice sa l.length sc) ∧ z.cell? ⟨r, 3, none⟩ = some (.slice ia N ic) ∧ z.cell? ⟨r, 4, none⟩ = some (.slice oa N oc) ∧ z.cell? ⟨r, 7, none⟩ = some (.slice (some ⟨gb, go, none⟩) n mc) ∧ z.cell? ⟨gb, go + nn, none⟩ = some (.slice (some ⟨g, 0, none⟩) F gc))
    (first | (with_reducible exact ⟨x0, x1, x2, x3, x4, x7, xg⟩) | (exact ⟨p0, p1, p2, p3, p4, p7, hmc⟩))
    (first | (go_at_call 38; refine (C1.out _ (below_drew_iff.2 (Below.refl _ _))).mono ?_; rintro e w1 ⟨hb1, ea, ec, rfl, hrow⟩; have hb1' : Below w.heap.size w w1 := (below_drew_iff.2 (Below.refl _ _)).trans hb1; obtain ⟨⟨x0, x1, x2, x3, x4⟩, _, _, x7, _, _, _⟩ := srch_cells (HX.out.below hb1').blk; have xg : w1.cell? ⟨gb, go + nn, none⟩ = some (.slice (some ⟨g, 0, none⟩) F gc) := (hb1'.cell (p := ⟨gb, go + nn, none⟩) (World.block_lt_of_cell? _ _ hmc)).trans hmc; have HRow : Hid (w1.ownsRow w.heap.size 3 1 (.slice ea cn.length ec) cn.length (vals cn)) := (by have := hrow; rw [HCn.out.2.1, HCn.out.2.2] at this; exact this); clear hrow; dsimp only))
  rw [HCn.out.2.2]
  have HB1 : Hid (Below w.heap.size w w1) := hb1'
  have HX1 : Hid (Xr w1 base r mb (.slice na N nc) (.slice fa F fc) (.slice sa l.length sc) (.slice ia N ic) (.slice oa N oc) tk q F S.marks S.nexts C (.slice (some ⟨gb, go, none⟩) n mc) (.slice xa nn xc) cv D) := HX.out.below hb1'
  have hb1s : base ≤ w1.heap.size := Nat.le_trans hbelow hb1'.size
  have hrl1 : r < w1.heap.size := Nat.lt_of_lt_of_le hrl hb1'.size
  have HS0 : Hid (Spr w1 w1 base r mb (.slice na N nc) (.slice fa F fc) (.slice sa l.length sc) (.slice ia N ic) (.slice oa N oc) tk q F (nxl K A B F l) (cnl X l.length) m0 S S 0 C (.slice (some ⟨gb, go, none⟩) n mc) (.slice xa nn xc) cv D (.slice none 0 0)) :=
    ⟨Below.refl _ _, Nat.le_refl _, Kp.refl _ _, rfl, HI.out, rfl, rfl, HLt.out, HX1.out, HX1.out.nxs, HCm.out, by rw [HCur.out]; exact World.ownsRow_nil _ _ _ _⟩
  clear p0 p1 p2 p3 p4 p7 p8 hmc xg x0 x1 x2 x3 x4 x7 hb1 hb1' C1
  go_wp2
  go_loopw [8, 31] (fun v i wr => ∃ (k : Nat) (va : Option Addr) (vc : Nat) (T : Xp) (C' : List (Int × Int)) (mv' cv' : Value) (D' : DataW Unit), k ≤ cn.length ∧ i = .int .i64 k ∧ v = .slice va k vc ∧ Hid (Spr w1 wr base r mb (.slice na N nc) (.slice fa F fc) (.slice sa l.length sc) (.slice ia N ic) (.slice oa N oc) tk q F (nxl K A B F l) (cnl X l.length) m0 S T k C' mv' (.slice xa nn xc) cv' D' (.slice va k vc))) (fun _ i _ => cn.length - (intOf i).toNat)
  case atStart => exact ⟨0, none, 0, S, C, _, cv, D, Nat.zero_le _, rfl, rfl, HS0.out⟩
  case round =>
    obtain ⟨k, va, vc, T, C', mv', cv', D', hk, rfl, rfl, HT⟩ := hrel
    clear HS0
    have HBr : Hid (Below base w wr) := (HB1.out.mono hbelow).trans HT.out.below
    have hrr : r < wr.heap.size := Nat.lt_of_lt_of_le hrl1 HT.out.size
    by_cases hlt : k < cn.length
    · obtain ⟨eb, eo, hea, hec⟩ := owns_row' rfl (row_kp HRow.out HT.out.kp (by decide))
      obtain rfl := hea (by omega)
      have hcell : wr.cell? ⟨eb, eo + k, none⟩ = some (.int .i64 (cn.getD k 0)) := hec k hlt
      have hkI : (k : Int) < (cn.length : Int) := by omega
      have hmem : cn.getD k 0 ∈ cnl X l.length S.here := by
        rw [← HCn.out.1, List.getD_eq_getElem?_getD, List.getElem?_eq_getElem hlt]
        exact List.getElem_mem hlt
      obtain ⟨s, hs1, hs2, hs3⟩ := (mem_cnl HXo.out).1 hmem
      rw [hs1] at hcell
      have HS : Hid (cn.getD k 0 = (s : Int) ∧ s < l.length) := ⟨hs1, hs2⟩
      have hTn : T.nexts.length = nn := by rw [HT.out.nex, ← HN.out.2]
      have HTn : Hid (T.nexts.length = nn) := hTn
      have hhere : T.marks.getD nn [] = S.here := by rw [← HT.out.her, ← hTn]; rfl
      have hTl : nn < T.marks.length := by rw [← hTn]; exact HT.out.lt
      have C6 := follow_any (HBb.out wr HBr.out) HT.out.xr (Nat.le_trans hb1s HT.out.size) HT.out.inv.few hq htk hTl hs2 (by rw [hhere]; exact hs3)
      have C7 : Hid (Calls Try.prog 92 #[.pointer (some ⟨r, 0, none⟩), .int .i64 (nn : Nat), .int .i64 (s : Nat)] wr fun e w' => Below base wr w' ∧ Kp [some 3, some 56, some 58] wr w' ∧
          FoIs w' base r mb (.slice na N nc) (.slice fa F fc) (.slice sa l.length sc) (.slice ia N ic) (.slice oa N oc) tk q F T.marks S.nexts C' mv' (.slice xa nn xc) cv' D' T.nexts.length s (lst F (frs K A B (l.getD s (0, 0, 0)) (fnl (T.marks.getD T.nexts.length [])))) e) := by rw [hTn]; exact C6
      have hwl : T.nexts.length < T.ways.length := by rw [HT.out.inv.wlen]; exact HT.out.lt
      have HWl : Hid (T.nexts.length < T.ways.length) := hwl
      clear C6 hec hea hmem hs1 hs2 hs3 hTn hhere hTl hwl
      go_wp2_with fail
      refine C7.out.mono ?_
      rintro e w6 ⟨hb6, hk6, hfo⟩
      have HB6 : Hid (Below base wr w6 ∧ Kp [some 3, some 56, some 58] wr w6) := ⟨hb6, hk6⟩
      have HCl : Hid ((cnl X l.length S.here) = cn) := HCn.out.1.symm
      rcases fo_put HWl.out HT.out.cam hfo with ⟨c, hc78, hput, rfl, hx⟩ | ⟨S', to, C'', mv'', cv'', D'', hput, hcur, rfl, hcam, hx⟩
      · have hc0 : (c != 0) = true := by
          rw [bne_iff_ne]
          rcases hc78 with rfl | rfl <;> decide
        have HF : Hid (Below base w w6 ∧ SpdIs w6 base r mb (.slice na N nc) (.slice fa F fc) (.slice sa l.length sc) (.slice ia N ic) (.slice oa N oc) tk q F (nxl K A B F l) (cnl X l.length) m0 S (.returned (.tuple #[.int .i64 (s : Nat), .int .i64 c]))) := by
          refine ⟨HBr.out.trans hb6, Or.inl ⟨c, (s : Int), T, C', mv', (.slice xa nn xc), cv', D', by rcases hc78 with rfl | rfl <;> decide, ?_, HT.out.nex, HT.out.lt, ?_, rfl, HT.out.cam, ?_⟩⟩
          · rw [← HT.out.rest, HCl.out, drop_cons hlt, HS.out.1]
            exact xinner_stop hput
          · rw [HT.out.inv.wlen]
            exact Nat.le_trans HT.out.inv.few hq
          · rw [HT.out.nex]
            exact hx
        clear hb6 hk6 hfo hput hx hc78 C7
        go_wp2
        go_ret2
        exact HF.out
      · have HPut : Hid (xput tk q (nxl K A B F l) T ((cnl X l.length S.here).getD k 0) = .inr S' ∧ S'.cur = T.cur ++ [((cnl X l.length S.here).getD k 0, to)]) := by rw [HCl.out, HS.out.1]; exact ⟨hput, hcur⟩
        have HX6 : Hid (Cam C'' S'.ways ∧ Xr w6 base r mb (.slice na N nc) (.slice fa F fc) (.slice sa l.length sc) (.slice ia N ic) (.slice oa N oc) tk q F S'.marks S.nexts C'' mv'' (.slice xa nn xc) cv'' D'') := ⟨hcam, hx⟩
        have HE6 : Hid (w6.ownsRow w1.heap.size 58 2 (.slice va k vc) k (pvals T.cur)) := row_kp HT.out.edg hk6 (by decide)
        have HSz6 : Hid (w1.heap.size ≤ w6.heap.size) := Nat.le_trans HT.out.size hb6.size
        have HLk : Hid (k < (cnl X l.length S.here).length) := by rw [HCl.out]; exact hlt
        have HSc : Hid ((cnl X l.length S.here).getD k 0 = (s : Int)) := by rw [HCl.out]; exact HS.out.1
        clear hb6 hk6 hfo hput hcur hcam hx C7
        go_wp2_with (at_builtin; refine wpList_append_own_at _ rfl _ _ 56 rfl w1.heap.size 58 i3 (.agg #[.int .i64 0, .int .i64 0]) 2 16 Try.underlying56 HI3.out.1 HI3.out.2.1 HI3.out.2.2.1 HI3.out.2.2.2 rfl (by decide) _ _ _ rfl (HE6.out.alloc _) ⟨w6.heap.size, 0, none⟩ 1 1 [.int .i64 (s : Nat), .int .i64 to] rfl rfl (World.news_of_block (cs := #[.int .i64 (s : Nat), .int .i64 to]) (t := 58) (fr := (0, 0)) (heap_alloc_new w6 _)) (by simp [Value.oneCell']) (by unfold maxLen; omega) (by omega) (by have := HSz6.out; simp; omega) ?_; intro v7 w7 hown7 hgrow7 _ _; obtain ⟨⟨a7, c7, rfl⟩, H7⟩ := Spr.app HT.out HLk.out hb1s HB6.out.1 HB6.out.2 HPut.out.1 HPut.out.2 HX6.out.1 HX6.out.2 (by rw [HSc.out]; exact hown7) hgrow7; clear hown7 hgrow7)
        go_roundw
        case rel => exact ⟨k + 1, a7, c7, _, _, _, _, _, by omega, by go_num, rfl, H7.out⟩
        case measure => simp [intOf]; omega
    · obtain rfl : cn.length = k := by omega
      obtain ⟨_, _, _, _, z8, _, _⟩ := srch_cells HT.out.xr.blk
      obtain ⟨Vs, hVs⟩ := HT.out.xr.nxs
      rw [← HN.out.2] at hVs
      have HVs : Hid (wr.ownsRow base 56 1 (.slice xa nn xc) nn Vs ∧ ∀ i, i < nn → ∃ v, Vs[i]? = some v ∧ wr.ownsRow base 58 2 v (S.nexts.getD i []).length (pvals (S.nexts.getD i []))) := hVs
      have HSz : Hid (base ≤ wr.heap.size) := Nat.le_trans hb1s HT.out.size
      have HCl : Hid (cn.length = (cnl X l.length S.here).length) := congrArg List.length HCn.out.1
      clear hVs
      go_wp2_with (at_builtin; refine wpList_append_own_at _ rfl _ _ 33 rfl base 56 i1 (.slice none 0 0) 1 24 Try.underlying33 HI1.out.1 HI1.out.2.1 HI1.out.2.2.1 HI1.out.2.2.2 rfl (by decide) _ _ _ rfl (HVs.out.1.alloc _) ⟨wr.heap.size, 0, none⟩ 1 1 [.slice va cn.length vc] rfl rfl (World.news_of_block (cs := #[.slice va cn.length vc]) (t := 56) (fr := (0, 0)) (heap_alloc_new wr _)) (by simp [Value.oneCell']) (by unfold maxLen; omega) (by omega) (by have := HSz.out; simp; omega) ?_; intro v6 w6 hown6 hgrow6 _ _; obtain ⟨⟨a6, c6, rfl⟩, gf8, g8, H6⟩ := Spr.fin HT.out HCl.out hb1s HN.out.2 HVs.out hown6 hgrow6; clear hown6 hgrow6)
      go_ret2
      refine ⟨(HB1.out.mono hbelow).trans H6.out.1, Or.inr ⟨T, C', mv', _, cv', D', ?_, ?_, HT.out.nex, HT.out.lt, rfl, HT.out.cam, H6.out.2⟩⟩
      · rw [← HT.out.rest, HCl.out, List.drop_length]
        rfl
      · have := HT.out.inv
        rw [HCl.out, List.take_length] at this
        rw [HT.out.her]
        exact this

end Go.Proofs.Ytjenkhphngiphaa

namespace Go.Proofs.Ytjenkhphngiphaa
open Go.RowKit Go.Maps

/-- What has been turned round so far. -/
def rv (Z : Nat → Int) (n k i : Nat) : Int := if i < k ∨ n < i + k + 1 then Z (n - 1 - i) else Z i

theorem rv_step {Z : Nat → Int} {n k j : Nat} (h : k < j) (hj : k + j + 1 = n) (i : Nat) (hi : i < n) : upd (upd (rv Z n k) k (Z j)) j (Z k) i = rv Z n (k + 1) i := by
  unfold upd rv
  by_cases e1 : i = j
  · subst e1
    rw [if_pos rfl, if_pos (by omega)]
    congr 1
    omega
  · rw [if_neg e1]
    by_cases e2 : i = k
    · subst e2
      rw [if_pos rfl, if_pos (by omega)]
      congr 1
      omega
    · rw [if_neg e2]
      by_cases e3 : i < k ∨ n < i + k + 1
      · rw [if_pos e3, if_pos (by omega)]
      · rw [if_neg e3, if_neg (by omega)]

/-- A row of cap cells, of which the first n are known. -/
def MkC (w : World) (g cap n : Nat) (Z : Nat → Int) : Prop := ∃ f, n ≤ cap ∧ w.rowIs g 3 cap f ∧ ∀ i, i < n → f i = .int .i64 (Z i)

theorem MkC.cell {w : World} {g cap n : Nat} {Z : Nat → Int} (h : MkC w g cap n Z) {i : Nat} (hi : i < n) : w.cell? ⟨g, i, none⟩ = some (.int .i64 (Z i)) := by
  obtain ⟨f, h1, h2, h3⟩ := h
  rw [h2.cell (by omega), h3 i hi]

theorem MkC.frozen {w : World} {g cap n : Nat} {Z : Nat → Int} (h : MkC w g cap n Z) (i : Nat) : w.frozen? ⟨g, i, none⟩ = false := by
  obtain ⟨f, _, h2, _⟩ := h
  exact h2.frozen i

theorem MkC.set {w : World} {g cap n : Nat} {Z : Nat → Int} (h : MkC w g cap n Z) (i : Nat) (x : Int) : MkC (w.setCell ⟨g, i, none⟩ (.int .i64 x)) g cap n (upd Z i x) := by
  obtain ⟨f, h1, h2, h3⟩ := h
  refine ⟨_, h1, h2.set i _, fun j hj => ?_⟩
  unfold upd
  by_cases e : j = i
  · simp [e]
  · simp [e, h3 j hj]

theorem MkC.congr {w : World} {g cap n : Nat} {Y Z : Nat → Int} (h : MkC w g cap n Y) (e : ∀ i, i < n → Y i = Z i) : MkC w g cap n Z := by
  obtain ⟨f, h1, h2, h3⟩ := h
  exact ⟨f, h1, h2, fun i hi => by rw [h3 i hi, e i hi]⟩

structure Rvd (w wr : World) (g cap n : Nat) (Z : Nat → Int) (k : Nat) : Prop where
  grown : w.grownBy wr (some g)
  row : MkC wr g cap n (rv Z n k)

theorem Rvd.next {w wr : World} {g cap n : Nat} {Z : Nat → Int} {k j : Nat} (h : Rvd w wr g cap n Z k) (hkj : k < j) (hj : k + j + 1 = n) : Rvd w ((wr.setCell ⟨g, k, none⟩ (.int .i64 (Z j))).setCell ⟨g, j, none⟩ (.int .i64 (Z k))).drew g cap n Z (k + 1) := by
  refine ⟨⟨h.grown.os, h.grown.tape, h.grown.output, ?_, fun i hi hne => ?_⟩, ?_⟩
  · have := h.grown.size
    simpa [World.setCell, World.drew] using this
  · have hig : i ≠ g := fun e => hne (by rw [e])
    show ((wr.setCell ⟨g, k, none⟩ (.int .i64 (Z j))).setCell ⟨g, j, none⟩ (.int .i64 (Z k))).heap[i]? = w.heap[i]?
    rw [Below.heap_setCell _ _ _ _ hig, Below.heap_setCell _ _ _ _ hig]
    exact h.grown.block i hi hne
  · exact ((h.row.set k (Z j)).set j (Z k)).congr (fun i hi => rv_step hkj hj i hi)

set_option maxHeartbeats 2000000 in
theorem reverse_any {w : World} {g cap n c : Nat} {Z : Nat → Int} (hn : n ≤ 1000) (h : MkC w g cap n Z) :
    Calls Try.prog 93 #[.slice (some ⟨g, 0, none⟩) n c] w fun e w' => e = .returned (.tuple #[]) ∧ w.grownBy w' (some g) ∧ MkC w' g cap n (fun i => Z (n - 1 - i)) := by
  have HS : Hid (Rvd w w g cap n Z 0) := ⟨⟨rfl, rfl, rfl, Nat.le_refl _, fun _ _ _ => rfl⟩, h.congr (fun i hi => by unfold rv; rw [if_neg (by omega)])⟩
  clear h
  have hn1 : IntKind.i64.wrap ((n : Int) - 1) = (n : Int) - 1 := by rw [IntKind.wrap_i64]; omega
  go_enter Try.func93, Try.ntmps93
  go_wp2
  go_loopw [2, 3] (fun iv jv wr => ∃ k : Nat, k ≤ n ∧ iv = .int .i64 k ∧ jv = .int .i64 ((n : Int) - 1 - k) ∧ Hid (Rvd w wr g cap n Z k)) (fun iv _ _ => n - (intOf iv).toNat)
  case atStart => exact ⟨0, Nat.zero_le _, rfl, by simp, HS.out⟩
  case round =>
    obtain ⟨k, hk, rfl, rfl, HT⟩ := hrel
    clear HS
    by_cases hlt : (k : Int) < (n : Int) - 1 - k
    · obtain ⟨j, hj⟩ : ∃ j : Nat, (n : Int) - 1 - k = j := ⟨((n : Int) - 1 - k).toNat, by omega⟩
      rw [hj]
      have hkj : k < j := by omega
      have hkj' : (k : Int) < (j : Int) := by omega
      have hkn : (k : Int) < (n : Int) := by omega
      have hjn : (j : Int) < (n : Int) := by omega
      have hne : ¬ k = j := by omega
      have hne2 : ¬ j = k := by omega
      have hck : wr.cell? ⟨g, k, none⟩ = some (.int .i64 (Z k)) := by
        have := HT.out.row.cell (i := k) (by omega)
        unfold rv at this
        rwa [if_neg (by omega)] at this
      have hcj : wr.cell? ⟨g, j, none⟩ = some (.int .i64 (Z j)) := by
        have := HT.out.row.cell (i := j) (by omega)
        unfold rv at this
        rwa [if_neg (by omega)] at this
      have hfk := HT.out.row.frozen k
      have hfj := HT.out.row.frozen j
      have HN : Hid (Rvd w ((wr.setCell ⟨g, k, none⟩ (.int .i64 (Z j))).setCell ⟨g, j, none⟩ (.int .i64 (Z k))).drew g cap n Z (k + 1)) := HT.out.next hkj (by omega)
      have hj1 : IntKind.i64.wrap ((j : Int) - 1) = (j : Int) - 1 := by rw [IntKind.wrap_i64]; omega
      clear HT
      go_wp2
      go_region
      go_wp2
      go_roundw
      case rel => exact ⟨k + 1, by omega, by go_num, by congr 1; omega, HN.out⟩
      case measure => simp [intOf]; omega
    · have HF : Hid (w.grownBy wr (some g) ∧ MkC wr g cap n (fun i => Z (n - 1 - i))) := ⟨HT.out.grown, HT.out.row.congr (fun i hi => by
        unfold rv
        by_cases e : i < k ∨ n < i + k + 1
        · rw [if_pos e]
        · rw [if_neg e]
          congr 1
          omega)⟩
      clear HT
      go_wp2
      go_end0
      exact ⟨rfl, HF.out⟩

set_option maxHeartbeats 1000000 in
theorem reverse_nil (w : World) : Calls Try.prog 93 #[.slice none 0 0] w fun e w' => e = .returned (.tuple #[]) ∧ w' = w := by
  go_enter Try.func93, Try.ntmps93
  go_wp2
  refine wp_loop_rounds 1 ?_
  rw [rounds_succ]
  go_wp2
  go_end0
  exact ⟨rfl, rfl⟩

theorem vals_lst {l : List Int} : vals l = vals (lst l.length (fun i => l.getD i 0)) := by
  congr 1
  apply List.ext_getElem?
  intro i
  unfold lst
  by_cases hi : i < l.length
  · simp [hi]
  · rw [List.getElem?_eq_none (by omega), List.getElem?_eq_none (by simp; omega)]

theorem rev_lst {l : List Int} : vals (lst l.length (fun i => l.getD (l.length - 1 - i) 0)) = vals l.reverse := by
  congr 1
  apply List.ext_getElem?
  intro i
  unfold lst
  by_cases hi : i < l.length
  · have h2 : l.length - 1 - i < l.length := by omega
    simp [hi, h2]
  · rw [List.getElem?_eq_none (by simp; omega), List.getElem?_eq_none (by simp; omega)]

theorem mkc_owns {w : World} {base n : Nat} {a : Option Addr} {c : Nat} {l : List Int} (hn : n = l.length) (h : w.ownsRow base 3 1 (.slice a n c) n (vals l)) : (a = none ∧ n = 0 ∧ c = 0) ∨ ∃ g, a = some ⟨g, 0, none⟩ ∧ base ≤ g ∧ c ≤ maxLen ∧ MkC w g c n (fun i => l.getD i 0) := by
  subst hn
  rcases h.2 with ⟨e, h1⟩ | ⟨g, cap, cur, e, hb, hg, hle, hmx, hs, ht⟩
  · simp only [Value.slice.injEq] at e
    exact Or.inl e
  · simp only [Value.slice.injEq] at e
    obtain ⟨rfl, _, rfl⟩ := e
    refine Or.inr ⟨g, rfl, hb, hmx, fun i => cur[i]?.getD (.int .i64 0), hle, ⟨cur, hg, by omega, fun i hi => ?_⟩, fun i hi => ?_⟩
    · have hi' : i < cur.size := by omega
      simp [hi']
    · have h1 : (cur.toList.take (l.length * 1))[i]? = some (.int .i64 (l.getD i 0)) := by rw [ht]; simp [vals, hi]
      rw [List.getElem?_take, if_pos (by omega), Array.getElem?_toList] at h1
      show cur[i]?.getD (.int .i64 0) = _
      rw [h1]
      rfl

theorem owns_mkc {w : World} {base n g c : Nat} {Z : Nat → Int} (hb : base ≤ g) (hc : c ≤ maxLen) (h : MkC w g c n Z) : w.ownsRow base 3 1 (.slice (some ⟨g, 0, none⟩) n c) n (vals (lst n Z)) := by
  obtain ⟨f, h1, ⟨cur, h2, h3, h4⟩, h5⟩ := h
  refine ⟨by simp [vals, lst], Or.inr ⟨g, c, cur, rfl, hb, h2, h1, hc, by omega, ?_⟩⟩
  apply List.ext_getElem?
  intro i
  rw [List.getElem?_take]
  by_cases hi : i < n
  · rw [if_pos (by omega), Array.getElem?_toList, h4 i (by omega), h5 i hi]
    simp [vals, lst, hi]
  · rw [if_neg (by omega), List.getElem?_eq_none (by simp [vals, lst]; omega)]

theorem rev_row {u : World} {b n : Nat} {a : Option Addr} {c : Nat} {l : List Int} (hn : n = l.length) (h1000 : n ≤ 1000) (h : u.ownsRow b 3 1 (.slice a n c) n (vals l)) :
    Calls Try.prog 93 #[.slice a n c] u fun e w' => e = .returned (.tuple #[]) ∧ u.grownBy w' (Value.slice a n c).ownBlock ∧ w'.ownsRow b 3 1 (.slice a n c) n (vals l.reverse) := by
  rcases mkc_owns hn h with ⟨rfl, rfl, rfl⟩ | ⟨g, rfl, hb, hc, hm⟩
  · have e : l = [] := List.length_eq_zero_iff.1 hn.symm
    subst e
    exact (reverse_nil u).mono fun e w' ⟨h1, h2⟩ => by subst h2; exact ⟨h1, ⟨rfl, rfl, rfl, Nat.le_refl _, fun _ _ _ => rfl⟩, h⟩
  · refine (reverse_any (c := c) h1000 hm).mono fun e w' ⟨h1, h2, h3⟩ => ⟨h1, h2, ?_⟩
    have := owns_mkc hb hc h3
    rw [hn] at this ⊢
    rw [rev_lst] at this
    exact this

/-- How far wayTo has come. -/
structure Wyd (w wr : World) (ways : List (List Int)) (k0 k : Nat) (acc : List Int) (v : Value) : Prop where
  below : Below w.heap.size w wr
  own : wr.ownsRow w.heap.size 3 1 v acc.length (vals acc)
  le : acc.length + k ≤ k0
  way : ways.getD k0 [] = ways.getD k [] ++ acc.reverse

set_option maxHeartbeats 2000000 in
theorem wayTo_any {w : World} {base r mb : Nat} {b0 b1 b2 b3 b4 : Value} {tk st : Int} {F : Nat} {marks : List (List Int)} {nexts : List (List (Int × Int))} {C : List (Int × Int)} {mv nv cv : Value} {D : DataW Unit} {ways : List (List Int)}
    (h : Xr w base r mb b0 b1 b2 b3 b4 tk st F marks nexts C mv nv cv D) (hc : Cam C ways) {k0 : Nat} (hk0 : k0 < ways.length) (h200 : ways.length ≤ 200) :
    Calls Try.prog 58 #[.pointer (some ⟨r, 0, none⟩), .int .i64 (k0 : Nat)] w fun e w' => Below w.heap.size w w' ∧ ∃ a c, e = .returned (.slice a (ways.getD k0 []).length c) ∧ w'.ownsRow w.heap.size 3 1 (.slice a (ways.getD k0 []).length c) (ways.getD k0 []).length (vals (ways.getD k0 [])) := by
  have HX : Hid (Xr w base r mb b0 b1 b2 b3 b4 tk st F marks nexts C mv nv cv D) := h
  have HC : Hid (Cam C ways) := hc
  obtain ⟨i0, hi, hz0, hz1, hz2⟩ := info_parts Try.info3
  have HI : Hid (Try.prog.info? 3 = some i0 ∧ i0.zero = some (.int .i64 0) ∧ i0.size = 1 ∧ i0.bytes = 8) := ⟨hi, hz0, hz1, hz2⟩
  clear hi hz0 hz1 hz2
  obtain ⟨cn, hcn⟩ : ∃ cn, cn = C.length := ⟨_, rfl⟩
  obtain ⟨ca, cc, hcv, _, cb, co, hca, hcc⟩ := owns_prs h.cam rfl
  rw [← hcn] at hcv
  subst hcv
  have hCl := hc.1
  obtain rfl := hca (by omega)
  have HCc : Hid (∀ i, i < C.length → w.cell? ⟨cb, co + i * 2, none⟩ = some (.int .i64 (C.getD i (0, 0)).1) ∧ w.cell? ⟨cb, co + i * 2 + 1, none⟩ = some (.int .i64 (C.getD i (0, 0)).2)) := hcc
  have HS : Hid (Wyd w w ways k0 k0 [] (.slice none 0 0)) := ⟨Below.refl _ _, World.ownsRow_nil _ _ _ _, by simp, by simp⟩
  have HLen : Hid (cn = C.length ∧ C.length = ways.length) := ⟨hcn, hCl⟩
  clear h hc hcc hcn hCl
  go_enter Try.func58, Try.ntmps58
  go_wp2
  go_loopw [5, 6] (fun v i wr => ∃ (k : Nat) (acc : List Int) (va : Option Addr) (vc n : Nat), k ≤ k0 ∧ n = acc.length ∧ i = .int .i64 k ∧ v = .slice va n vc ∧ Hid (Wyd w wr ways k0 k acc (.slice va n vc))) (fun _ i _ => (intOf i).toNat)
  case atStart => exact ⟨k0, [], none, 0, 0, Nat.le_refl _, rfl, rfl, rfl, HS.out⟩
  case round =>
    obtain ⟨k, acc, va, vc, n, hk, hn, rfl, rfl, HT⟩ := hrel
    clear HS
    obtain ⟨_, _, _, _, _, _, p10⟩ := srch_cells (HX.out.below HT.out.below).blk
    have hrl := srch_lt (HX.out.below HT.out.below).blk
    have hle := HT.out.le
    obtain ⟨e1, e2⟩ := HCc.out k (by have := HLen.out; omega)
    have hc1 := (HT.out.below.cell (p := ⟨cb, co + k * 2, none⟩) (World.block_lt_of_cell? _ _ e1)).trans e1
    have hc2 := (HT.out.below.cell (p := ⟨cb, co + k * 2 + 1, none⟩) (World.block_lt_of_cell? _ _ e2)).trans e2
    have hkc : (k : Int) < (cn : Int) := by have := HLen.out; omega
    have hn200 : n ≤ 200 := by omega
    have HO : Hid (wr.ownsRow w.heap.size 3 1 (.slice va n vc) n (vals acc)) := by have := HT.out.own; rw [← hn] at this; exact this
    have HSz : Hid (w.heap.size ≤ wr.heap.size) := HT.out.below.size
    have HAn : Hid (n = acc.length) := hn
    clear e1 e2 hn
    rcases HC.out.2 k (by omega) with ⟨hk00, h1, h2⟩ | ⟨j, h1, h2, h3⟩
    · rw [h1] at hc1
      have HW : Hid (ways.getD k0 [] = acc.reverse) := by have := HT.out.way; rw [h2] at this; exact this
      clear h1 h2 hc2 hk00 hle
      have HB : Hid (Below w.heap.size w wr) := HT.out.below
      have C1 : Hid (Calls Try.prog 93 #[.slice va n vc] wr fun e w' => e = .returned (.tuple #[]) ∧ wr.grownBy w' (Value.slice va n vc).ownBlock ∧ w'.ownsRow w.heap.size 3 1 (.slice va n vc) n (vals acc.reverse)) := rev_row HAn.out (by have := HAn.out; omega) HO.out
      clear HT
      go_wp2_with fail
      refine C1.out.mono ?_
      rintro e w3 ⟨rfl, hg3, ho3⟩
      have HF : Hid (Below w.heap.size w w3 ∧ w3.ownsRow w.heap.size 3 1 (.slice va n vc) n (vals acc.reverse)) := ⟨HB.out.grown hg3 HB.out.size (fun b e => (HO.out.lt b e).1), ho3⟩
      clear hg3 ho3 C1
      go_wp2
      go_ret
      have e : (ways.getD k0 []).length = n := by rw [HW.out, List.length_reverse, HAn.out]
      rw [e, HW.out]
      exact ⟨HF.out.1, va, vc, rfl, HF.out.2⟩
    · rw [h2] at hc1
      have hj0 : ((j : Int) != -1) = true := by rw [bne_iff_ne]; omega
      have HN : Hid (∀ (v' : Value) (w1 : World) (o : Obj), w1.ownsRow w.heap.size 3 1 v' (n + 1) (vals acc ++ [.int .i64 (C.getD k (0, 0)).2]) → (wr.alloc o).grownBy w1 (Value.slice va n vc).ownBlock → (∃ a c, v' = .slice a (n + 1) c) ∧ Hid (Wyd w w1 ways k0 j (acc ++ [(C.getD k (0, 0)).2]) v')) := fun v' w1 o hown hgrow => by
        obtain ⟨h4, h5⟩ := list_step HT.out.below HO.out hown hgrow
        refine ⟨h4, h5.out.1, ?_, ?_, ?_⟩
        · have := h5.out.2
          rw [HAn.out] at this
          simpa using this
        · simp
          omega
        · rw [HT.out.way, h3]
          simp
      have HJ : Hid ((C.getD k (0, 0)).1 = (j : Int)) := h2
      generalize hst : (C.getD k (0, 0)).2 = sp at *
      clear h2 h3 HT hst hle
      go_upto_region 4 with (at_builtin; refine wpList_append_own_at _ rfl _ _ 26 rfl w.heap.size 3 i0 (.int .i64 0) 1 8 Try.underlying26 HI.out.1 HI.out.2.1 HI.out.2.2.1 HI.out.2.2.2 rfl (by decide) _ _ _ rfl (HO.out.alloc _) ⟨wr.heap.size, 0, none⟩ 1 1 [.int .i64 sp] rfl rfl (cell_one_new _ _ _) (ints_oneCell .i64 [sp]) (by unfold maxLen; omega) (by omega) (by have := HSz.out; simp; omega) ?_; intro v' w4 hown hgrow _ _; obtain ⟨⟨a4, c4, rfl⟩, H4⟩ := HN.out _ _ _ hown hgrow; clear hown hgrow)
      clear p10 hc1 hc2 hrl
      obtain ⟨_, _, _, _, _, _, p10⟩ := srch_cells (HX.out.below H4.out.below).blk
      have hrl := srch_lt (HX.out.below H4.out.below).blk
      obtain ⟨e1, _⟩ := HCc.out k (by have := HLen.out; omega)
      have hc1 := (H4.out.below.cell (p := ⟨cb, co + k * 2, none⟩) (World.block_lt_of_cell? _ _ e1)).trans e1
      rw [HJ.out] at hc1
      clear e1
      go_wp2
      go_roundw
      case rel => exact ⟨j, _, a4, c4, n + 1, by omega, by rw [List.length_append, HAn.out]; rfl, rfl, rfl, H4.out⟩
      case measure => simp [intOf]; omega

end Go.Proofs.Ytjenkhphngiphaa
