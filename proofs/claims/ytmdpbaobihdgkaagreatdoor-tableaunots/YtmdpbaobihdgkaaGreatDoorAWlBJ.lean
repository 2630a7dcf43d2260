/-   -/
import Derived.Test.YtmdpbaobihdgkaaGreatDoorAWlkJ
import Derived.RangeFuncNested
import Derived.RangeFuncBound
import Derived.RangeFuncCalls
import Derived.RangeFuncLeaves
import Derived.Shelf.Abstract
import Derived.Shelf.RegionOpen
import Derived.OwnWalkIn
import Derived.TacticsInMore
import Derived.LoopNIn
import Derived.LoopIn
import Derived.Lib.SliceRun
/- walk, backward. -/
/- Clone and clear of slices of sets; Backward; a region within a round. -/
namespace Go.Proofs.YtmdpbaobihdgkaaGreatDoor
open Go.RowKit
def Sb (R : Rx) (q t : Nat × Nat) : Prop := mem (R.P q.1) t.1 = true ∧ t.2 = (q.2 + R.m - 1) % R.m
set_option maxHeartbeats 4000000 in
theorem walkB_any (R : Rx) (lb lc : Nat) (X : Nat → Nat → Nat) (s p : Nat) (w : World) (h : Rw w R) (hl : Ls w lb R.m X) (hlb : lb < w.heap.size) (hap : lb ≠ R.nb ∧ lb ≠ R.pb ∧ lb ≠ R.tb ∧ lb ≠ R.fb ∧ lb ≠ 0)
  (E : Nat × Nat → Nat × Nat → Prop) (T : Nat × Nat → Prop) (met : List (Nat × Nat)) (hD : Dfs E T met [] (a_lf R.m X)) (hE : ∀ q t, T q → T t → (E q t ↔ Sb R q t)) (hT : ∀ q, T q → q.1 < R.G ∧ q.2 < R.m) (hv : a_lf R.m X (s, p)) :
  Calls Tryz.prog 75 #[.agg #[.int .i64 s, .int .i64 p], .slice (some ⟨lb, 0, none⟩) R.m lc, .func (.func 79) #[R.val] #[]] w fun e w' => ∃ v part X', e = .returned v ∧ w'.ownsRow w.heap.size 120 2 v part.length (spv part) ∧ Ls w' lb R.m X' ∧ But lb w w' ∧ Dfs E T (met ++ part) [] (a_lf R.m X') ∧ (s, p) ∈ part ∧ ∀ z, z ∈ part → Rt E T (s, p) z := by
 have hG := h.g
 have hm60 := h.m60
 have hv' := hT (s, p) ((hD.part _).2 (Or.inr (Or.inr hv)))
 have hvs : s < 2048 := by have := hv'.1; dsimp only at this; omega
 have hvp : p < R.m := hv'.2
 have H0 := hid h
 have HAP := hid hap
 have HE := hid hE
 have HT := hid hT
 have HD0 := hid hD
 have HV := hid hv
 have HLB := hid hlb
 -- the spot's box, and the first one taken away
 obtain ⟨W0, hW0, hb0, hs0, r0, r1⟩ : ∃ W0, w.alloc (.cells #[.int .i64 (s : Nat), .int .i64 (p : Nat)] 120) = W0 ∧ Below w.heap.size w W0 ∧ W0.heap.size = w.heap.size + 1 ∧ W0.cell? ⟨w.heap.size, 0, none⟩ = some (.int .i64 (s : Nat)) ∧ W0.cell? ⟨w.heap.size, 1, none⟩ = some (.int .i64 (p : Nat)) :=
  ⟨_, rfl, box_below _ _, by simp, cell_of_alloc rfl, cell_of_alloc rfl⟩
 have hW1 : Wm w W0.drew lb R.m X (.slice none 0 0) [] (.slice none 0 0) [] := by
  have hb := hb0.drew
  exact ⟨But.of_below hb, hl.below' hb, World.ownsRow_nil _ _ _ _, World.ownsRow_nil _ _ _ _, fun b hb => by simp [Value.ownBlock] at hb, hlb⟩
 have C0 := hid (del_any lb (p * 32) (X p) s _ hvs (hW1.left p hvp))
 have HW1 := hid (hW1.del hvs hvp)
 clear h hl hlb hap hE hT hD hv hW1 hv'
 obtain ⟨i0, hi, hz0, hz1, hz2⟩ := info_parts Tryz.info120
 have HI : Hid (Tryz.prog.info? 120 = some i0 ∧ i0.zero = some (.agg #[.int .i64 0, .int .i64 0]) ∧ i0.size = 2 ∧ i0.bytes = 16) := ⟨hi, hz0, hz1, hz2⟩
 clear hi hz0 hz1 hz2
 obtain ⟨nb, G, c1, pb, c2, tb, m, c3, fb, K, c4, N, P, T', F⟩ := R
 dsimp only [Rx.val] at *
 go_enter Tryz.func75, Tryz.ntmps75
 go_wp2
 clear hW0
 have hne : lb ≠ w.heap.size := by have := HLB.out; omega
 go_region_held3 (fun z => z.cell? ⟨w.heap.size, 0, none⟩ = some (.int .i64 (s : Nat)) ∧ z.cell? ⟨w.heap.size, 1, none⟩ = some (.int .i64 (p : Nat))) (first | go_keep) (first | (go_at_call 105; refine C0.out.mono ?_; rintro e w1 ⟨⟨v0, rfl⟩, rfl⟩) | fail)
 have HW1' := hid (HW1.out.below ((Sm.refl _).drew.below _))
 have q0 : (W0.drew.setCell ⟨lb, p * 32 + s / 64, none⟩ (.int .u64 (sdel (X p) s (s / 64) : Nat))).drew.cell? ⟨w.heap.size, 0, none⟩ = some (.int .i64 (s : Nat)) := by simp [World.cell?_setCell_far, r0, hne]
 have q1 : (W0.drew.setCell ⟨lb, p * 32 + s / 64, none⟩ (.int .u64 (sdel (X p) s (s / 64) : Nat))).drew.cell? ⟨w.heap.size, 1, none⟩ = some (.int .i64 (p : Nat)) := by simp [World.cell?_setCell_far, r1, hne]
 clear HW1 C0 r0 r1 hb0 hs0 hne
 rw [show (W0.setCell ⟨lb, p * 32 + s / 64, none⟩ (.int .u64 (sdel (X p) s (s / 64) : Nat))).drew.drew = (W0.drew.setCell ⟨lb, p * 32 + s / 64, none⟩ (.int .u64 (sdel (X p) s (s / 64) : Nat))).drew from rfl]
 generalize (W0.drew.setCell ⟨lb, p * 32 + s / 64, none⟩ (.int .u64 (sdel (X p) s (s / 64) : Nat))).drew = w1 at *
 go_wp2
 clear q0 q1
 go_loopw [7, 8] (fun dv pv wr => ∃ (D P : List (Nat × Nat)) (X' : Nat → Nat → Nat), Hid (Wm w wr lb m X' dv D pv P ∧ Dfs E T (met ++ D) P (a_lf m X') ∧ (s, p) ∈ D ++ P ∧ ∀ z, z ∈ D ++ P → Rt E T (s, p) z)) (fun dv pv _ => 2 * (122880 - (lenV dv + lenV pv)) + lenV pv)
 case atStart =>
  refine ⟨[], [(s, p)], at1 X p (sdel (X p) s), hid ⟨?_, ?_, by simp, fun z hz => ?_⟩⟩
  ·have h1 := HW1'.out.below (box_below w1 (.cells #[.int .i64 (s : Nat), .int .i64 (p : Nat)] 120))
   refine ⟨h1.but, h1.left, h1.od, ⟨rfl, Or.inr ⟨w1.heap.size, 1, _, rfl, HW1'.out.but.size, Go.Deep.blk_alloc_new _ _, Nat.le_refl _, by unfold maxLen; omega, rfl, rfl⟩⟩, fun b hb => by simp [Value.ownBlock] at hb, h1.lb⟩
  ·rw [List.append_nil]
   exact HD0.out.start HV.out (fun x => lf_del x)
  ·have : z = (s, p) := by simpa using hz
   rw [this]
   exact Rt.refl
 case round =>
  rename_i dv pv
  obtain ⟨D, P', X', H⟩ := hrel
  rcases List.eq_nil_or_concat P' with hP | ⟨P0, t, hP⟩
  ·subst hP
   obtain ⟨pa, pc, rfl, _⟩ := owns_sp H.out.1.op
   go_wp2
   go_ret
   obtain ⟨h1, h2, h3, h4⟩ := H.out
   rw [List.append_nil] at h3
   exact ⟨_, D, X', rfl, h1.od, h1.left, h1.but, h2, h3, fun z hz => h4 z (by simpa using hz)⟩
  ·rw [List.concat_eq_append] at hP
   subst hP
   obtain ⟨ts, tp⟩ := t
   have hop := H.out.1.op
   have e1 : (P0 ++ [(ts, tp)]).length = P0.length + 1 := by simp
   rw [e1] at hop
   obtain ⟨g, cap, rfl⟩ := owns_some hop
   have hcap := (owns_cap hop).1
   have hcap2 : cap ≤ 9223372036854775807 := by have := (owns_cap hop).2; unfold maxLen at this; omega
   obtain ⟨pa, pc, hpe, ⟨gb, hga, hgc⟩, _⟩ := owns_sp H.out.1.op
   rw [e1] at hpe hga hgc
   rw [Value.slice.injEq] at hpe
   have hgb := hga (by omega)
   rw [← hpe.1, Option.some.injEq, Addr.mk.injEq] at hgb
   obtain ⟨y1, y2⟩ := hgc P0.length (by omega)
   rw [← hgb.1] at y1 y2
   have e2 : (P0 ++ [(ts, tp)]).getD P0.length (0, 0) = (ts, tp) := by simp
   dsimp only at y1 y2
   rw [e2] at y1 y2
   dsimp only at y1 y2
   have hT1 := HT.out (ts, tp) ((H.out.2.1.part _).2 (Or.inr (Or.inl (by simp))))
   obtain ⟨hts, htp⟩ := hT1
   dsimp only at hts htp
   have hlen := dfs_len H.out.2.1 HT.out hG hm60
   rw [e1] at hlen
   have hDl := owns_len H.out.1.od
   clear hop hpe hga hgc hgb e1 e2
   generalize hPl : P0.length = pl at *
   have HPL := hid hPl
   clear hPl
   go_wp2_with fail
   obtain ⟨W2, hW2, hb2, hs2, r0, r1⟩ : ∃ W2, wr.alloc (.cells #[.int .i64 (ts : Nat), .int .i64 (tp : Nat)] 120) = W2 ∧ Below wr.heap.size wr W2 ∧ W2.heap.size = wr.heap.size + 1 ∧ W2.cell? ⟨wr.heap.size, 0, none⟩ = some (.int .i64 (ts : Nat)) ∧ W2.cell? ⟨wr.heap.size, 1, none⟩ = some (.int .i64 (tp : Nat)) :=
    ⟨_, rfl, box_below _ _, by simp, cell_of_alloc rfl, cell_of_alloc rfl⟩
   rw [hW2]
   clear hW2 y1 y2
   have hm2 := H.out.1.below hb2
   have hR2 : Rw W2 ⟨nb, G, c1, pb, c2, tb, m, c3, fb, K, c4, N, P, T', F⟩ := by
    have hb3 := hm2.but
    have ha := HAP.out
    have h0 := H0.out
    have hblk := h0.blk
    exact ⟨h0.next.but hb3 (Ne.symm ha.1), h0.prev.but hb3 (Ne.symm ha.2.1), h0.fits.but hb3 (Ne.symm ha.2.2.1), h0.fair.but hb3 (Ne.symm ha.2.2.2.1), h0.g, h0.m, h0.m60, h0.k80, fun j hj => hb3.cell (Ne.symm ha.2.2.2.2) (h0.tb j hj), by have := hb3.size; dsimp only at hblk ⊢; omega⟩
   refine (backward_any ⟨nb, G, c1, pb, c2, tb, m, c3, fb, K, c4, N, P, T', F⟩ ts tp W2 hR2 hts htp).mono ?_
   rintro e w3 ⟨rfl, hb3⟩
   dsimp only
   have hm3 := hm2.below hb3
   have hR3 := hR2.below hb3
   have g0 := below_cell hb3 jq0 r0
   have g1 := below_cell hb3 jq0 r1
   have hs3 := hb3.size
   obtain ⟨np, hnp, hnm⟩ : ∃ np, (tp + m - 1) % m = np ∧ np < m := ⟨_, rfl, Nat.mod_lt _ H0.out.m⟩
   rw [hnp]
   have C := hid (firstOf_any pb (ts * 32) lb (np * 32) (P ts) (X' np) w3 (hR3.prev ts hts) (hm3.left np hnm) hR3.tb)
   have HNP := hid hnp
   have HM3 := hid hm3
   clear hm2 hR2 hm3 hR3 r0 r1 hb2 hb3 hnp hs2 hs3
   go_wp2_with fail
   refine C.out.mono ?_
   rintro e w4 ⟨⟨r, rfl, hr⟩, hsm⟩
   have f0 := (hsm.cell ⟨wr.heap.size, 0, none⟩).trans g0
   have f1 := (hsm.cell ⟨wr.heap.size, 1, none⟩).trans g1
   have HM4 := hid (HM3.out.below (hsm.below _))
   clear g0 g1 hsm HM3
   rcases hr with ⟨u, hu, rfl, hu1, hu2⟩ | ⟨rfl, hno⟩
   ·have hune : ((u : Int) == -1) = false := beq_eq_false_iff_ne.2 (by omega)
    have C2 := hid (del_any lb (np * 32) (X' np) u w4 hu (HM4.out.left np hnm))
    have HU := hid (And.intro hu1 hu2)
    clear hu1 hu2
    go_wp2_with fail
    refine C2.out.mono ?_
    rintro e w5 ⟨⟨v5, rfl⟩, rfl⟩
    have HM5 := hid ((HM4.out.del hu hnm).below ((Sm.refl _).drew.below _))
    generalize ((w4.setCell ⟨lb, np * 32 + u / 64, none⟩ (.int .u64 (sdel (X' np) u (u / 64) : Nat))).drew) = w6 at *
    have hsz6 : w.heap.size ≤ w6.heap.size := HM5.out.but.size
    have hown6 := HM5.out.op
    have e1 : (P0 ++ [(ts, tp)]).length = pl + 1 := by rw [← HPL.out]; simp
    have HO := hid (by rw [e1] at hown6; exact hown6 : w6.ownsRow w.heap.size 120 2 (.slice (some ⟨g, 0, none⟩) (pl + 1) cap) (pl + 1) (spv (P0 ++ [(ts, tp)])))
    clear hown6 e1 f0 f1
    go_wp2_with (at_builtin; refine wpList_append_own_at _ rfl _ _ 116 rfl w.heap.size 120 i0 _ 2 16 Tryz.underlying116 HI.out.1 HI.out.2.1 HI.out.2.2.1 HI.out.2.2.2 rfl (by decide) _ _ _ rfl (HO.out.alloc _) ⟨w6.heap.size, 0, none⟩ 1 1 [.int .i64 (u : Nat), .int .i64 (np : Nat)] rfl rfl (World.news_of_block (cs := #[.int .i64 (u : Nat), .int .i64 (np : Nat)]) (t := 120) (fr := (0, 0)) (Go.Deep.blk_alloc_new w6 _)) (spv_one [(u, np)]) (by unfold maxLen; omega) (by omega) (by simp; omega) ?_; intro pv' w7 hown' hgrow hnil hloc; have G7 := hid (HM5.out.swap.grow (q := (u, np)) (by rw [show (P0 ++ [(ts, tp)]).length + 1 = pl + 1 + 1 by rw [← HPL.out]; simp]; exact hown') hgrow hloc).swap; have hpl7 := owns_len hown'; clear hown' hgrow hnil hloc)
    have hTt : T (ts, tp) := (H.out.2.1.part _).2 (Or.inr (Or.inl (by simp)))
    have hLu : a_lf m X' (u, np) := ⟨hnm, hu, HU.out.2⟩
    have hTu : T (u, np) := (H.out.2.1.part _).2 (Or.inr (Or.inr hLu))
    have hEt : E (ts, tp) (u, np) := (HE.out _ _ hTt hTu).2 ⟨HU.out.1, HNP.out.symm⟩
    have hDP := H.out.2.1.push hEt hLu (L' := a_lf m (at1 X' np (sdel (X' np) u))) (fun x => lf_del x)
    have hlen2 := dfs_len hDP HT.out hG hm60
    rw [show (P0 ++ [(ts, tp)] ++ [(u, np)]).length = pl + 1 + 1 by rw [← HPL.out]; simp] at hlen2
    go_roundw
    case rel =>
     refine ⟨D, P0 ++ [(ts, tp)] ++ [(u, np)], at1 X' np (sdel (X' np) u), hid ⟨G7.out, hDP, ?_, fun z hz => ?_⟩⟩
     ·rw [← List.append_assoc]
      exact List.mem_append.2 (Or.inl H.out.2.2.1)
     ·rw [← List.append_assoc] at hz
      rcases List.mem_append.1 hz with hz | hz
      ·exact H.out.2.2.2 z hz
      ·have : z = (u, np) := by simpa using hz
       rw [this]
       exact (H.out.2.2.2 (ts, tp) (by simp)).tail hEt hTu
    case measure =>
     rw [hpl7, hDl]
     simp only [lenV]
     omega
   ·have hsz4 : w.heap.size ≤ w4.heap.size := HM4.out.but.size
    have HNO := hid hno
    clear hno
    go_wp2_with (at_builtin; refine wpList_append_own_at _ rfl _ _ 116 rfl w.heap.size 120 i0 _ 2 16 Tryz.underlying116 HI.out.1 HI.out.2.1 HI.out.2.2.1 HI.out.2.2.2 rfl (by decide) _ _ _ rfl (HM4.out.od.alloc _) ⟨w4.heap.size, 0, none⟩ 1 1 [.int .i64 (ts : Nat), .int .i64 (tp : Nat)] rfl rfl (World.news_of_block (cs := #[.int .i64 (ts : Nat), .int .i64 (tp : Nat)]) (t := 120) (fr := (0, 0)) (Go.Deep.blk_alloc_new w4 _)) (spv_one [(ts, tp)]) (by unfold maxLen; omega) (by omega) (by simp; omega) ?_; intro dv' w7 hown' hgrow hnil hloc; have G7 := hid (HM4.out.grow (q := (ts, tp)) hown' hgrow hloc); have hdl7 := owns_len hown'; clear hown' hgrow hnil hloc)
    go_roundw
    case rel =>
     have hpl := HPL.out
     subst hpl
     have hTt : T (ts, tp) := (H.out.2.1.part _).2 (Or.inr (Or.inl (by simp)))
     refine ⟨D ++ [(ts, tp)], P0, X', hid ⟨G7.out.popP, ?_, ?_, fun z hz => ?_⟩⟩
     ·rw [← List.append_assoc]
      refine H.out.2.1.pop (fun v hv hLv => ?_)
      have hTv : T v := (H.out.2.1.part _).2 (Or.inr (Or.inr hLv))
      obtain ⟨h1, h2⟩ := (HE.out _ _ hTt hTv).1 hv
      dsimp only at h1 h2
      rw [HNP.out] at h2
      have h3 := HNO.out v.1 hLv.2.1 h1
      have h4 := hLv.2.2
      rw [h2, h3] at h4
      cases h4
     ·have := H.out.2.2.1
      rw [List.append_assoc]
      exact (List.Perm.mem_iff (List.Perm.append_left _ List.perm_append_comm)).1 this
     ·rw [List.append_assoc] at hz
      exact H.out.2.2.2 z ((List.Perm.mem_iff (List.Perm.append_left _ List.perm_append_comm)).1 hz)
    case measure =>
     rw [hdl7, hDl]
     simp only [lenV]
     omega
end Go.Proofs.YtmdpbaobihdgkaaGreatDoor
namespace Go.Proofs.YtmdpbaobihdgkaaGreatDoor
open Go.RowKit Go.Shelf
def lsv (X : Nat → Nat → Nat) : Nat → List Value
 | 0 => []
 | n + 1 => lsv X n ++ (cellsS (X n)).toList
theorem lsv_len (X : Nat → Nat → Nat) : ∀ n, (lsv X n).length = n * 32
 | 0 => rfl
 | n + 1 => by rw [lsv, List.length_append, lsv_len X n]; simp [cellsS_size]; omega
theorem lsv_at (X : Nat → Nat → Nat) (i j : Nat) (hj : j < 32) : ∀ n, i < n → (lsv X n)[i * 32 + j]? = some (.int .u64 (X i j : Nat))
 | 0, h => by omega
 | n + 1, h => by
  rw [lsv]
  by_cases e : i = n
  ·subst e
   rw [List.getElem?_append_right (by rw [lsv_len]; omega), lsv_len, show i * 32 + j - i * 32 = j by omega]
   simpa using cellsS_at (X i) j hj
  ·rw [List.getElem?_append_left (by rw [lsv_len]; omega)]
   exact lsv_at X i j hj n (by omega)
theorem lsv_one (X : Nat → Nat → Nat) : ∀ n, ∀ u ∈ lsv X n, u.oneCell' = true
 | 0, u, h => by simp [lsv] at h
 | n + 1, u, h => by
  rw [lsv] at h
  rcases List.mem_append.1 h with h | h
  ·exact lsv_one X n u h
  ·exact (Array.all_eq_true_iff_forall_mem.1 (cellsS_one (X n))) u (by simpa using h)
theorem ls_news {w : World} {b n : Nat} {X : Nat → Nat → Nat} (h : Ls w b n X) : ∀ j u, (lsv X n)[j]? = some u → w.cell? ((⟨b, 0, none⟩ : Addr).add j) = some u := by
 intro j u hu
 have hj : j < n * 32 := by
  have := (List.getElem?_eq_some_iff.1 hu).1
  rwa [lsv_len] at this
 have e : j = j / 32 * 32 + j % 32 := by omega
 have h1 := lsv_at X (j / 32) (j % 32) (by omega) n (by omega)
 rw [← e, hu] at h1
 rw [Addr.add_mid, Nat.zero_add, h1]
 have h2 := (h (j / 32) (by omega)).cell (j % 32) (by omega)
 rw [← e] at h2
 exact h2
theorem owns_ls {w : World} {base : Nat} {v : Value} {n : Nat} {X : Nat → Nat → Nat} (hX : ∀ i, i < n → ∀ j, j < 32 → X i j < 18446744073709551616) (hn : 0 < n) (h : w.ownsRow base 69 32 v n (lsv X n)) :
  ∃ g c, v = .slice (some ⟨g, 0, none⟩) n c ∧ base ≤ g ∧ g < w.heap.size ∧ Ls w g n X := by
 rcases h.2 with ⟨_, h0⟩ | ⟨g, cap, cur, rfl, hb, hg, _⟩
 ·omega
 ·refine ⟨g, cap, rfl, hb, (jq4.1 hg).1, fun i hi => ⟨fun j hj => ?_, fun j hj => by unfold World.frozen?; rw [hg]; simp, hX i hi⟩⟩
  have := h.cells (g := g) rfl _ _ (lsv_at X i j hj n hi)
  rw [Addr.add_mid, Nat.zero_add] at this
  exact this
theorem zS_size : (Value.agg (cellsS (fun _ => 0))).cells.size = 32 := cellsS_size _
set_option maxHeartbeats 1000000 in
theorem cloneS_any (tb m c : Nat) (T : Nat → Nat → Nat) (w : World) (hm : 0 < m) (hm60 : m ≤ 60) (h : Ls w tb m T) :
  Calls Tryz.prog 73 #[.slice (some ⟨tb, 0, none⟩) m c] w fun e w' => (∃ lb lc, e = .returned (.slice (some ⟨lb, 0, none⟩) m lc) ∧ w.heap.size ≤ lb ∧ lb < w'.heap.size ∧ Ls w' lb m T) ∧ Below w.heap.size w w' := by
 have H := hid h
 have HX : Hid (∀ i, i < m → ∀ j, j < 32 → T i j < 18446744073709551616) := hid (fun i hi => (h i hi).small)
 clear h
 obtain ⟨i0, hi, hz0, hz1, hz2⟩ := info_parts Tryz.infoS
 have HI : Hid (Tryz.prog.info? 69 = some i0 ∧ i0.zero = some (.agg (cellsS (fun _ => 0))) ∧ i0.size = 32 ∧ i0.bytes = 256) := ⟨hi, hz0, hz1, hz2⟩
 clear hi hz0 hz1 hz2
 have HO : Hid ((w.alloc (.cells #[] 69)).ownsRow w.heap.size 69 32 (.slice (some ⟨w.heap.size, 0, none⟩) 0 0) 0 []) :=
  hid ⟨rfl, Or.inr ⟨w.heap.size, 0, #[], rfl, Nat.le_refl _, Go.Deep.blk_alloc_new _ _, Nat.le_refl _, by unfold maxLen; omega, rfl, rfl⟩⟩
 have hq := fun w' => Go.Lib.run_eql_slice_nil (P := Tryz.prog) w' 64 69 (some ⟨tb, 0, none⟩) m c 0 0 Tryz.underlying64
 go_enter Tryz.func73, Tryz.ntmps73
 go_wp2_with (at_builtin; refine wpList_append_own_at _ rfl _ _ 64 rfl w.heap.size 69 i0 _ 32 256 Tryz.underlying64 HI.out.1 HI.out.2.1 HI.out.2.2.1 HI.out.2.2.2 zS_size (by decide) _ _ _ rfl HO.out ⟨tb, 0, none⟩ m c (lsv T m) rfl (lsv_len T m) (ls_news (H.out.below' (box_below _ _))) (lsv_one T m) (by unfold maxLen; omega) (by omega) (by simp) ?_; intro v' w2 hown' hgrow hnil hloc; have G := hid (And.intro hown' hgrow); clear hown' hgrow hnil hloc)
 go_ret
 obtain ⟨h1, h2⟩ := G.out
 rw [List.nil_append, Nat.zero_add] at h1
 obtain ⟨g, cc, rfl, hg1, hg2, hls⟩ := owns_ls HX.out hm h1
 exact ⟨⟨g, cc, rfl, hg1, hg2, hls⟩, (box_below w (.cells #[] 69)).grown h2 (by simp) (fun k hk => by cases hk; exact Nat.le_refl _)⟩
theorem clear_run {w : World} {b n c : Nat} {X : Nat → Nat → Nat} (hn : 0 < n) (h : Ls w b n X) : ∃ w', (∀ ty, (Builtin.clear_ #[64] ty #[.slice (some ⟨b, 0, none⟩) n c]).run Tryz.prog w = .ok (.tuple #[]) w') ∧ But b w w' ∧ w'.heap.size = w.heap.size ∧ Ls w' b n (fun _ _ => 0) := by
 obtain ⟨i0, hi, hz0, hz1, hz2⟩ := info_parts Tryz.infoS
 have hv : ∀ u, (zeroValue 69).run Tryz.prog u = .ok (.agg (cellsS (fun _ => 0))) u := fun u => by simp [zeroValue, typeInfo, hi, hz0]
 have hzl : (Builtin.zeroCells (cellsS (fun _ => 0)) n).toList = lsv (fun _ _ => 0) n := by
  apply List.ext_getElem?
  intro k
  by_cases hk : k < n * 32
  ·have e : k = k / 32 * 32 + k % 32 := by omega
   have h1 := lsv_at (fun _ _ => 0) (k / 32) (k % 32) (by omega) n (by omega)
   rw [← e] at h1
   rw [h1]
   have h3 := cellsS_at (fun _ => 0) (k % 32) (by omega)
   simp only [Builtin.zeroCells, Array.getElem?_toList, Array.getElem?_map, Array.getElem?_range, cellsS_size]
   rw [if_pos (by omega)]
   simp only [Option.map_some, getElem!_def, h3]
  ·rw [List.getElem?_eq_none (by simp [Builtin.zeroCells, cellsS_size]; omega), List.getElem?_eq_none (by rw [lsv_len]; omega)]
 have hst := run_storeCells_cells (P := Tryz.prog) b 0 (lsv (fun _ _ => 0) n) 0 w (fun j hj => by
   rw [lsv_len] at hj
   have h2 := (h (j / 32) (by omega)).cell (j % 32) (by omega)
   rw [show j / 32 * 32 + j % 32 = j by omega] at h2
   rw [Nat.add_zero, Nat.zero_add, h2]; rfl) (fun j hj => by
   rw [lsv_len] at hj
   have h2 := (h (j / 32) (by omega)).free (j % 32) (by omega)
   rw [show j / 32 * 32 + j % 32 = j by omega] at h2
   rw [Nat.add_zero, Nat.zero_add, h2]) (lsv_one _ n)
 obtain ⟨k, rfl⟩ : ∃ k, n = k + 1 := ⟨n - 1, by omega⟩
 refine ⟨w.setCells b 0 (lsv (fun _ _ => 0) (k + 1)), fun ty => ?_, (setCells_but b _ _ _).1, (setCells_but b _ _ _).2, fun i hi => ⟨fun j hj => ?_, fun j hj => ?_, fun _ _ => (by decide : 0 < 18446744073709551616)⟩⟩
 ·simp only [Nat.add_zero] at hst
  simp [Builtin.clear_, run_underlying Tryz.underlying64, hv, Value.cells, hzl, hst]
 ·have ht : w.there b 0 (lsv (fun _ _ => 0) (k + 1)).length := fun j hj => by
   rw [lsv_len] at hj
   have h2 := (h (j / 32) (by omega)).cell (j % 32) (by omega)
   have h3 := (h (j / 32) (by omega)).free (j % 32) (by omega)
   rw [show j / 32 * 32 + j % 32 = j by omega] at h2 h3
   rw [Nat.zero_add, h2, h3]; exact ⟨rfl, rfl⟩
  have := World.rangeAt_setCells_same w b 0 _ ht (i * 32 + j) _ (lsv_at (fun _ _ => 0) i j hj (k + 1) hi)
  rw [Nat.zero_add] at this
  exact this
 ·rw [World.frozen?_setCells]; exact (h i hi).free j hj
section
variable {P : Program} {ops : Array Oper} {Q : Exit → Act → World → Prop} {md : Region.Mode}
theorem rows_in (l n : Nat) {row : String} {args : Array Value} {w : World} {R : Value → World → Prop} (h : Rows P row args w R) : RowsIn (Fence.wide.inRound l) n P row args w R :=
 fun c cs _ => let ⟨v, w', r, s⟩ := h c cs; ⟨v, w', r, stepsIn_wide.2 s⟩
def noDef (o : Oper) : Bool := match o.op with | .defer _ => false | _ => true
theorem noDef_spec {o : Oper} (h : noDef o = true) : ∀ c, o.op ≠ .defer c := fun c e => by
 unfold noDef at h
 rw [e] at h
 cases h
theorem op_in (l n : Nat) {o : Oper} {a : Act} {w : World} {K : Act → World → Prop} (hd : ∀ c, o.op ≠ .defer c) (h : o.wp P a w K Q) : o.wpIn (Fence.wide.inRound l) n P a w K Q := by
 unfold Oper.wp at h
 unfold Oper.wpIn
 refine ⟨fun _ _ => trivial, ?_⟩
 rw [Oper.semAt_eq _ _ _ hd]
 generalize hr : (execOp a.eval o).run P w = r at *
 cases r with
 | ok x w' =>
  cases x with
  | enter f args =>
   rw [Oper.uponIn_enter]
   rw [Oper.upon_enter] at h
   exact ⟨fun hh => by simp [Fence.wide, Fence.inRound] at hh, CallsIn.inRound l (callsIn_wide.2 h)⟩
  | row r args =>
   rw [Oper.uponIn_row]
   rw [Oper.upon_row] at h
   exact ⟨fun hh => by simp [Fence.wide, Fence.inRound] at hh, rows_in l _ h⟩
  | _ => first | exact h | exact h.elim
 | halt x w' => cases x <;> first | exact h | exact h.elim
theorem any_in (l n : Nat) (hQ : ¬ LetsOut Q) (hok : ops.all noDef = true) : ∀ (fuel : Nat) (listed : Array Bool) (a : Act) (w : World), wpAny P md ops Q fuel listed a w → wpAnyIn (Fence.wide.inRound l) n P md ops Q fuel listed a w
 | 0, _, _, _, h => h
 | fuel + 1, listed, a, w, h => by
  refine ⟨h.1, fun i hi => ?_⟩
  have h1 := h.2 i hi
  unfold wpOp at h1
  unfold wpOpIn
  split
  ·rename_i ho
   simp only [ho] at h1
   exact any_in l n hQ hok fuel _ _ _ h1
  ·rename_i o ho
   simp only [ho] at h1
   split
   ·rename_i hw
    rw [if_pos hw] at h1
    rcases h1 with h1 | h1
    ·have hd : noDef o = true := by
      obtain ⟨hlt, he⟩ := jq4.1 ho
      have := Array.all_eq_true_iff_forall_mem.1 hok o (by rw [← he]; exact Array.getElem_mem _)
      exact this
     have h2 := op_in l n (noDef_spec hd) h1
     exact Oper.wpIn_mono (fun a w h => any_in l n hQ hok fuel _ a w h) h2
    ·exact absurd h1.2 hQ
   ·rename_i hw
    rw [if_neg hw] at h1
    exact ⟨fun _ _ => trivial, any_in l n hQ hok fuel _ _ _ h1⟩
theorem G_skip {S : World → Prop} {ex : Nat → Bool} {i : Nat} {oi : Oper} {f : Nat} {listed : Array Bool} {a : Act} {w : World} (hi : ops[i]? = some oi)
  (hs : Region.noSelect ops = true) (hf : Region.free md ops listed i = true) (hr : (Region.ready md ops listed).contains i = true) (hx : exB md ops ex i = true)
  (hQ : ∀ c a w, Q (.panic c) (a.put oi.dst undef) w → Q (.panic c) a w) (hw : Region.wanted oi (yielded ops a.tmps) = false) (hS : S w)
  (h : wpAnyG P md ops Q S ex f (listed.setIfInBounds i true) (a.put oi.dst undef) w) : wpAnyG P md ops Q S ex (f + 1) listed a w :=
 G_first hi (Region.noSelect_spec hs) hQ (exB_spec hx) f listed a w (Region.free_spec hi hf) (by simpa using hr) (Or.inr ⟨hw, rfl⟩) hS h
theorem G_round {id l n : Nat} {a : Act} {w : World} (S : World → Prop) (ex : Nat → Bool) (hm : P.follows .mixedOrders = true) (hQ : ¬ LetsOut Q) (hok : ops.all noDef = true) (hS : S w.drew)
  (h : S w.drew → wpAnyG P .any ops Q S ex ops.size (Array.replicate ops.size false) a w.drew) : (Code.region id ops true).wpIn (Fence.wide.inRound l) n P Q a w :=
 wpIn_region_any hm (any_in l n hQ hok _ _ _ _ (any_of_G _ _ _ _ (h hS)))
end
end Go.Proofs.YtmdpbaobihdgkaaGreatDoor
