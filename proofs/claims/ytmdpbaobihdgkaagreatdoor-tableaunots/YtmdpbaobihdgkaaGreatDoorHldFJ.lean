/- Holds of a formula and a word.    -/
import Derived.Test.YtmdpbaobihdgkaaGreatDoorTmk
import Derived.Laws.OwnMore
/- tableau: what the laws' own calls find. -/
/- The law TableauMeans, walked. -/
/- The law AutoOne. -/
namespace Go.Proofs.YtmdpbaobihdgkaaGreatDoor
open Go.RowKit
structure Fw (w : World) (t : Fml) (a : Option Addr) (sa : Option Addr) (s sc : Nat) (la : Option Addr) (m lc : Nat) (S L : Nat → Int) : Prop where
 kc : kcAt w
 kds : Kds w t a
 cnt : t.cnt ≤ 9223372036854775807
 wd : Wd w sa s la m S L
 sn : sa = none → s = 0 ∧ sc = 0
 ln : la = none → m = 0 ∧ lc = 0
theorem Fw.below {w w' : World} {t : Fml} {a : Option Addr} {sa : Option Addr} {s sc : Nat} {la : Option Addr} {m lc : Nat} {S L : Nat → Int} (h : Fw w t a sa s sc la m lc S L) (hb : Below w.heap.size w w') : Fw w' t a sa s sc la m lc S L :=
 ⟨h.kc.below hb h.kc.pos, h.kds.below hb, h.cnt, h.wd.below hb, h.sn, h.ln⟩
end Go.Proofs.YtmdpbaobihdgkaaGreatDoor
namespace Go.Proofs.YtmdpbaobihdgkaaGreatDoor
open Go.RowKit
theorem mkE_facts {t : Fml} (h : mkE t = 0) : (cgv t (pn t)).2 = 0 ∧ ¬ 10 < (els (pn t)).length := by
 unfold mkE at h
 by_cases h0 : (cgv t (pn t)).2 = 0
 ·rw [if_neg (fun q => q h0)] at h
  refine ⟨h0, fun h1 => ?_⟩
  rw [if_pos h1] at h
  cases h
 ·rw [if_pos h0] at h
  exact absurd h h0
theorem mkE_chk {t : Fml} (h : mkE t = 0) : (chk t 1 0).1 = 0 := by
 have h0 := (mkE_facts h).1
 by_cases h1 : (chk t 1 0).1 = 0
 ·exact h1
 ·rw [cgv_bad h1] at h0
  exact h0
theorem ltr_pos {w : World} {sa la : Option Addr} {s m : Nat} {S L : Nat → Int} (h : Wd w sa s la m S L) (hm : 0 < m) : ∀ i, 0 ≤ ltr s m S L i := fun i => by
 unfold ltr
 split
 ·rename_i hi; exact (h.su i hi).1
 ·exact (h.lu _ (Nat.mod_lt _ hm)).1
theorem mk_acc {t : Fml} {A : Ax} {s m : Nat} {S L : Nat → Int} (h0 : mkE t = 0) (hT : TbIs (els (pn t)) (pn t) A) (hL : ∀ i, 0 ≤ ltr s m S L i) : (autA A).Acc (ltr s m S L) ↔ hold (atm s m S L) t 0 := by
 have hf := mkE_facts h0
 obtain ⟨_, hw, h10, h11, _⟩ := pn_facts hf.1
 rw [tab_acc hL hw h10 h11 hT]
 exact pn_hold t (chk_wf t 1 0 (mkE_chk h0)).1 0
theorem trs_rng {F : Nat → Bool} {N i : Nat} (h : i < (trs F N).length) : 0 ≤ (trs F N).getD i 0 ∧ (trs F N).getD i 0 < N := by
 have hm : (trs F N).getD i 0 ∈ trs F N := by rw [List.getD_eq_getElem?_getD, List.getElem?_eq_getElem h]; exact List.getElem_mem _
 obtain ⟨s, h1, h2, _⟩ := (trs_mem _ _ _).1 hm
 omega
theorem tab_chk {E : List Fml} {p : Fml} {A : Ax} (h : TbIs E p A) (hE : E.length ≤ 10) : chkA A = 0 := by
 have hG : A.G ≤ 1024 := by rw [h.G]; exact Nat.le_trans (Nat.pow_le_pow_right (by decide) hE) (by decide)
 have hK : A.K ≤ 10 := by rw [h.K]; exact Nat.le_trans (frT_len E) hE
 have hGz : (A.G : Int) = ((2 ^ E.length : Nat) : Int) := by rw [h.G]
 have a1 : allIn A.sn A.S A.G = true := allIn_yes (fun i hi => by
  rw [h.S i hi, hGz]
  exact trs_rng (by rw [← h.sn]; exact hi))
 have a2 : okL A.G A.L A.Z A.G = true := okL_yes (fun r hr => allIn_yes (fun i hi => by
  rw [h.Z r hr i hi, hGz]
  exact trs_rng (by rw [h.L r hr] at hi; exact hi)))
 have a3 : okL A.K A.FL A.FZ A.G = true := okL_yes (fun r hr => allIn_yes (fun i hi => by
  rw [h.FZ r hr i hi, hGz]
  exact trs_rng (by rw [h.FL r hr] at hi; exact hi)))
 unfold chkA
 rw [if_neg (by omega), if_neg (by rw [h.M, h.O]; omega), if_pos ⟨a1, a2, a3⟩]
theorem mk_takes {t : Fml} {A : Ax} {s m : Nat} {S L : Nat → Int} {e : Ending} {w : World} {sa la : Option Addr} (h0 : mkE t = 0) (hT : TbIs (els (pn t)) (pn t) A) (hw : Wd w sa s la m S L) (h : AcIs A s m S L e) :
  ∃ b, e = .returned (.tuple #[.bool b, .int .i64 (wchk s m)]) ∧ (wchk s m ≠ 0 → b = false) ∧ (wchk s m = 0 → (b = true ↔ hold (atm s m S L) t 0)) := by
 have hc : chkA A = 0 := tab_chk hT (by have := (mkE_facts h0).2; omega)
 have he : erA A s m = wchk s m := by rw [erA, if_pos hc]
 obtain ⟨b, h1, h2, h3⟩ := h
 rw [he] at h1 h2 h3
 exact ⟨b, h1, h2, fun q => (h3 q).trans (mk_acc h0 hT (ltr_pos hw (wchk_ok q).2))⟩
theorem wf_on {k : Int} {t : Fml} (hk : k = 4 ∨ k = 7 ∨ k = 10 ∨ k = 11) (h : Wf t) : Wf (on k t) := by
 refine Wf.mk ⟨fit_mk ?_ (fun e => ?_) (fun _ => rfl), fun i hi => ?_⟩
 ·show ((1 : Nat) : Int) = ar k
  rcases hk with rfl | rfl | rfl | rfl <;> decide
 ·have e' : k = 3 := e
  omega
 ·have hi1 : i < 1 := hi
  obtain rfl : i = 0 := by omega
  rw [on_kid]; exact h
def zF : Fml := on 11 (on 10 (nd 3 0))
def zP : Fml := tw 9 (nd 2 0) (tw 8 (nd 1 0) (nd 3 0))
theorem n30_wf : Wf (nd 3 0) := wf_nd (by decide)
theorem z10_wf : Wf (on 10 (nd 3 0)) := wf_on (by omega) n30_wf
theorem zF_wf : Wf zF := wf_on (by omega) z10_wf
theorem pn30 : pn (nd 3 0) = nd 3 0 := by
 rw [pn_eq n30_wf, pnF, if_neg (by decide), if_neg (by decide)]
 exact fml_ext rfl rfl rfl (fun i hi => absurd hi (Nat.not_lt_zero i))
theorem zF_pn : pn zF = zP := by
 have e1 : zF.kid 0 = on 10 (nd 3 0) := on_kid _ _
 have e2 : (on 10 (nd 3 0)).kid 0 = nd 3 0 := on_kid _ _
 rw [pn_eq zF_wf, pnF, if_neg (by decide), if_pos (show zF.kind = 11 from rfl), e1, pn_eq z10_wf, pnF, if_pos (show (on 10 (nd 3 0)).kind = 10 from rfl), e2, pn30]
 rfl
theorem zP_wf : Wf zP := by rw [← zF_pn]; exact pn_wf _ zF_wf
theorem sz_nd (k n : Int) : sz (nd k n) = 1 := by rw [sz_eq]; rfl
theorem dp_nd (k n : Int) : dp (nd k n) = 1 := by rw [dp_eq]; rfl
theorem sz_on (k : Int) (t : Fml) : sz (on k t) = 1 + sz t := by
 rw [sz_eq]
 show 1 + sumTo (fun i => sz ((on k t).kid i)) 1 = _
 simp [sumTo, on_kid]
theorem dp_on (k : Int) (t : Fml) : dp (on k t) = 1 + dp t := by
 rw [dp_eq]
 show 1 + maxTo (fun i => dp ((on k t).kid i)) 1 = _
 simp [maxTo, on_kid]
theorem sz_tw (k : Int) (t u : Fml) : sz (tw k t u) = 1 + (sz t + sz u) := by
 rw [sz_eq]
 show 1 + sumTo (fun i => sz ((tw k t u).kid i)) 2 = _
 simp [sumTo, tw_kid0, tw_kid1]
theorem dp_tw (k : Int) (t u : Fml) : dp (tw k t u) = 1 + max (dp t) (dp u) := by
 rw [dp_eq]
 show 1 + maxTo (fun i => dp ((tw k t u).kid i)) 2 = _
 simp [maxTo, tw_kid0, tw_kid1]
theorem zF_mk : mkE zF = 0 := by
 have c1 : (chk zF 1 0).1 = 0 := (chk_iff zF).2 ⟨zF_wf, by unfold zF; rw [sz_on, sz_on, sz_nd]; omega, by unfold zF; rw [dp_on, dp_on, dp_nd]; omega⟩
 have s2 : sz zP = 5 := by unfold zP; rw [sz_tw, sz_tw, sz_nd, sz_nd, sz_nd]
 have c2 : (chk (pn zF) 1 0).1 = 0 := by
  rw [zF_pn]
  exact (chk_iff zP).2 ⟨zP_wf, by omega, by unfold zP; rw [dp_tw, dp_tw, dp_nd, dp_nd, dp_nd]; omega⟩
 have hl : (els (pn zF)).length ≤ 5 := by
  rw [zF_pn]
  exact Nat.le_trans (els_len _) (by rw [pts_len, s2]; exact Nat.le_refl _)
 rw [mkE, cgv_ok c1 c2, if_neg (by simp), if_neg (by omega)]
theorem hold_n3 (A : Nat → Int → Bool) (n : Int) (j : Nat) : hold A (nd 3 n) j ↔ A j n = true := by
 rw [hold_eq]
 simp [holdF, nd]
theorem hold_o10 (A : Nat → Int → Bool) (f : Fml) (i : Nat) : hold A (on 10 f) i ↔ ∃ j, i ≤ j ∧ hold A f j := by
 have e := hold_red_on A 10 f
 rw [hold_eq]
 generalize (on 10 f).reds (fun _ => False) (holdF A) = r at e ⊢
 unfold holdF
 rw [e]
 simp [on]
theorem hold_o11 (A : Nat → Int → Bool) (f : Fml) (i : Nat) : hold A (on 11 f) i ↔ ∀ j, i ≤ j → hold A f j := by
 have e := hold_red_on A 11 f
 rw [hold_eq]
 generalize (on 11 f).reds (fun _ => False) (holdF A) = r at e ⊢
 unfold holdF
 rw [e]
 simp [on]
theorem zF_hold (A : Nat → Int → Bool) : hold A zF 0 ↔ ∀ i, ∃ j, i ≤ j ∧ A j 0 = true := by
 unfold zF
 rw [hold_o11]
 simp only [hold_o10, hold_n3]
 exact ⟨fun h i => h i (Nat.zero_le _), fun h i _ => h i⟩
def zL (x : Int) (i : Nat) : Int := if i = 1 then x else 0
theorem zw_at (x : Int) (S : Nat → Int) (i : Nat) : ltr 0 2 S (zL x) i = if i % 2 = 1 then x else 0 := by
 unfold ltr zL
 rw [if_neg (Nat.not_lt_zero i), Nat.sub_zero]
theorem zw_yes (S : Nat → Int) : hold (atm 0 2 S (zL 1)) zF 0 := by
 rw [zF_hold]
 intro i
 refine ⟨2 * i + 1, by omega, ?_⟩
 unfold atm
 rw [zw_at, if_pos (by omega)]
 decide
theorem zw_no (S : Nat → Int) : ¬ hold (atm 0 2 S (zL 2)) zF 0 := by
 rw [zF_hold]
 intro h
 obtain ⟨j, _, h⟩ := h 0
 unfold atm at h
 rw [zw_at] at h
 split at h <;> exact absurd h (by decide)
theorem zw_wd {w : World} {b : Nat} {x : Int} (h : w.heap[b]? = some (.cells #[.int .u64 0, .int .u64 x] 48 (0, 0))) (h0 : 0 ≤ x) (h1 : x < 18446744073709551616) : Wd w none 0 (some ⟨b, 0, none⟩) 2 (fun _ => 0) (zL x) := by
 refine ⟨⟨0, 0, fun q => absurd q (Nat.lt_irrefl 0), fun i hi => absurd hi (Nat.not_lt_zero i)⟩, ⟨b, 0, fun _ => rfl, fun i hi => ?_⟩, by decide, by decide, fun i hi => absurd hi (Nat.not_lt_zero i), fun i hi => ?_⟩
 ·have hi2 : i = 0 ∨ i = 1 := by omega
  rcases hi2 with rfl | rfl <;> exact cell_of_cells h rfl
 ·unfold zL
  split <;> omega
theorem tb_below {w w' : World} (h : Tb w) (hb : Below w.heap.size w w') : Tb w' := fun j hj => below_cell hb jq0 (h j hj)
set_option maxHeartbeats 2000000 in
theorem made6 {w : World} (hkc : kcAt w) (hT : Tb w) : Calls Tryz.prog 6 #[] w fun e w' => e = .returned (.bool true) ∧ Below w.heap.size w w' := by
 have HK := hid hkc
 have HT := hid hT
 have C14 := hid (atom_f 0 w)
 clear hkc hT
 go_enter Tryz.func6, Tryz.ntmps6
 go_wp2_with fail
 refine C14.out.mono ?_
 rintro e w1 ⟨a1, c1, rfl, hk1, hb1⟩
 have C10 := hid (one_f 10 (nd 3 0) a1 c1 w1 hk1 (Nat.zero_le _))
 have HB1 := hid hb1
 clear C14 hk1 hb1
 go_wp2_with fail
 refine C10.out.mono ?_
 rintro e w2 ⟨a2, c2, rfl, hk2, hb2⟩
 have C11 := hid (one_f 11 (on 10 (nd 3 0)) a2 c2 w2 hk2 (show 1 ≤ 9223372036854775807 by decide))
 have HB2 := hid (HB1.out.trans (hb2.mono HB1.out.size))
 clear C10 hk2 hb2
 go_wp2_with fail
 refine C11.out.mono ?_
 rintro e w3 ⟨a3, c3, rfl, hk3, hb3⟩
 have HB3 := hid (HB2.out.trans (hb3.mono HB2.out.size))
 have C7 := hid (make7 (t := zF) (cap := c3) (HK.out.below HB3.out HK.out.pos) hk3 (show 1 ≤ 9223372036854775807 by decide))
 clear C11 hk3 hb3
 go_wp2_with fail
 refine C7.out.mono ?_
 rintro e w4 ⟨A, rfl, hA, hb4, _, hTb⟩
 rw [zF_mk]
 have HTb := hid (hTb zF_mk)
 have HB4 := hid (HB3.out.trans (hb4.mono HB3.out.size))
 have HA4 := hid hA
 clear hTb hA hb4 C7
 simp only [Ax.val]
 obtain ⟨w5, hw5⟩ : ∃ y, y = w4.alloc (.cells #[.slice A.sa A.sn A.sc, .slice A.na A.G A.nc, .slice A.ma A.M A.mc, .slice A.oa A.O A.oc, .slice A.fa A.K A.fc] 32) := ⟨_, rfl⟩
 have hb5 : Below w4.heap.size w4 w5 := by rw [hw5]; exact box_below _ _
 have hc5 : w5.heap[w4.heap.size]? = some (.cells #[.slice A.sa A.sn A.sc, .slice A.na A.G A.nc, .slice A.ma A.M A.mc, .slice A.oa A.O A.oc, .slice A.fa A.K A.fc] 32) := by rw [hw5]; exact Go.Deep.blk_alloc_new _ _
 obtain ⟨w6, hw6⟩ : ∃ y, y = w5.alloc (.cells #[.int .u64 0, .int .u64 1] 48) := ⟨_, rfl⟩
 have hs5 : w5.heap.size = w4.heap.size + 1 := by rw [hw5]; simp
 obtain ⟨b6, hb6⟩ : ∃ q, q = w4.heap.size + 1 := ⟨_, rfl⟩
 have hbb : Below w5.heap.size w5 w6 := by rw [hw6]; exact box_below _ _
 have hd6 : w6.heap[b6]? = some (.cells #[.int .u64 0, .int .u64 1] 48 (0, 0)) := by rw [hw6, hb6, ← hs5]; exact Go.Deep.blk_alloc_new _ _
 have h46 := hb5.trans (hbb.mono hb5.size)
 have HB6 := hid (HB4.out.trans (h46.mono HB4.out.size))
 have HA6 := hid (HA4.out.below h46)
 have HD6 := hid (zw_wd hd6 (by decide) (by decide))
 have HC6 := hid ((hbb.block _ (jq4.1 hc5).1).trans hc5)
 have C9 := hid (accepts_any A none 0 0 (some ⟨b6, 0, none⟩) 2 2 (fun _ => 0) (zL 1) w6 HA6.out HD6.out (tb_below HT.out HB6.out))
 simp only [Ax.val] at C9
 have HW := hid (And.intro hw5 (And.intro hw6 hb6))
 clear hw5 hb5 hc5 hw6 hb6 hbb hd6 h46 hs5
 go_wp2_with fail
 rw [← HW.out.1, ← HW.out.2.1, ← HW.out.2.2]
 refine C9.out.mono ?_
 rintro e w7 ⟨hac, hb7⟩
 obtain ⟨x, rfl, _, hx⟩ := mk_takes zF_mk HTb.out HD6.out hac
 obtain rfl := (hx (by decide)).2 (zw_yes _)
 have hwc : wchk 0 2 = 0 := by decide
 rw [hwc]
 have HB7 := hid (HB6.out.trans (hb7.mono HB6.out.size))
 have HA7 := hid (HA6.out.below hb7)
 have HC7 := hid ((hb7.block _ (jq4.1 HC6.out).1).trans HC6.out)
 obtain ⟨⟨q0, q1, q2, q3, q4⟩, _⟩ := five_cells HC7.out
 obtain ⟨w8, hw8⟩ : ∃ y, y = w7.alloc (.cells #[.int .u64 0, .int .u64 2] 48) := ⟨_, rfl⟩
 obtain ⟨b8, hb8⟩ : ∃ q, q = w7.heap.size := ⟨_, rfl⟩
 have hbb : Below w7.heap.size w7 w8 := by rw [hw8]; exact box_below _ _
 have hd8 : w8.heap[b8]? = some (.cells #[.int .u64 0, .int .u64 2] 48 (0, 0)) := by rw [hw8, hb8]; exact Go.Deep.blk_alloc_new _ _
 have HB8 := hid (HB7.out.trans (hbb.mono HB7.out.size))
 have HD8 := hid (zw_wd hd8 (by decide) (by decide))
 have C9b := hid (accepts_any A none 0 0 (some ⟨b8, 0, none⟩) 2 2 (fun _ => 0) (zL 2) w8 (HA7.out.below hbb) HD8.out (tb_below HT.out HB8.out))
 simp only [Ax.val] at C9b
 have HW8 := hid (And.intro hw8 hb8)
 clear hac hx hb7 hw8 hb8 hbb hd8 C9
 go_wp2_with fail
 rw [← HW8.out.1, ← HW8.out.2]
 refine C9b.out.mono ?_
 rintro e w9 ⟨hac, hb9⟩
 obtain ⟨y, rfl, _, hy⟩ := mk_takes zF_mk HTb.out HD8.out hac
 have hyf : y = false := by
  cases hyv : y
  ·rfl
  ·exact absurd ((hy (by decide)).1 hyv) (zw_no _)
 subst hyf
 rw [hwc]
 have HB9 := hid (HB8.out.trans (hb9.mono HB8.out.size))
 clear hac hy hb9 C9b hwc q0 q1 q2 q3 q4
 go_wp2
 go_ret
 exact ⟨rfl, HB9.out⟩
end Go.Proofs.YtmdpbaobihdgkaaGreatDoor
namespace Go.Proofs.YtmdpbaobihdgkaaGreatDoor
open Go.RowKit
structure Bfw (w : World) (b b2 : Nat) (x y z p q : Value) : Prop where
 f : w.heap[b]? = some (.cells #[x, y, z] 24 (0, 0))
 w : w.heap[b2]? = some (.cells #[p, q] 27 (0, 0))
theorem Bfw.below {w w' : World} {b b2 : Nat} {x y z p q : Value} (h : Bfw w b b2 x y z p q) (hb : Below w.heap.size w w') : Bfw w' b b2 x y z p q :=
 ⟨(hb.block _ (jq4.1 h.f).1).trans h.f, (hb.block _ (jq4.1 h.w).1).trans h.w⟩
theorem Bfw.cells {w : World} {b b2 : Nat} {x y z p q : Value} (h : Bfw w b b2 x y z p q) : (w.cell? ⟨b, 0, none⟩ = some x ∧ w.cell? ⟨b, 1, none⟩ = some y ∧ w.cell? ⟨b, 2, none⟩ = some z) ∧ w.cell? ⟨b2, 0, none⟩ = some p ∧ w.cell? ⟨b2, 1, none⟩ = some q :=
 ⟨⟨cell_of_cells h.f rfl, cell_of_cells h.f rfl, cell_of_cells h.f rfl⟩, cell_of_cells h.w rfl, cell_of_cells h.w rfl⟩
end Go.Proofs.YtmdpbaobihdgkaaGreatDoor
namespace Go.Proofs.YtmdpbaobihdgkaaGreatDoor
open Go.RowKit Go.Shelf
abbrev nilA : Ax := ⟨none, 0, 0, none, 0, 0, none, 0, 0, none, 0, 0, none, 0, 0, fun _ => 0, fun _ => 0, fun _ _ => 0, fun _ => 0, fun _ => 0, fun _ => 0, fun _ _ => 0⟩
end Go.Proofs.YtmdpbaobihdgkaaGreatDoor
