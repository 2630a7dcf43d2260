
import Derived.Test.YtmdpbaobihdgkaaGreatDoorTfr
import Derived.Test.YtmdpbaobihdgkaaGreatDoorTpw
import Derived.Test.YtmdpbaobihdgkaaGreatDoorABobJ
/- tableau: Make. -/
set_option linter.unusedSimpArgs false
namespace Go.Proofs.YtmdpbaobihdgkaaGreatDoor
open Go.RowKit
def mkE (t : Fml) : Int := if (cgv t (pn t)).2 ≠ 0 then (cgv t (pn t)).2 else if 10 < (els (pn t)).length then 2 else 0
def noA : Ax := ⟨none, 0, 0, none, 0, 0, none, 0, 0, none, 0, 0, none, 0, 0, fun _ => 0, fun _ => 0, fun _ _ => 0, fun _ => 0, fun _ => 0, fun _ => 0, fun _ _ => 0⟩
theorem aw_none (w : World) : Aw w noA := by
 refine ⟨⟨0, 0, fun h => absurd h (Nat.lt_irrefl 0), fun i hi => absurd hi (Nat.not_lt_zero i)⟩, ⟨0, 0, fun h => absurd h (Nat.lt_irrefl 0), fun i hi => absurd hi (Nat.not_lt_zero i)⟩, ⟨0, 0, fun h => absurd h (Nat.lt_irrefl 0), fun i hi => absurd hi (Nat.not_lt_zero i)⟩, ⟨0, 0, fun h => absurd h (Nat.lt_irrefl 0), fun i hi => absurd hi (Nat.not_lt_zero i)⟩, ⟨0, 0, fun h => absurd h (Nat.lt_irrefl 0), fun i hi => absurd hi (Nat.not_lt_zero i)⟩, Nat.zero_le _, Nat.zero_le _, fun r hr => absurd hr (Nat.not_lt_zero r), Nat.zero_le _, Nat.zero_le _, Nat.zero_le _, fun r hr => absurd hr (Nat.not_lt_zero r), fun i hi => absurd hi (Nat.not_lt_zero i), fun i hi => absurd hi (Nat.not_lt_zero i)⟩
def MkIs (t : Fml) (w : World) (e : Ending) (w' : World) : Prop := ∃ A : Ax, e = .returned (.tuple #[A.val, .int .i64 (mkE t)]) ∧ Aw w' A ∧ Below w.heap.size w w' ∧ (mkE t ≠ 0 → A = noA) ∧ (mkE t = 0 → TbIs (els (pn t)) (pn t) A)
theorem pn_facts {t : Fml} (h : (cgv t (pn t)).2 = 0) : cgv t (pn t) = (pn t, 0) ∧ Wf (pn t) ∧ ¬ Has 10 (pn t) ∧ ¬ Has 11 (pn t) ∧ (pts (pn t)).length ≤ 60 := by
 by_cases h1 : (chk t 1 0).1 = 0
 ·by_cases h2 : (chk (pn t) 1 0).1 = 0
  ·have hw := (chk_wf t 1 0 h1).1
   have h3 := (chk_iff (pn t)).1 h2
   exact ⟨cgv_ok h1 h2, h3.1, pn_has t hw 10 (Or.inl rfl), pn_has t hw 11 (Or.inr rfl), by rw [pts_len]; exact h3.2.1⟩
  ·rw [cgv_bad2 h1 h2] at h
   exact absurd h h2
 ·rw [cgv_bad h1] at h
  exact absurd h h1
theorem own_but32 {W X : World} {base b : Nat} {v : Value} {n : Nat} {xs : List Value} {c : Array Value} {z : Nat × Nat} (h : W.ownsRow base 3 1 v n xs) (hb : W.heap[b]? = some (.cells c 32 z)) (hx : But b W X) : X.ownsRow base 3 1 v n xs :=
 owns_of_blk h (fun k hk => by
  obtain ⟨c2, z2, h3⟩ := owns_blk h hk
  exact hx.block k (jq4.1 h3).1 (fun e => by rw [e, hb] at h3; cases h3))
theorem row_but32 {W X : World} {b g n : Nat} {e : TypeId} {f : Nat → Value} {c : Array Value} {z : Nat × Nat} (h : W.rowIs g e n f) (he : e ≠ 32) (hb : W.heap[b]? = some (.cells c 32 z)) (hx : But b W X) : X.rowIs g e n f :=
 h.of_block (hx.block g h.lt (fun q => by
  subst q
  obtain ⟨c2, h3, _⟩ := h
  rw [hb] at h3
  injection h3 with h3
  injection h3 with _ h3
  exact he h3.symm))
theorem Lie.stay {lo b : Nat} {P : World → Prop} {w z : World} (h : Lie lo (isB b) P w) (hx : But b w z) : Lie lo (isB b) P z :=
 h.keep hx.size (fun g _ hg hq => ⟨hx.block g hg hq, hq⟩)
set_option maxHeartbeats 2000000 in
theorem make_bad1 {t : Fml} {a : Option Addr} {cap : Nat} {w : World} (hkc : kcAt w) (hk : Kds w t a) (hc : t.cnt ≤ 9223372036854775807) (h0 : (cgv t (pn t)).2 ≠ 0) :
  Calls Tryz.prog 7 #[.agg #[.int .i64 t.kind, .int .i64 t.num, .slice a t.cnt cap]] w fun e w' => MkIs t w e w' := by
 obtain ⟨u, hu⟩ : ∃ y, y = (w.alloc (.cells #[.int .i64 t.kind, .int .i64 t.num, .slice a t.cnt cap] 24)).alloc (.cells nil5 32) := ⟨_, rfl⟩
 have hB : Below w.heap.size w u := by rw [hu]; exact (box_below _ _).alloc (by simp) _
 have hres : u.heap[w.heap.size + 1]? = some (.cells nil5 32) := by rw [hu]; exact alloc_last _ (by simp)
 have C := hid (plain9 (t := t) a cap u (hkc.below hB hkc.pos) (hk.below hB) hc)
 have HU := hid hu
 have HB := hid hB
 have HRE := hid hres
 have HF : Hid (∀ X, Below w.heap.size w X → MkIs t w (.returned (.tuple #[.agg nil5, .int .i64 (cgv t (pn t)).2])) X) := hid (fun X hX => ⟨noA, by rw [mkE, if_pos h0]; rfl, aw_none X, hX, fun _ => rfl, fun h => by rw [mkE, if_pos h0] at h; exact absurd h h0⟩)
 generalize cgv t (pn t) = g at *
 have g0 : (g.2 != 0) = true := bne_iff_ne.2 h0
 clear hu hB hres hkc hk hc h0
 go_enter Tryz.func7, Tryz.ntmps7
 go_wp2_with fail
 rw [← HU.out]
 refine C.out.mono ?_
 rintro e w1 ⟨a1, c1, rfl, hk1, hb1⟩
 obtain ⟨w2, hw2⟩ : ∃ y, y = w1.alloc (.cells #[.int .i64 g.1.kind, .int .i64 g.1.num, .slice a1 g.1.cnt c1] 24) := ⟨_, rfl⟩
 have hb2 : Below u.heap.size u w2 := by rw [hw2]; exact hb1.alloc hb1.size _
 have HR2 : Hid (w2.heap[w.heap.size + 1]? = some (.cells nil5 32)) := hid ((hb2.block _ (jq4.1 HRE.out).1).trans HRE.out)
 have HL2 := hid (HB.out.trans (hb2.mono HB.out.size))
 have HW2 := hid hw2
 clear hk1 hb1 hw2 hb2 C
 go_upto_region 2 with fail
 rw [← HW2.out]
 have hres := HR2.out
 obtain ⟨⟨y0, y1, y2, y3, y4⟩, yf⟩ := five_cells hres
 have f0 := yf 0
 have f1 := yf 1
 have f2 := yf 2
 have f3 := yf 3
 have f4 := yf 4
 obtain ⟨X, hX⟩ : ∃ X, (((((w2.setCell ⟨w.heap.size + 1, 0, none⟩ (.slice none 0 0)).setCell ⟨w.heap.size + 1, 1, none⟩ (.slice none 0 0)).setCell ⟨w.heap.size + 1, 2, none⟩ (.slice none 0 0)).setCell ⟨w.heap.size + 1, 3, none⟩ (.slice none 0 0)).setCell ⟨w.heap.size + 1, 4, none⟩ (.slice none 0 0)) = X := ⟨_, rfl⟩
 obtain ⟨hx5, hxb⟩ := set5 _ _ _ _ _ hres hX
 obtain ⟨⟨k0, k1, k2, k3, k4⟩, _⟩ := five_cells hx5
 have HXX := hid (HF.out X (HL2.out.trans (hxb.below (by omega) HL2.out.size)))
 clear yf hxb hx5 hres
 go_wp2
 refine ⟨rfl, .tuple #[.agg nil5, .int .i64 g.2], by simp [results, Tryz.f7, go_sem, k0, k1, k2, k3, k4], ?_⟩
 exact HXX.out
set_option maxHeartbeats 2000000 in
theorem make_bad2 {t : Fml} {a : Option Addr} {cap : Nat} {w : World} (hkc : kcAt w) (hk : Kds w t a) (hc : t.cnt ≤ 9223372036854775807) (h0 : (cgv t (pn t)).2 = 0) (h1 : 10 < (els (pn t)).length) :
  Calls Tryz.prog 7 #[.agg #[.int .i64 t.kind, .int .i64 t.num, .slice a t.cnt cap]] w fun e w' => MkIs t w e w' := by
 obtain ⟨u, hu⟩ : ∃ y, y = (w.alloc (.cells #[.int .i64 t.kind, .int .i64 t.num, .slice a t.cnt cap] 24)).alloc (.cells nil5 32) := ⟨_, rfl⟩
 have hB : Below w.heap.size w u := by rw [hu]; exact (box_below _ _).alloc (by simp) _
 have hres : u.heap[w.heap.size + 1]? = some (.cells nil5 32) := by rw [hu]; exact alloc_last _ (by simp)
 have C := hid (plain9 (t := t) a cap u (hkc.below hB hkc.pos) (hk.below hB) hc)
 have HU := hid hu
 have HB := hid hB
 have HRE := hid hres
 have HF : Hid (∀ X, Below w.heap.size w X → MkIs t w (.returned (.tuple #[.agg nil5, .int .i64 2])) X) := hid (fun X hX => by
  have hm : mkE t = 2 := by rw [mkE, if_neg (fun q => q h0), if_pos h1]
  exact ⟨noA, by rw [hm]; rfl, aw_none X, hX, fun _ => rfl, fun h => by rw [hm] at h; cases h⟩)
 obtain ⟨hg, hwf, -, -, hpl⟩ := pn_facts h0
 rw [hg] at C
 generalize pn t = P at *
 have HP := hid (And.intro hwf hpl)
 have h1z : (10 : Int) < ((els P).length : Nat) := by omega
 have hel : (els P).length ≤ 60 := Nat.le_trans (els_len P) hpl
 clear hu hB hres hkc hk hc h0 hg hwf hpl
 go_enter Tryz.func7, Tryz.ntmps7
 go_wp2_with fail
 rw [← HU.out]
 refine C.out.mono ?_
 rintro e w1 ⟨a1, c1, rfl, hk1, hb1⟩
 dsimp only at hk1 ⊢
 obtain ⟨w2, hw2⟩ : ∃ y, y = w1.alloc (.cells #[.int .i64 P.kind, .int .i64 P.num, .slice a1 P.cnt c1] 24) := ⟨_, rfl⟩
 have hbw : Below w1.heap.size w1 w2 := by rw [hw2]; exact box_below _ _
 have hb2 : Below u.heap.size u w2 := hb1.trans (hbw.mono hb1.size)
 have HR2 : Hid (w2.heap[w.heap.size + 1]? = some (.cells nil5 32)) := hid ((hb2.block _ (jq4.1 HRE.out).1).trans HRE.out)
 have HL2 := hid (HB.out.trans (hb2.mono HB.out.size))
 have C16 := hid (elements16 (c := c1) ((hk1.out).below hbw) HP.out.1 (by have := HP.out.2; omega))
 have hx0 : Tri w2 w1.heap.size (.int .i64 P.kind) (.int .i64 P.num) (.slice a1 P.cnt c1) := by rw [hw2]; exact tri_new _ _ _ _
 obtain ⟨d0, d1, d2⟩ := (tri_cells hx0).1
 have HW2 := hid hw2
 clear hk1 hb1 hw2 hb2 hbw C hx0
 go_upto_region 2 with fail
 rw [← HW2.out]
 go_wp2_with fail
 refine C16.out.mono ?_
 rintro e w3 ⟨ea, ec, rfl, HE⟩
 obtain ⟨w4, hw4⟩ : ∃ y, y = w3.alloc (.cells #[.slice ea (els P).length ec] 53) := ⟨_, rfl⟩
 have hb4 : Below w2.heap.size w2 w4 := by rw [hw4]; exact HE.out.2.alloc HE.out.2.size _
 have HR2 : Hid (w4.heap[w.heap.size + 1]? = some (.cells nil5 32)) := hid ((hb4.block _ (jq4.1 HR2.out).1).trans HR2.out)
 have HL4 := hid (HL2.out.trans (hb4.mono HL2.out.size))
 have cb : w4.cell? ⟨w3.heap.size, 0, none⟩ = some (.slice ea (els P).length ec) := by rw [hw4]; exact cell_of_alloc rfl
 have HW4 := hid hw4
 clear hw4 hb4 C16 HE d0 d1 d2
 go_upto_region 5 with fail
 rw [← HW4.out]
 have hres := HR2.out
 obtain ⟨⟨y0, y1, y2, y3, y4⟩, yf⟩ := five_cells hres
 have f0 := yf 0
 have f1 := yf 1
 have f2 := yf 2
 have f3 := yf 3
 have f4 := yf 4
 obtain ⟨X, hX⟩ : ∃ X, (((((w4.setCell ⟨w.heap.size + 1, 0, none⟩ (.slice none 0 0)).setCell ⟨w.heap.size + 1, 1, none⟩ (.slice none 0 0)).setCell ⟨w.heap.size + 1, 2, none⟩ (.slice none 0 0)).setCell ⟨w.heap.size + 1, 3, none⟩ (.slice none 0 0)).setCell ⟨w.heap.size + 1, 4, none⟩ (.slice none 0 0)) = X := ⟨_, rfl⟩
 obtain ⟨hx5, hxb⟩ := set5 _ _ _ _ _ hres hX
 obtain ⟨⟨k0, k1, k2, k3, k4⟩, _⟩ := five_cells hx5
 have HXX := hid (HF.out X (HL4.out.trans (hxb.below (by omega) HL4.out.size)))
 clear yf hxb hx5 hres
 go_wp2
 refine ⟨rfl, .tuple #[.agg nil5, .int .i64 2], by simp [results, Tryz.f7, go_sem, k0, k1, k2, k3, k4], ?_⟩
 exact HXX.out
set_option maxHeartbeats 8000000 in
theorem make_ok {t : Fml} {a : Option Addr} {cap : Nat} {w : World} (hkc : kcAt w) (hk : Kds w t a) (hc : t.cnt ≤ 9223372036854775807) (h0 : (cgv t (pn t)).2 = 0) (h1 : ¬ 10 < (els (pn t)).length) :
  Calls Tryz.prog 7 #[.agg #[.int .i64 t.kind, .int .i64 t.num, .slice a t.cnt cap]] w fun e w' => MkIs t w e w' := by
 obtain ⟨u, hu⟩ : ∃ y, y = (w.alloc (.cells #[.int .i64 t.kind, .int .i64 t.num, .slice a t.cnt cap] 24)).alloc (.cells nil5 32) := ⟨_, rfl⟩
 have hB : Below w.heap.size w u := by rw [hu]; exact (box_below _ _).alloc (by simp) _
 have hres : u.heap[w.heap.size + 1]? = some (.cells nil5 32) := by rw [hu]; exact alloc_last _ (by simp)
 have C := hid (plain9 (t := t) a cap u (hkc.below hB hkc.pos) (hk.below hB) hc)
 have HU := hid hu
 have HB := hid hB
 have HRE := hid hres
 have hm : mkE t = 0 := by rw [mkE, if_neg (fun q => q h0), if_neg h1]
 have HF : Hid (∀ A X, Aw X A → Below w.heap.size w X → TbIs (els (pn t)) (pn t) A → MkIs t w (.returned (.tuple #[A.val, .int .i64 0])) X) := hid (fun A X hA hX hT => ⟨A, by rw [hm], hA, hX, fun h => absurd hm h, fun _ => hT⟩)
 obtain ⟨hg, hwf, -, -, hpl⟩ := pn_facts h0
 rw [hg] at C
 generalize pn t = P at *
 have HP := hid (And.intro hwf hpl)
 have HIN := hid (ine_els P)
 have HND := hid (els_nodup P)
 have HWE : Hid (∀ x ∈ els P, Wf x ∧ InE (els P) x) := hid (fun x hx => by
  have hp := (prt_pts P x).1 ((els_mem P x).1 hx).1
  exact ⟨hp.wf hwf, fun y hy hk => HIN.out y ((prt_pts P y).2 (prt_trans hp ((prt_pts x y).1 hy))) hk⟩)
 obtain ⟨E, hE⟩ : ∃ E, E = els P := ⟨_, rfl⟩
 have CE : Hid (∀ (w2 : World) (a1 : Option Addr) (c1 : Nat), Kds w2 P a1 → Calls Tryz.prog 16 #[.agg #[.int .i64 P.kind, .int .i64 P.num, .slice a1 P.cnt c1]] w2 fun e w' => ∃ ea ec, e = .returned (.slice ea E.length ec) ∧ Hid (El w2 w' w2.heap.size E.length (lf E) (.slice ea E.length ec) ∧ Below w2.heap.size w2 w')) := hid (fun w2 a1 c1 h => by rw [hE]; exact elements16 h HP.out.1 (by have := HP.out.2; omega))
 rw [← hE] at HIN HND HWE h1 HF
 have HEE := hid hE
 obtain ⟨N, hN⟩ : ∃ N, N = E.length := ⟨_, rfl⟩
 obtain ⟨n, hn⟩ : ∃ n, n = 2 ^ N := ⟨_, rfl⟩
 have hN10 : N ≤ 10 := by omega
 have hn1 : n ≤ 1024 := by rw [hn]; exact Nat.le_trans (Nat.pow_le_pow_right (by decide) hN10) (by decide)
 have HNN := hid (And.intro hN hn)
 have h1z : ¬ (10 : Int) < (N : Nat) := by omega
 clear hu hB hres hkc hk hc h0 hg hwf hpl hE h1 hm
 go_enter Tryz.func7, Tryz.ntmps7
 go_wp2_with fail
 rw [← HU.out]
 refine C.out.mono ?_
 rintro e w1 ⟨a1, c1, rfl, hk1, hb1⟩
 dsimp only at hk1 ⊢
 obtain ⟨w2, hw2⟩ : ∃ y, y = w1.alloc (.cells #[.int .i64 P.kind, .int .i64 P.num, .slice a1 P.cnt c1] 24) := ⟨_, rfl⟩
 have hbw : Below w1.heap.size w1 w2 := by rw [hw2]; exact box_below _ _
 have hb2 : Below u.heap.size u w2 := hb1.trans (hbw.mono hb1.size)
 have HR2 : Hid (w2.heap[w.heap.size + 1]? = some (.cells nil5 32)) := hid ((hb2.block _ (jq4.1 HRE.out).1).trans HRE.out)
 have HL2 := hid (HB.out.trans (hb2.mono HB.out.size))
 have HK2 := hid ((hk1.out).below hbw)
 have C16 := hid (CE.out w2 a1 c1 HK2.out)
 obtain ⟨b4, hb4⟩ : ∃ q, q = w1.heap.size := ⟨_, rfl⟩
 have hx0 : Tri w2 b4 (.int .i64 P.kind) (.int .i64 P.num) (.slice a1 P.cnt c1) := by rw [hw2, hb4]; exact tri_new _ _ _ _
 obtain ⟨d0, d1, d2⟩ := (tri_cells hx0).1
 have HX0 := hid hx0
 have HW2 := hid (And.intro hw2 hb4)
 rw [← hN] at C16
 clear hk1 hb1 hw2 hb2 hbw C hx0 hb4
 go_upto_region 2 with fail
 rw [← HW2.out.1, ← HW2.out.2]
 go_wp2_with fail
 refine C16.out.mono ?_
 rintro e w3 ⟨ea0, ec0, rfl, HE⟩
 obtain ⟨ea, ec, hv, _, hro⟩ := El.ro (l := E) (by rw [← hN]; exact HE.out.1)
 obtain ⟨rfl, rfl⟩ : ea = ea0 ∧ ec = ec0 := by injection hv with q1 q2 q3; exact ⟨q1.symm, q3.symm⟩
 obtain ⟨U0, hU0⟩ : ∃ y, y = w3.alloc (.cells #[.slice ea N ec] 53) := ⟨_, rfl⟩
 obtain ⟨b6, hb6⟩ : ∃ q, q = w3.heap.size := ⟨_, rfl⟩
 have hbx : Below w3.heap.size w3 U0 := by rw [hU0]; exact box_below _ _
 have hb4 : Below w2.heap.size w2 U0 := HE.out.2.trans (hbx.mono HE.out.2.size)
 have HRU : Hid (U0.heap[w.heap.size + 1]? = some (.cells nil5 32)) := hid ((hb4.block _ (jq4.1 HR2.out).1).trans HR2.out)
 have HLU := hid (HL2.out.trans (hb4.mono HL2.out.size))
 have HCh : Hid (Ch w2 U0 E ea ec) := hid ⟨by omega, hb4, hro.below hbx⟩
 have cb : U0.cell? ⟨b6, 0, none⟩ = some (.slice ea N ec) := by rw [hU0, hb6]; exact cell_of_alloc rfl
 obtain ⟨e0, e1, e2⟩ := (tri_cells (HX0.out.below hb4)).1
 have HSt : Hid (∀ y, Below U0.heap.size U0 y → (fun y : World => y.cell? ⟨b6, 0, none⟩ = some (.slice ea N ec) ∧ y.cell? ⟨b4, 0, none⟩ = some (.int .i64 P.kind) ∧ y.cell? ⟨b4, 1, none⟩ = some (.int .i64 P.num) ∧ y.cell? ⟨b4, 2, none⟩ = some (.slice a1 P.cnt c1)) y) := hid (fun y hy => ⟨below_cell hy jq0 cb, below_cell hy jq0 e0, below_cell hy jq0 e1, below_cell hy jq0 e2⟩)
 have CA : Hid (∀ z, Below U0.heap.size U0 z → Calls Tryz.prog 18 #[.agg #[.slice ea N ec], .agg #[.int .i64 P.kind, .int .i64 P.num, .slice a1 P.cnt c1]] z fun e w' => NewB z n (trv E P) e w') := hid (fun z hz => by
  have := truths_any (ec := ec) P HP.out.1 HIN.out a1 c1 z (HCh.out.below hz) HK2.out
  rwa [← hN, ← hn] at this)
 have CN : Hid (∀ z, Below U0.heap.size U0 z → Calls Tryz.prog 19 #[.agg #[.slice ea N ec]] z fun e w' => ∃ b, e = .returned (.slice (some ⟨b, 0, none⟩) n n) ∧ Hid (Below z.heap.size z w' ∧ Lie z.heap.size noB (fun y => Gr y (some ⟨b, 0, none⟩) n (fun s => (nxt E s).length) (fun s i => (nxt E s).getD i 0)) w')) := hid (fun z hz => by
  have := next19 (HCh.out.below hz) (fun x hx => (HWE.out x hx).1) (fun x hx => (HWE.out x hx).2)
  rwa [← hN, ← hn] at this)
 have CF : Hid (∀ z, Below U0.heap.size U0 z → Calls Tryz.prog 20 #[.agg #[.slice ea N ec]] z fun e w' => ∃ a c, e = .returned (.slice a (frT E).length c) ∧ Hid (Below z.heap.size z w' ∧ Lie z.heap.size noB (fun y => Gr y a (frT E).length (fun i => (trs (frF E (lf (frT E) i)) n).length) (fun i k => (trs (frF E (lf (frT E) i)) n).getD k 0)) w')) := hid (fun z hz => by
  have := fair20 (HCh.out.below hz) (fun x hx => (HWE.out x hx).1) (fun x hx => (HWE.out x hx).2)
  rwa [← hN, ← hn] at this)
 have CL : Hid (∀ z, Below U0.heap.size U0 z → Calls Tryz.prog 21 #[.agg #[.slice ea N ec]] z fun e w' => ∃ mb nb, e = .returned (.tuple #[.slice (some ⟨mb, 0, none⟩) n n, .slice (some ⟨nb, 0, none⟩) n n]) ∧
   Hid (Below z.heap.size z w' ∧ w'.rowIs mb 48 n (fun s => .int .u64 (ltM E true s N : Nat)) ∧ w'.rowIs nb 48 n (fun s => .int .u64 (ltM E false s N : Nat)) ∧ z.heap.size ≤ mb ∧ z.heap.size ≤ nb)) := hid (fun z hz => by
  have := letters21 (HCh.out.below hz) (fun x hx => (HWE.out x hx).1) HND.out
  rwa [← hN, ← hn] at this)
 obtain ⟨L, hL⟩ : ∃ L, L = trs (trv E P) n := ⟨_, rfl⟩
 have HL := hid hL
 have HWW := hid (And.intro hU0 hb6)
 have hB : Below U0.heap.size U0 U0.drew := drew_below U0
 clear hU0 hb6 hbx hb4 HE hro hv C16 d0 d1 d2 e0 e1 e2 hL hN hn CE
 go_upto_region 5 with fail
 rw [← HWW.out.1, ← HWW.out.2]
 go_wp2_with fail
 go_cut [7] from 25 to 33 (fun v7 wc => ∃ bA sa sc nb fa fc, v7 = .pointer (some ⟨bA, 0, none⟩) ∧ Hid (Below U0.heap.size U0 wc ∧ wc.heap[bA]? = some (.cells #[.slice sa L.length sc, .slice (some ⟨nb, 0, none⟩) n n, .slice none 0 0, .slice none 0 0, .slice fa (frT E).length fc] 32) ∧ U0.heap.size ≤ bA ∧ wc.ownsRow U0.heap.size 3 1 (.slice sa L.length sc) L.length (vals L) ∧ Lie U0.heap.size (isB bA) (fun y => Gr y (some ⟨nb, 0, none⟩) n (fun s => (nxt E s).length) (fun s i => (nxt E s).getD i 0)) wc ∧ Lie U0.heap.size (isB bA) (fun y => Gr y fa (frT E).length (fun i => (trs (frF E (lf (frT E) i)) n).length) (fun i k => (trs (frF E (lf (frT E) i)) n).getD k 0)) wc))
 case first =>
  refine G_region (fun y : World => y.cell? ⟨b6, 0, none⟩ = some (.slice ea N ec) ∧ y.cell? ⟨b4, 0, none⟩ = some (.int .i64 P.kind) ∧ y.cell? ⟨b4, 1, none⟩ = some (.int .i64 P.num) ∧ y.cell? ⟨b4, 2, none⟩ = some (.slice a1 P.cnt c1)) (fun i => false) (by kernel_rfl) (HSt.out _ hB) (fun _ => ?_)
  refine G_tk (i := 0) (oi := { dst := some 25, op := Op.load 53 (Operand.tmp 6), type := _, pos := _, after := _, guard := _ }) (v := .agg #[.slice ea N ec]) (HSt.out _ hB) ?_
  (try simp only [Act.put, jq1, jq2, jq3])
  refine G_tk (i := 1) (oi := { dst := some 26, op := Op.load 24 (Operand.tmp 4), type := _, pos := _, after := _, guard := _ }) (v := .agg #[.int .i64 P.kind, .int .i64 P.num, .slice a1 P.cnt c1]) (HSt.out _ hB) ?_
  (try simp only [Act.put, jq1, jq2, jq3])
  refine G_tk (i := 4) (oi := { dst := some 29, op := Op.load 53 (Operand.tmp 6), type := _, pos := _, after := _, guard := _ }) (v := .agg #[.slice ea N ec]) (HSt.out _ hB) ?_
  (try simp only [Act.put, jq1, jq2, jq3])
  refine G_tk (i := 6) (oi := { dst := some 31, op := Op.load 53 (Operand.tmp 6), type := _, pos := _, after := _, guard := _ }) (v := .agg #[.slice ea N ec]) (HSt.out _ hB) ?_
  (try simp only [Act.put, jq1, jq2, jq3])
  obtain ⟨y0, hy0⟩ : ∃ q, q = U0.drew := ⟨_, rfl⟩
  rw [← hy0] at hB ⊢
  clear hy0
  refine G_alt (l := [2, 9]) (by kernel_rfl) (by decide) ?_
  intro i hi
  have hi2 : i = 2 ∨ i = 9 := by simpa using hi
  clear hi
  rcases hi2 with rfl | rfl
  ·refine ⟨_, rfl, fun K' hK => ?_⟩
   go_simp
   refine (CA.out _ hB).mono ?_
   rintro e y1 ⟨g1, rfl, hge, hr, hb⟩
   dsimp only
   have hg1 : Hid (y1.rowIs g1 4 n (fun s => .bool (trv E P s))) := hid hr
   clear hge hr
   replace hB := hB.trans (hb.mono hB.size)
   clear hb
   refine hK.out _ _ (fun _ => (HSt.out _ hB)) (fun _ => ?_)
   clear hK K'
   (try simp only [Act.put, jq1, jq2, jq3])
   refine G_alt (l := [3, 9]) (by kernel_rfl) (by decide) ?_
   intro i hi
   have hi2 : i = 3 ∨ i = 9 := by simpa using hi
   clear hi
   rcases hi2 with rfl | rfl
   ·refine ⟨_, rfl, fun K' hK => ?_⟩
    go_simp
    refine (where17 (c := n) (rowIs_rowB hg1.out) hn1).mono ?_
    rintro e y2 ⟨v, rfl, HV⟩
    rw [← HL.out] at HV
    obtain ⟨sa, sc, rfl, _⟩ := owns_row HV.out.1
    dsimp only
    have hb := HV.out.2
    have hst : Hid (y2.ownsRow U0.heap.size 3 1 (.slice sa L.length sc) L.length (vals L)) := hid (owns_baseT HV.out.1 hB.size)
    clear HV hg1
    replace hB := hB.trans (hb.mono hB.size)
    clear hb
    refine hK.out _ _ (fun _ => (HSt.out _ hB)) (fun _ => ?_)
    clear hK K'
    (try simp only [Act.put, jq1, jq2, jq3])
    refine G_alt (l := [5, 9]) (by kernel_rfl) (by decide) ?_
    intro i hi
    have hi2 : i = 5 ∨ i = 9 := by simpa using hi
    clear hi
    rcases hi2 with rfl | rfl
    ·refine ⟨_, rfl, fun K' hK => ?_⟩
     go_simp
     refine (CN.out _ hB).mono ?_
     rintro e y3 ⟨nb, rfl, HV⟩
     dsimp only
     have hb := HV.out.1
     have hnx : Hid (Lie U0.heap.size noB (fun y => Gr y (some ⟨nb, 0, none⟩) n (fun s => (nxt E s).length) (fun s i => (nxt E s).getD i 0)) y3) := hid (Lie.mono HV.out.2 hB.size)
     have hst := hid (owns3_below hst.out hb)
     clear HV
     replace hB := hB.trans (hb.mono hB.size)
     clear hb
     refine hK.out _ _ (fun _ => (HSt.out _ hB)) (fun _ => ?_)
     clear hK K'
     (try simp only [Act.put, jq1, jq2, jq3])
     refine G_alt (l := [7, 9]) (by kernel_rfl) (by decide) ?_
     intro i hi
     have hi2 : i = 7 ∨ i = 9 := by simpa using hi
     clear hi
     rcases hi2 with rfl | rfl
     ·refine ⟨_, rfl, fun K' hK => ?_⟩
      go_simp
      refine (CF.out _ hB).mono ?_
      rintro e y4 ⟨fa, fc, rfl, HV⟩
      dsimp only
      have hb := HV.out.1
      have hfr : Hid (Lie U0.heap.size noB (fun y => Gr y fa (frT E).length (fun i => (trs (frF E (lf (frT E) i)) n).length) (fun i k => (trs (frF E (lf (frT E) i)) n).getD k 0)) y4) := hid (Lie.mono HV.out.2 hB.size)
      have hst := hid (owns3_below hst.out hb)
      have hnx := hid (hnx.out.below hb)
      clear HV
      replace hB := hB.trans (hb.mono hB.size)
      clear hb
      refine hK.out _ _ (fun _ => (HSt.out _ hB)) (fun _ => ?_)
      clear hK K'
      (try simp only [Act.put, jq1, jq2, jq3])
      refine G_tk (i := 8) (oi := { dst := some 33, op := Op.build 32 #[(0, Operand.tmp 28), (1, Operand.tmp 30), (4, Operand.tmp 32)], type := _, pos := _, after := _, guard := _ }) (v := .agg #[.slice sa L.length sc, .slice (some ⟨nb, 0, none⟩) n n, .slice none 0 0, .slice none 0 0, .slice fa (frT E).length fc]) (HSt.out _ hB) ?_
      (try simp only [Act.put, jq1, jq2, jq3])
      refine G_step (i := 9) (o := _) (by kernel_rfl) rfl (fun K' hK => ?_)
      go_simp
      obtain ⟨y5, hy⟩ : ∃ q, q = y4.alloc (.cells nil5 32) := ⟨_, rfl⟩
      have hb : Below y4.heap.size y4 y5 := by rw [hy]; exact box_below _ _
      obtain ⟨bA, hbx⟩ : ∃ q, q = y4.heap.size := ⟨_, rfl⟩
      have hst := hid (owns3_below hst.out hb)
      have hnx : Hid (Lie U0.heap.size (isB bA) (fun y => Gr y (some ⟨nb, 0, none⟩) n (fun s => (nxt E s).length) (fun s i => (nxt E s).getD i 0)) y5) := hid (by rw [hy, hbx]; exact hnx.out.fresh _)
      have hfr : Hid (Lie U0.heap.size (isB bA) (fun y => Gr y fa (frT E).length (fun i => (trs (frF E (lf (frT E) i)) n).length) (fun i k => (trs (frF E (lf (frT E) i)) n).getD k 0)) y5) := hid (by rw [hy, hbx]; exact hfr.out.fresh _)
      have hbA : Hid (y5.heap[bA]? = some (.cells nil5 32) ∧ U0.heap.size ≤ bA) := by rw [hy, hbx]; exact hid ⟨Go.Deep.blk_alloc_new _ _, hB.size⟩
      rw [← hy]
      rw [← hbx]
      clear hy hbx
      replace hB := hB.trans (hb.mono hB.size)
      clear hb
      refine hK.out _ _ (fun _ => (HSt.out _ hB)) (fun _ => ?_)
      clear hK K'
      (try simp only [Act.put, jq1, jq2, jq3])
      obtain ⟨⟨z0, z1, z2, z3, z4⟩, zf⟩ := five_cells hbA.out.1
      have f0 := zf 0
      have f1 := zf 1
      have f2 := zf 2
      have f3 := zf 3
      have f4 := zf 4
      clear zf
      refine G_step (i := 10) (o := _) (by kernel_rfl) rfl (fun K' hK => ?_)
      go_simp
      obtain ⟨y6, hy⟩ : ∃ q, (((((y5.setCell ⟨bA, 0, none⟩ (.slice sa L.length sc)).setCell ⟨bA, 1, none⟩ (.slice (some ⟨nb, 0, none⟩) n n)).setCell ⟨bA, 2, none⟩ (.slice none 0 0)).setCell ⟨bA, 3, none⟩ (.slice none 0 0)).setCell ⟨bA, 4, none⟩ (.slice fa (frT E).length fc)) = q := ⟨_, rfl⟩
      rw [hy]
      obtain ⟨hx5, hxb⟩ := set5 _ _ _ _ _ hbA.out.1 hy
      have hB2 : Below U0.heap.size U0 y6 := hB.trans (hxb.below hbA.out.2 hB.size)
      have HFIN : Hid (Below U0.heap.size U0 y6 ∧ y6.heap[bA]? = some (.cells #[.slice sa L.length sc, .slice (some ⟨nb, 0, none⟩) n n, .slice none 0 0, .slice none 0 0, .slice fa (frT E).length fc] 32) ∧ U0.heap.size ≤ bA ∧ y6.ownsRow U0.heap.size 3 1 (.slice sa L.length sc) L.length (vals L) ∧ Lie U0.heap.size (isB bA) (fun y => Gr y (some ⟨nb, 0, none⟩) n (fun s => (nxt E s).length) (fun s i => (nxt E s).getD i 0)) y6 ∧ Lie U0.heap.size (isB bA) (fun y => Gr y fa (frT E).length (fun i => (trs (frF E (lf (frT E) i)) n).length) (fun i k => (trs (frF E (lf (frT E) i)) n).getD k 0)) y6) := hid ⟨hB2, hx5, hbA.out.2, own_but32 hst.out hbA.out.1 hxb, hnx.out.stay hxb, hfr.out.stay hxb⟩
      clear hxb hx5 hy hbA hst hnx hfr
      refine hK.out _ _ (fun _ => HSt.out _ hB2) (fun _ => ?_)
      clear hK K'
      (try simp only [Act.put, jq1, jq2, jq3])
      refine G_done (by kernel_rfl) ?_ _
      go_wp2_with fail
      go_meet
      exact ⟨bA, sa, sc, nb, fa, fc, rfl, HFIN⟩
     ·refine ⟨_, rfl, fun K' hK => ?_⟩
      go_simp
      obtain ⟨y7, hy⟩ : ∃ q, q = y3.alloc (.cells nil5 32) := ⟨_, rfl⟩
      have hb : Below y3.heap.size y3 y7 := by rw [hy]; exact box_below _ _
      obtain ⟨bA, hbx⟩ : ∃ q, q = y3.heap.size := ⟨_, rfl⟩
      have hst := hid (owns3_below hst.out hb)
      have hnx : Hid (Lie U0.heap.size (isB bA) (fun y => Gr y (some ⟨nb, 0, none⟩) n (fun s => (nxt E s).length) (fun s i => (nxt E s).getD i 0)) y7) := hid (by rw [hy, hbx]; exact hnx.out.fresh _)
      have hbA : Hid (y7.heap[bA]? = some (.cells nil5 32) ∧ U0.heap.size ≤ bA) := by rw [hy, hbx]; exact hid ⟨Go.Deep.blk_alloc_new _ _, hB.size⟩
      rw [← hy]
      rw [← hbx]
      clear hy hbx
      replace hB := hB.trans (hb.mono hB.size)
      clear hb
      refine hK.out _ _ (fun _ => (HSt.out _ hB)) (fun _ => ?_)
      clear hK K'
      (try simp only [Act.put, jq1, jq2, jq3])
      refine G_step (i := 7) (o := _) (by kernel_rfl) rfl (fun K' hK => ?_)
      go_simp
      refine (CF.out _ hB).mono ?_
      rintro e y8 ⟨fa, fc, rfl, HV⟩
      dsimp only
      have hb := HV.out.1
      have hfr : Hid (Lie U0.heap.size (isB bA) (fun y => Gr y fa (frT E).length (fun i => (trs (frF E (lf (frT E) i)) n).length) (fun i k => (trs (frF E (lf (frT E) i)) n).getD k 0)) y8) := hid (Lie.mono (HV.out.2.old (Nat.lt_of_lt_of_le (jq4.1 hbA.out.1).1 jq0)) hB.size)
      have hst := hid (owns3_below hst.out hb)
      have hnx := hid (hnx.out.below hb)
      have hbA := hid (And.intro ((hb.block _ (jq4.1 hbA.out.1).1).trans hbA.out.1) hbA.out.2)
      clear HV
      replace hB := hB.trans (hb.mono hB.size)
      clear hb
      refine hK.out _ _ (fun _ => (HSt.out _ hB)) (fun _ => ?_)
      clear hK K'
      (try simp only [Act.put, jq1, jq2, jq3])
      refine G_tk (i := 8) (oi := { dst := some 33, op := Op.build 32 #[(0, Operand.tmp 28), (1, Operand.tmp 30), (4, Operand.tmp 32)], type := _, pos := _, after := _, guard := _ }) (v := .agg #[.slice sa L.length sc, .slice (some ⟨nb, 0, none⟩) n n, .slice none 0 0, .slice none 0 0, .slice fa (frT E).length fc]) (HSt.out _ hB) ?_
      (try simp only [Act.put, jq1, jq2, jq3])
      obtain ⟨⟨z0, z1, z2, z3, z4⟩, zf⟩ := five_cells hbA.out.1
      have f0 := zf 0
      have f1 := zf 1
      have f2 := zf 2
      have f3 := zf 3
      have f4 := zf 4
      clear zf
      refine G_step (i := 10) (o := _) (by kernel_rfl) rfl (fun K' hK => ?_)
      go_simp
      obtain ⟨y9, hy⟩ : ∃ q, (((((y8.setCell ⟨bA, 0, none⟩ (.slice sa L.length sc)).setCell ⟨bA, 1, none⟩ (.slice (some ⟨nb, 0, none⟩) n n)).setCell ⟨bA, 2, none⟩ (.slice none 0 0)).setCell ⟨bA, 3, none⟩ (.slice none 0 0)).setCell ⟨bA, 4, none⟩ (.slice fa (frT E).length fc)) = q := ⟨_, rfl⟩
      rw [hy]
      obtain ⟨hx5, hxb⟩ := set5 _ _ _ _ _ hbA.out.1 hy
      have hB2 : Below U0.heap.size U0 y9 := hB.trans (hxb.below hbA.out.2 hB.size)
      have HFIN : Hid (Below U0.heap.size U0 y9 ∧ y9.heap[bA]? = some (.cells #[.slice sa L.length sc, .slice (some ⟨nb, 0, none⟩) n n, .slice none 0 0, .slice none 0 0, .slice fa (frT E).length fc] 32) ∧ U0.heap.size ≤ bA ∧ y9.ownsRow U0.heap.size 3 1 (.slice sa L.length sc) L.length (vals L) ∧ Lie U0.heap.size (isB bA) (fun y => Gr y (some ⟨nb, 0, none⟩) n (fun s => (nxt E s).length) (fun s i => (nxt E s).getD i 0)) y9 ∧ Lie U0.heap.size (isB bA) (fun y => Gr y fa (frT E).length (fun i => (trs (frF E (lf (frT E) i)) n).length) (fun i k => (trs (frF E (lf (frT E) i)) n).getD k 0)) y9) := hid ⟨hB2, hx5, hbA.out.2, own_but32 hst.out hbA.out.1 hxb, hnx.out.stay hxb, hfr.out.stay hxb⟩
      clear hxb hx5 hy hbA hst hnx hfr
      refine hK.out _ _ (fun _ => HSt.out _ hB2) (fun _ => ?_)
      clear hK K'
      (try simp only [Act.put, jq1, jq2, jq3])
      refine G_done (by kernel_rfl) ?_ _
      go_wp2_with fail
      go_meet
      exact ⟨bA, sa, sc, nb, fa, fc, rfl, HFIN⟩
    ·refine ⟨_, rfl, fun K' hK => ?_⟩
     go_simp
     obtain ⟨y10, hy⟩ : ∃ q, q = y2.alloc (.cells nil5 32) := ⟨_, rfl⟩
     have hb : Below y2.heap.size y2 y10 := by rw [hy]; exact box_below _ _
     obtain ⟨bA, hbx⟩ : ∃ q, q = y2.heap.size := ⟨_, rfl⟩
     have hst := hid (owns3_below hst.out hb)
     have hbA : Hid (y10.heap[bA]? = some (.cells nil5 32) ∧ U0.heap.size ≤ bA) := by rw [hy, hbx]; exact hid ⟨Go.Deep.blk_alloc_new _ _, hB.size⟩
     rw [← hy]
     rw [← hbx]
     clear hy hbx
     replace hB := hB.trans (hb.mono hB.size)
     clear hb
     refine hK.out _ _ (fun _ => (HSt.out _ hB)) (fun _ => ?_)
     clear hK K'
     (try simp only [Act.put, jq1, jq2, jq3])
     refine G_step (i := 5) (o := _) (by kernel_rfl) rfl (fun K' hK => ?_)
     go_simp
     refine (CN.out _ hB).mono ?_
     rintro e y11 ⟨nb, rfl, HV⟩
     dsimp only
     have hb := HV.out.1
     have hnx : Hid (Lie U0.heap.size (isB bA) (fun y => Gr y (some ⟨nb, 0, none⟩) n (fun s => (nxt E s).length) (fun s i => (nxt E s).getD i 0)) y11) := hid (Lie.mono (HV.out.2.old (Nat.lt_of_lt_of_le (jq4.1 hbA.out.1).1 jq0)) hB.size)
     have hst := hid (owns3_below hst.out hb)
     have hbA := hid (And.intro ((hb.block _ (jq4.1 hbA.out.1).1).trans hbA.out.1) hbA.out.2)
     clear HV
     replace hB := hB.trans (hb.mono hB.size)
     clear hb
     refine hK.out _ _ (fun _ => (HSt.out _ hB)) (fun _ => ?_)
     clear hK K'
     (try simp only [Act.put, jq1, jq2, jq3])
     refine G_step (i := 7) (o := _) (by kernel_rfl) rfl (fun K' hK => ?_)
     go_simp
     refine (CF.out _ hB).mono ?_
     rintro e y12 ⟨fa, fc, rfl, HV⟩
     dsimp only
     have hb := HV.out.1
     have hfr : Hid (Lie U0.heap.size (isB bA) (fun y => Gr y fa (frT E).length (fun i => (trs (frF E (lf (frT E) i)) n).length) (fun i k => (trs (frF E (lf (frT E) i)) n).getD k 0)) y12) := hid (Lie.mono (HV.out.2.old (Nat.lt_of_lt_of_le (jq4.1 hbA.out.1).1 jq0)) hB.size)
     have hst := hid (owns3_below hst.out hb)
     have hbA := hid (And.intro ((hb.block _ (jq4.1 hbA.out.1).1).trans hbA.out.1) hbA.out.2)
     have hnx := hid (hnx.out.below hb)
     clear HV
     replace hB := hB.trans (hb.mono hB.size)
     clear hb
     refine hK.out _ _ (fun _ => (HSt.out _ hB)) (fun _ => ?_)
     clear hK K'
     (try simp only [Act.put, jq1, jq2, jq3])
     refine G_tk (i := 8) (oi := { dst := some 33, op := Op.build 32 #[(0, Operand.tmp 28), (1, Operand.tmp 30), (4, Operand.tmp 32)], type := _, pos := _, after := _, guard := _ }) (v := .agg #[.slice sa L.length sc, .slice (some ⟨nb, 0, none⟩) n n, .slice none 0 0, .slice none 0 0, .slice fa (frT E).length fc]) (HSt.out _ hB) ?_
     (try simp only [Act.put, jq1, jq2, jq3])
     obtain ⟨⟨z0, z1, z2, z3, z4⟩, zf⟩ := five_cells hbA.out.1
     have f0 := zf 0
     have f1 := zf 1
     have f2 := zf 2
     have f3 := zf 3
     have f4 := zf 4
     clear zf
     refine G_step (i := 10) (o := _) (by kernel_rfl) rfl (fun K' hK => ?_)
     go_simp
     obtain ⟨y13, hy⟩ : ∃ q, (((((y12.setCell ⟨bA, 0, none⟩ (.slice sa L.length sc)).setCell ⟨bA, 1, none⟩ (.slice (some ⟨nb, 0, none⟩) n n)).setCell ⟨bA, 2, none⟩ (.slice none 0 0)).setCell ⟨bA, 3, none⟩ (.slice none 0 0)).setCell ⟨bA, 4, none⟩ (.slice fa (frT E).length fc)) = q := ⟨_, rfl⟩
     rw [hy]
     obtain ⟨hx5, hxb⟩ := set5 _ _ _ _ _ hbA.out.1 hy
     have hB2 : Below U0.heap.size U0 y13 := hB.trans (hxb.below hbA.out.2 hB.size)
     have HFIN : Hid (Below U0.heap.size U0 y13 ∧ y13.heap[bA]? = some (.cells #[.slice sa L.length sc, .slice (some ⟨nb, 0, none⟩) n n, .slice none 0 0, .slice none 0 0, .slice fa (frT E).length fc] 32) ∧ U0.heap.size ≤ bA ∧ y13.ownsRow U0.heap.size 3 1 (.slice sa L.length sc) L.length (vals L) ∧ Lie U0.heap.size (isB bA) (fun y => Gr y (some ⟨nb, 0, none⟩) n (fun s => (nxt E s).length) (fun s i => (nxt E s).getD i 0)) y13 ∧ Lie U0.heap.size (isB bA) (fun y => Gr y fa (frT E).length (fun i => (trs (frF E (lf (frT E) i)) n).length) (fun i k => (trs (frF E (lf (frT E) i)) n).getD k 0)) y13) := hid ⟨hB2, hx5, hbA.out.2, own_but32 hst.out hbA.out.1 hxb, hnx.out.stay hxb, hfr.out.stay hxb⟩
     clear hxb hx5 hy hbA hst hnx hfr
     refine hK.out _ _ (fun _ => HSt.out _ hB2) (fun _ => ?_)
     clear hK K'
     (try simp only [Act.put, jq1, jq2, jq3])
     refine G_done (by kernel_rfl) ?_ _
     go_wp2_with fail
     go_meet
     exact ⟨bA, sa, sc, nb, fa, fc, rfl, HFIN⟩
   ·refine ⟨_, rfl, fun K' hK => ?_⟩
    go_simp
    obtain ⟨y14, hy⟩ : ∃ q, q = y1.alloc (.cells nil5 32) := ⟨_, rfl⟩
    have hb : Below y1.heap.size y1 y14 := by rw [hy]; exact box_below _ _
    obtain ⟨bA, hbx⟩ : ∃ q, q = y1.heap.size := ⟨_, rfl⟩
    have hg1 := hid (rowIs_below hg1.out hb)
    have hbA : Hid (y14.heap[bA]? = some (.cells nil5 32) ∧ U0.heap.size ≤ bA) := by rw [hy, hbx]; exact hid ⟨Go.Deep.blk_alloc_new _ _, hB.size⟩
    rw [← hy]
    rw [← hbx]
    clear hy hbx
    replace hB := hB.trans (hb.mono hB.size)
    clear hb
    refine hK.out _ _ (fun _ => (HSt.out _ hB)) (fun _ => ?_)
    clear hK K'
    (try simp only [Act.put, jq1, jq2, jq3])
    refine G_step (i := 3) (o := _) (by kernel_rfl) rfl (fun K' hK => ?_)
    go_simp
    refine (where17 (c := n) (rowIs_rowB hg1.out) hn1).mono ?_
    rintro e y15 ⟨v, rfl, HV⟩
    rw [← HL.out] at HV
    obtain ⟨sa, sc, rfl, _⟩ := owns_row HV.out.1
    dsimp only
    have hb := HV.out.2
    have hbA := hid (And.intro ((hb.block _ (jq4.1 hbA.out.1).1).trans hbA.out.1) hbA.out.2)
    have hst : Hid (y15.ownsRow U0.heap.size 3 1 (.slice sa L.length sc) L.length (vals L)) := hid (owns_baseT HV.out.1 hB.size)
    clear HV hg1
    replace hB := hB.trans (hb.mono hB.size)
    clear hb
    refine hK.out _ _ (fun _ => (HSt.out _ hB)) (fun _ => ?_)
    clear hK K'
    (try simp only [Act.put, jq1, jq2, jq3])
    refine G_step (i := 5) (o := _) (by kernel_rfl) rfl (fun K' hK => ?_)
    go_simp
    refine (CN.out _ hB).mono ?_
    rintro e y16 ⟨nb, rfl, HV⟩
    dsimp only
    have hb := HV.out.1
    have hnx : Hid (Lie U0.heap.size (isB bA) (fun y => Gr y (some ⟨nb, 0, none⟩) n (fun s => (nxt E s).length) (fun s i => (nxt E s).getD i 0)) y16) := hid (Lie.mono (HV.out.2.old (Nat.lt_of_lt_of_le (jq4.1 hbA.out.1).1 jq0)) hB.size)
    have hbA := hid (And.intro ((hb.block _ (jq4.1 hbA.out.1).1).trans hbA.out.1) hbA.out.2)
    have hst := hid (owns3_below hst.out hb)
    clear HV
    replace hB := hB.trans (hb.mono hB.size)
    clear hb
    refine hK.out _ _ (fun _ => (HSt.out _ hB)) (fun _ => ?_)
    clear hK K'
    (try simp only [Act.put, jq1, jq2, jq3])
    refine G_step (i := 7) (o := _) (by kernel_rfl) rfl (fun K' hK => ?_)
    go_simp
    refine (CF.out _ hB).mono ?_
    rintro e y17 ⟨fa, fc, rfl, HV⟩
    dsimp only
    have hb := HV.out.1
    have hfr : Hid (Lie U0.heap.size (isB bA) (fun y => Gr y fa (frT E).length (fun i => (trs (frF E (lf (frT E) i)) n).length) (fun i k => (trs (frF E (lf (frT E) i)) n).getD k 0)) y17) := hid (Lie.mono (HV.out.2.old (Nat.lt_of_lt_of_le (jq4.1 hbA.out.1).1 jq0)) hB.size)
    have hbA := hid (And.intro ((hb.block _ (jq4.1 hbA.out.1).1).trans hbA.out.1) hbA.out.2)
    have hst := hid (owns3_below hst.out hb)
    have hnx := hid (hnx.out.below hb)
    clear HV
    replace hB := hB.trans (hb.mono hB.size)
    clear hb
    refine hK.out _ _ (fun _ => (HSt.out _ hB)) (fun _ => ?_)
    clear hK K'
    (try simp only [Act.put, jq1, jq2, jq3])
    refine G_tk (i := 8) (oi := { dst := some 33, op := Op.build 32 #[(0, Operand.tmp 28), (1, Operand.tmp 30), (4, Operand.tmp 32)], type := _, pos := _, after := _, guard := _ }) (v := .agg #[.slice sa L.length sc, .slice (some ⟨nb, 0, none⟩) n n, .slice none 0 0, .slice none 0 0, .slice fa (frT E).length fc]) (HSt.out _ hB) ?_
    (try simp only [Act.put, jq1, jq2, jq3])
    obtain ⟨⟨z0, z1, z2, z3, z4⟩, zf⟩ := five_cells hbA.out.1
    have f0 := zf 0
    have f1 := zf 1
    have f2 := zf 2
    have f3 := zf 3
    have f4 := zf 4
    clear zf
    refine G_step (i := 10) (o := _) (by kernel_rfl) rfl (fun K' hK => ?_)
    go_simp
    obtain ⟨y18, hy⟩ : ∃ q, (((((y17.setCell ⟨bA, 0, none⟩ (.slice sa L.length sc)).setCell ⟨bA, 1, none⟩ (.slice (some ⟨nb, 0, none⟩) n n)).setCell ⟨bA, 2, none⟩ (.slice none 0 0)).setCell ⟨bA, 3, none⟩ (.slice none 0 0)).setCell ⟨bA, 4, none⟩ (.slice fa (frT E).length fc)) = q := ⟨_, rfl⟩
    rw [hy]
    obtain ⟨hx5, hxb⟩ := set5 _ _ _ _ _ hbA.out.1 hy
    have hB2 : Below U0.heap.size U0 y18 := hB.trans (hxb.below hbA.out.2 hB.size)
    have HFIN : Hid (Below U0.heap.size U0 y18 ∧ y18.heap[bA]? = some (.cells #[.slice sa L.length sc, .slice (some ⟨nb, 0, none⟩) n n, .slice none 0 0, .slice none 0 0, .slice fa (frT E).length fc] 32) ∧ U0.heap.size ≤ bA ∧ y18.ownsRow U0.heap.size 3 1 (.slice sa L.length sc) L.length (vals L) ∧ Lie U0.heap.size (isB bA) (fun y => Gr y (some ⟨nb, 0, none⟩) n (fun s => (nxt E s).length) (fun s i => (nxt E s).getD i 0)) y18 ∧ Lie U0.heap.size (isB bA) (fun y => Gr y fa (frT E).length (fun i => (trs (frF E (lf (frT E) i)) n).length) (fun i k => (trs (frF E (lf (frT E) i)) n).getD k 0)) y18) := hid ⟨hB2, hx5, hbA.out.2, own_but32 hst.out hbA.out.1 hxb, hnx.out.stay hxb, hfr.out.stay hxb⟩
    clear hxb hx5 hy hbA hst hnx hfr
    refine hK.out _ _ (fun _ => HSt.out _ hB2) (fun _ => ?_)
    clear hK K'
    (try simp only [Act.put, jq1, jq2, jq3])
    refine G_done (by kernel_rfl) ?_ _
    go_wp2_with fail
    go_meet
    exact ⟨bA, sa, sc, nb, fa, fc, rfl, HFIN⟩
  ·refine ⟨_, rfl, fun K' hK => ?_⟩
   go_simp
   obtain ⟨y19, hy⟩ : ∃ q, q = y0.alloc (.cells nil5 32) := ⟨_, rfl⟩
   have hb : Below y0.heap.size y0 y19 := by rw [hy]; exact box_below _ _
   obtain ⟨bA, hbx⟩ : ∃ q, q = y0.heap.size := ⟨_, rfl⟩
   have hbA : Hid (y19.heap[bA]? = some (.cells nil5 32) ∧ U0.heap.size ≤ bA) := by rw [hy, hbx]; exact hid ⟨Go.Deep.blk_alloc_new _ _, hB.size⟩
   rw [← hy]
   rw [← hbx]
   clear hy hbx
   replace hB := hB.trans (hb.mono hB.size)
   clear hb
   refine hK.out _ _ (fun _ => (HSt.out _ hB)) (fun _ => ?_)
   clear hK K'
   (try simp only [Act.put, jq1, jq2, jq3])
   refine G_step (i := 2) (o := _) (by kernel_rfl) rfl (fun K' hK => ?_)
   go_simp
   refine (CA.out _ hB).mono ?_
   rintro e y20 ⟨g1, rfl, hge, hr, hb⟩
   dsimp only
   have hbA := hid (And.intro ((hb.block _ (jq4.1 hbA.out.1).1).trans hbA.out.1) hbA.out.2)
   have hg1 : Hid (y20.rowIs g1 4 n (fun s => .bool (trv E P s))) := hid hr
   clear hge hr
   replace hB := hB.trans (hb.mono hB.size)
   clear hb
   refine hK.out _ _ (fun _ => (HSt.out _ hB)) (fun _ => ?_)
   clear hK K'
   (try simp only [Act.put, jq1, jq2, jq3])
   refine G_step (i := 3) (o := _) (by kernel_rfl) rfl (fun K' hK => ?_)
   go_simp
   refine (where17 (c := n) (rowIs_rowB hg1.out) hn1).mono ?_
   rintro e y21 ⟨v, rfl, HV⟩
   rw [← HL.out] at HV
   obtain ⟨sa, sc, rfl, _⟩ := owns_row HV.out.1
   dsimp only
   have hb := HV.out.2
   have hbA := hid (And.intro ((hb.block _ (jq4.1 hbA.out.1).1).trans hbA.out.1) hbA.out.2)
   have hst : Hid (y21.ownsRow U0.heap.size 3 1 (.slice sa L.length sc) L.length (vals L)) := hid (owns_baseT HV.out.1 hB.size)
   clear HV hg1
   replace hB := hB.trans (hb.mono hB.size)
   clear hb
   refine hK.out _ _ (fun _ => (HSt.out _ hB)) (fun _ => ?_)
   clear hK K'
   (try simp only [Act.put, jq1, jq2, jq3])
   refine G_step (i := 5) (o := _) (by kernel_rfl) rfl (fun K' hK => ?_)
   go_simp
   refine (CN.out _ hB).mono ?_
   rintro e y22 ⟨nb, rfl, HV⟩
   dsimp only
   have hb := HV.out.1
   have hnx : Hid (Lie U0.heap.size (isB bA) (fun y => Gr y (some ⟨nb, 0, none⟩) n (fun s => (nxt E s).length) (fun s i => (nxt E s).getD i 0)) y22) := hid (Lie.mono (HV.out.2.old (Nat.lt_of_lt_of_le (jq4.1 hbA.out.1).1 jq0)) hB.size)
   have hbA := hid (And.intro ((hb.block _ (jq4.1 hbA.out.1).1).trans hbA.out.1) hbA.out.2)
   have hst := hid (owns3_below hst.out hb)
   clear HV
   replace hB := hB.trans (hb.mono hB.size)
   clear hb
   refine hK.out _ _ (fun _ => (HSt.out _ hB)) (fun _ => ?_)
   clear hK K'
   (try simp only [Act.put, jq1, jq2, jq3])
   refine G_step (i := 7) (o := _) (by kernel_rfl) rfl (fun K' hK => ?_)
   go_simp
   refine (CF.out _ hB).mono ?_
   rintro e y23 ⟨fa, fc, rfl, HV⟩
   dsimp only
   have hb := HV.out.1
   have hfr : Hid (Lie U0.heap.size (isB bA) (fun y => Gr y fa (frT E).length (fun i => (trs (frF E (lf (frT E) i)) n).length) (fun i k => (trs (frF E (lf (frT E) i)) n).getD k 0)) y23) := hid (Lie.mono (HV.out.2.old (Nat.lt_of_lt_of_le (jq4.1 hbA.out.1).1 jq0)) hB.size)
   have hbA := hid (And.intro ((hb.block _ (jq4.1 hbA.out.1).1).trans hbA.out.1) hbA.out.2)
   have hst := hid (owns3_below hst.out hb)
   have hnx := hid (hnx.out.below hb)
   clear HV
   replace hB := hB.trans (hb.mono hB.size)
   clear hb
   refine hK.out _ _ (fun _ => (HSt.out _ hB)) (fun _ => ?_)
   clear hK K'
   (try simp only [Act.put, jq1, jq2, jq3])
   refine G_tk (i := 8) (oi := { dst := some 33, op := Op.build 32 #[(0, Operand.tmp 28), (1, Operand.tmp 30), (4, Operand.tmp 32)], type := _, pos := _, after := _, guard := _ }) (v := .agg #[.slice sa L.length sc, .slice (some ⟨nb, 0, none⟩) n n, .slice none 0 0, .slice none 0 0, .slice fa (frT E).length fc]) (HSt.out _ hB) ?_
   (try simp only [Act.put, jq1, jq2, jq3])
   obtain ⟨⟨z0, z1, z2, z3, z4⟩, zf⟩ := five_cells hbA.out.1
   have f0 := zf 0
   have f1 := zf 1
   have f2 := zf 2
   have f3 := zf 3
   have f4 := zf 4
   clear zf
   refine G_step (i := 10) (o := _) (by kernel_rfl) rfl (fun K' hK => ?_)
   go_simp
   obtain ⟨y24, hy⟩ : ∃ q, (((((y23.setCell ⟨bA, 0, none⟩ (.slice sa L.length sc)).setCell ⟨bA, 1, none⟩ (.slice (some ⟨nb, 0, none⟩) n n)).setCell ⟨bA, 2, none⟩ (.slice none 0 0)).setCell ⟨bA, 3, none⟩ (.slice none 0 0)).setCell ⟨bA, 4, none⟩ (.slice fa (frT E).length fc)) = q := ⟨_, rfl⟩
   rw [hy]
   obtain ⟨hx5, hxb⟩ := set5 _ _ _ _ _ hbA.out.1 hy
   have hB2 : Below U0.heap.size U0 y24 := hB.trans (hxb.below hbA.out.2 hB.size)
   have HFIN : Hid (Below U0.heap.size U0 y24 ∧ y24.heap[bA]? = some (.cells #[.slice sa L.length sc, .slice (some ⟨nb, 0, none⟩) n n, .slice none 0 0, .slice none 0 0, .slice fa (frT E).length fc] 32) ∧ U0.heap.size ≤ bA ∧ y24.ownsRow U0.heap.size 3 1 (.slice sa L.length sc) L.length (vals L) ∧ Lie U0.heap.size (isB bA) (fun y => Gr y (some ⟨nb, 0, none⟩) n (fun s => (nxt E s).length) (fun s i => (nxt E s).getD i 0)) y24 ∧ Lie U0.heap.size (isB bA) (fun y => Gr y fa (frT E).length (fun i => (trs (frF E (lf (frT E) i)) n).length) (fun i k => (trs (frF E (lf (frT E) i)) n).getD k 0)) y24) := hid ⟨hB2, hx5, hbA.out.2, own_but32 hst.out hbA.out.1 hxb, hnx.out.stay hxb, hfr.out.stay hxb⟩
   clear hxb hx5 hy hbA hst hnx hfr
   refine hK.out _ _ (fun _ => HSt.out _ hB2) (fun _ => ?_)
   clear hK K'
   (try simp only [Act.put, jq1, jq2, jq3])
   refine G_done (by kernel_rfl) ?_ _
   go_wp2_with fail
   go_meet
   exact ⟨bA, sa, sc, nb, fa, fc, rfl, HFIN⟩
 obtain ⟨bA, sa, sc, nb, fa, fc, rfl, HCx⟩ := hcut
 have hbx := (HSt.out wc HCx.out.1).1
 have C21 := hid (CL.out wc HCx.out.1)
 clear CA CN CF CL HSt hB cb
 go_wp2_with fail
 refine C21.out.mono ?_
 rintro e w5 ⟨mb, ob, rfl, HLt⟩
 have hbA5 : w5.heap[bA]? = some (.cells #[.slice sa L.length sc, .slice (some ⟨nb, 0, none⟩) n n, .slice none 0 0, .slice none 0 0, .slice fa (frT E).length fc] 32) := (HLt.out.1.block _ (jq4.1 HCx.out.2.1).1).trans HCx.out.2.1
 obtain ⟨⟨z0, z1, z2, z3, z4⟩, zf⟩ := five_cells hbA5
 have g2 := zf 2
 have g3 := zf 3
 obtain ⟨w6, hw6⟩ : ∃ q, (w5.setCell ⟨bA, 2, none⟩ (.slice (some ⟨mb, 0, none⟩) n n)).setCell ⟨bA, 3, none⟩ (.slice (some ⟨ob, 0, none⟩) n n) = q := ⟨_, rfl⟩
 have h6 : w6.heap[bA]? = some (.cells #[.slice sa L.length sc, .slice (some ⟨nb, 0, none⟩) n n, .slice (some ⟨mb, 0, none⟩) n n, .slice (some ⟨ob, 0, none⟩) n n, .slice fa (frT E).length fc] 32) := by
  rw [← hw6]
  have e := blk_setCell (i := 3) (v := .slice (some ⟨ob, 0, none⟩) n n) (blk_setCell (i := 2) (v := .slice (some ⟨mb, 0, none⟩) n n) hbA5)
  simpa using e
 have hx6 : But bA w5 w6 := by rw [← hw6]; exact ((But.refl bA w5).setCell 2 _).setCell 3 _
 have HA6 := hid (And.intro hbA5 (And.intro h6 hx6))
 have HW6 := hid hw6
 have hrw := (jq4.1 HRU.out).1
 have HR2 : Hid (w6.heap[w.heap.size + 1]? = some (.cells nil5 32)) := hid (by
  have q1 := (HCx.out.1.block _ hrw).trans HRU.out
  have q2 := (HLt.out.1.block _ (jq4.1 q1).1).trans q1
  exact (hx6.block _ (jq4.1 q2).1 (by have := HCx.out.2.2.1; omega)).trans q2)
 clear hbA5 zf hw6 h6 hx6 hbx C21
 go_upto_region 9 with fail
 rw [HW6.out]
 clear z0 z1 z2 z3 z4 g2 g3
 obtain ⟨⟨z0, z1, z2, z3, z4⟩, _⟩ := five_cells HA6.out.2.1
 have hres := HR2.out
 obtain ⟨⟨y0, y1, y2, y3, y4⟩, yf⟩ := five_cells hres
 have f0 := yf 0
 have f1 := yf 1
 have f2 := yf 2
 have f3 := yf 3
 have f4 := yf 4
 obtain ⟨X, hX⟩ : ∃ X, (((((w6.setCell ⟨w.heap.size + 1, 0, none⟩ (.slice sa L.length sc)).setCell ⟨w.heap.size + 1, 1, none⟩ (.slice (some ⟨nb, 0, none⟩) n n)).setCell ⟨w.heap.size + 1, 2, none⟩ (.slice (some ⟨mb, 0, none⟩) n n)).setCell ⟨w.heap.size + 1, 3, none⟩ (.slice (some ⟨ob, 0, none⟩) n n)).setCell ⟨w.heap.size + 1, 4, none⟩ (.slice fa (frT E).length fc)) = X := ⟨_, rfl⟩
 obtain ⟨hx5, hxb⟩ := set5 _ _ _ _ _ hres hX
 obtain ⟨⟨k0, k1, k2, k3, k4⟩, _⟩ := five_cells hx5
 have HXX : Hid (MkIs t w (.returned (.tuple #[.agg #[.slice sa L.length sc, .slice (some ⟨nb, 0, none⟩) n n, .slice (some ⟨mb, 0, none⟩) n n, .slice (some ⟨ob, 0, none⟩) n n, .slice fa (frT E).length fc], .int .i64 0])) X) := by
  have hx6 := HA6.out.2.2
  have hbA5 := HA6.out.1
  have hag : ∀ g, U0.heap.size ≤ g → g < wc.heap.size → g ≠ bA → X.heap[g]? = wc.heap[g]? := fun g h1 h2 h3 => by
   rw [hxb.block g (Nat.lt_of_lt_of_le (Nat.lt_of_lt_of_le h2 HLt.out.1.size) hx6.size) (by omega), hx6.block g (Nat.lt_of_lt_of_le h2 HLt.out.1.size) h3, HLt.out.1.block g h2]
  have hEn : n = 2 ^ E.length := by rw [HNN.out.2, HNN.out.1]
  have hrow := fun {e : TypeId} {g : Nat} {f : Nat → Value} (h : w5.rowIs g e n f) (he : e ≠ 32) => row_but32 (row_but32 h he hbA5 hx6) he hres hxb
  have hown := own_but32 (own_but32 (owns3_below HCx.out.2.2.2.1 HLt.out.1) hbA5 hx6) hres hxb
  obtain ⟨sa', sc', hv, hst⟩ := owns_row hown
  injection hv with q1 q2 q3
  subst q1
  have hnx : Gr X (some ⟨nb, 0, none⟩) n (fun s => (nxt E s).length) (fun s i => (nxt E s).getD i 0) := by
   obtain ⟨p, h1, h2⟩ := HCx.out.2.2.2.2.1
   exact h2 X (fun g hg => hag g (h1 g hg).1 (h1 g hg).2.1 (h1 g hg).2.2)
  have hfr : Gr X fa (frT E).length (fun i => (trs (frF E (lf (frT E) i)) n).length) (fun i k => (trs (frF E (lf (frT E) i)) n).getD k 0) := by
   obtain ⟨p, h1, h2⟩ := HCx.out.2.2.2.2.2
   exact h2 X (fun g hg => hag g (h1 g hg).1 (h1 g hg).2.1 (h1 g hg).2.2)
  have hm := hrow HLt.out.2.1 (by decide)
  have ho := hrow HLt.out.2.2.1 (by decide)
  have hLn : L.length ≤ n := by rw [HL.out]; exact trs_len _ _
  have hnl : ∀ s, (nxt E s).length ≤ 1024 := fun s => Nat.le_trans (trs_len _ _) (by rw [← hEn]; exact hn1)
  have hfl : ∀ i, (trs (frF E (lf (frT E) i)) n).length ≤ 1024 := fun i => Nat.le_trans (trs_len _ _) hn1
  have hfk := frT_len E
  have hEN := HNN.out.1
  have hlt : ∀ b s, ltM E b s N < 18446744073709551616 := fun b s => ltM_lt E b s (fun x hx hk3 => by have := fit_cases (HWE.out x hx).1.out.1; omega) N (by omega)
  refine HF.out ⟨sa, L.length, sc, some ⟨nb, 0, none⟩, n, n, some ⟨mb, 0, none⟩, n, n, some ⟨ob, 0, none⟩, n, n, fa, (frT E).length, fc, fun i => L.getD i 0, fun s => (nxt E s).length, fun s i => (nxt E s).getD i 0, fun s => ltM E true s N, fun s => ltM E false s N, fun i => (trs (frF E (lf (frT E) i)) n).length, fun i k => (trs (frF E (lf (frT E) i)) n).getD k 0⟩ X ?_ ?_ ?_
  ·refine ⟨hst, hnx, ⟨mb, 0, fun _ => rfl, fun i hi => by rw [Nat.zero_add]; exact hm.cell hi⟩, ⟨ob, 0, fun _ => rfl, fun i hi => by rw [Nat.zero_add]; exact ho.cell hi⟩, hfr, ?_, ?_, fun r _ => ?_, ?_, ?_, ?_, fun r _ => ?_, fun i _ => hlt true i, fun i _ => hlt false i⟩
   ·show L.length ≤ _; omega
   ·show n ≤ _; omega
   ·show (nxt E r).length ≤ _; have := hnl r; omega
   ·show n ≤ _; omega
   ·show n ≤ _; omega
   ·show (frT E).length ≤ _; omega
   ·show (trs (frF E (lf (frT E) r)) n).length ≤ _; have := hfl r; omega
  ·have h1 := HLU.out.trans ((HCx.out.1.trans (HLt.out.1.mono HCx.out.1.size)).mono HLU.out.size)
   have h2 : Below w.heap.size w w6 := h1.trans (hx6.below (by have := HCx.out.2.2.1; have := HLU.out.size; omega) h1.size)
   exact h2.trans (hxb.below (by omega) h2.size)
  ·exact ⟨hEn, rfl, rfl, by show L.length = _; rw [HL.out, hEn], fun i _ => by show L.getD i 0 = _; rw [HL.out, hEn], fun s _ => rfl, fun s _ i _ => rfl, fun s _ => by show ltM E true s N = _; rw [hEN], fun s _ => by show ltM E false s N = _; rw [hEN], rfl, fun k _ => by show (trs _ n).length = _; rw [hEn], fun k _ i _ => by show (trs _ n).getD i 0 = _; rw [hEn]⟩
 clear yf hxb hx5 hres
 go_wp2
 refine ⟨rfl, .tuple #[.agg #[.slice sa L.length sc, .slice (some ⟨nb, 0, none⟩) n n, .slice (some ⟨mb, 0, none⟩) n n, .slice (some ⟨ob, 0, none⟩) n n, .slice fa (frT E).length fc], .int .i64 0], by simp [results, Tryz.f7, go_sem, k0, k1, k2, k3, k4], ?_⟩
 exact HXX.out
theorem make7 {t : Fml} {a : Option Addr} {cap : Nat} {w : World} (hkc : kcAt w) (hk : Kds w t a) (hc : t.cnt ≤ 9223372036854775807) :
  Calls Tryz.prog 7 #[.agg #[.int .i64 t.kind, .int .i64 t.num, .slice a t.cnt cap]] w fun e w' => MkIs t w e w' := by
 by_cases h0 : (cgv t (pn t)).2 = 0
 ·by_cases h1 : 10 < (els (pn t)).length
  ·exact make_bad2 hkc hk hc h0 h1
  ·exact make_ok hkc hk hc h0 h1
 ·exact make_bad1 hkc hk hc h0
end Go.Proofs.YtmdpbaobihdgkaaGreatDoor
