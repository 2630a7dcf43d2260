/- The law LassoTurns, walked. -/
import Derived.Test.YtejombhfkobcbaaDoorSam
import Derived.Test.YtejombhfkobcbaaDoorMng
namespace Go.Proofs.YtejombhfkobcbaaDoor
open Go.RowKit

/-- An unrolled word has the same letters. -/
theorem ltr_turn {s m n : Nat} {S L : Nat → Int} (hm : 0 < m) (hn : n ≤ m) : ltr (s + n) m (cat s S L) (fun i => L ((n + i) % m)) = ltr s m S L :=
  ltr_again hm ((ltr_per s m S L).le (Nat.le_add_right _ _)) (fun i hi => cat_ltr (by omega)) (fun i hi => by
    rw [ltr_far (by omega)]
    show L ((n + i) % m) = L ((s + n + i - s) % m)
    congr 2
    omega)

theorem tr_turn {t : Fml} {s m s' m' : Nat} {S L S' L' : Nat → Int} (h : ltr s' m' S' L' = ltr s m S L) (h1 : wchk s m = 0) (h2 : wchk s' m' = 0) : trV t s' m' S' L' = trV t s m S L := by
  have hA : atm s' m' S' L' = atm s m S L := by
    funext i k
    unfold atm
    rw [h]
  have hc : hchk t s' m' = hchk t s m := by unfold hchk; rw [h1, h2]
  unfold trV
  rw [hc]
  by_cases a : hchk t s m = 0
  · rw [if_pos a, if_pos a]
    have e : hb (s' + m') (atm s' m' S' L') t 0 = hb (s + m) (atm s m S L) t 0 := by
      rw [Bool.eq_iff_iff, hb_hold (wchk_ok h2).2 (atm_per s' m' S' L'), hb_hold (wchk_ok h1).2 (atm_per s m S L), hA]
    rw [e]
  · rw [if_neg a, if_neg a]

/-- The least form of f's word, in memory. -/
structure Lf (f : Nat → Int) (w : World) (st lp : Nat) (a : Option Addr) (c : Nat) (b : Option Addr) (d : Nat) : Prop where
  n1 : a = none → st = 0 ∧ c = 0
  n2 : b = none → lp = 0 ∧ d = 0
  c1 : st ≤ c
  c2 : lp ≤ d
  r1 : RowU w a st f
  r2 : RowU w b lp (fun i => f (st + i))
  le : st + lp ≤ 60

theorem Lf.below {f : Nat → Int} {w w' : World} {st lp : Nat} {a : Option Addr} {c : Nat} {b : Option Addr} {d : Nat} (h : Lf f w st lp a c b d) (hb : Below w.heap.size w w') : Lf f w' st lp a c b d :=
  ⟨h.n1, h.n2, h.c1, h.c2, h.r1.below hb, h.r2.below hb, h.le⟩

theorem least_lf {f : Nat → Int} {w : World} {sa : Option Addr} {s sc : Nat} {la : Option Addr} {m lc : Nat} {S L : Nat → Int} (hw : Wd w sa s la m S L) (hsn : sa = none → s = 0 ∧ sc = 0) (hsc : s ≤ sc) (hlc : m ≤ lc) (h60 : s + m ≤ 60) (hm : 0 < m) (hf : ltr s m S L = f) :
    Calls Tryd.prog 22 #[.agg #[.slice sa s sc, .slice la m lc]] w fun e w' => ∃ st lp a c b d, Lea f st lp ∧ e = .returned (.tuple #[.agg #[.slice a st c, .slice b lp d], .int .i64 0]) ∧ Lf f w' st lp a c b d ∧ Below w.heap.size w w' := by
  subst hf
  refine (leastF_ok hw hsn hsc hlc h60 hm).mono ?_
  rintro e w' ⟨st, lp, a, c, b, d, h1, h2, h3, h4, h5, h6, h7, h8, h9, h10, h11⟩
  exact ⟨st, lp, a, c, b, d, h1, h4, ⟨h5, h6, h7, h8, h9, h10, by omega⟩, h11⟩

theorem least_lf2 {f : Nat → Int} {w : World} {sa : Option Addr} {s sc : Nat} {la : Option Addr} {m lc : Nat} {S L : Nat → Int} (hw : Wd w sa s la m S L) (hsn : sa = none → s = 0 ∧ sc = 0) (hsc : s ≤ sc) (hlc : m ≤ lc) (h60 : s + m ≤ 60) (hm : 0 < m) (hf : ltr s m S L = f) {st lp : Nat} (hl : Lea f st lp) :
    Calls Tryd.prog 22 #[.agg #[.slice sa s sc, .slice la m lc]] w fun e w' => ∃ a c b d, e = .returned (.tuple #[.agg #[.slice a st c, .slice b lp d], .int .i64 0]) ∧ Lf f w' st lp a c b d ∧ Below w.heap.size w w' := by
  refine (least_lf hw hsn hsc hlc h60 hm hf).mono ?_
  rintro e w' ⟨st', lp', a, c, b, d, h1, h4, h5, h6⟩
  obtain ⟨rfl, rfl⟩ := hl.uniq h1
  exact ⟨a, c, b, d, h4, h5, h6⟩

theorem sameU_refl (n : Nat) (Y : Nat → Int) : sameU n n Y Y = true := sameU_yes rfl fun _ _ => rfl

set_option maxHeartbeats 8000000 in
theorem turns_ok {w : World} {t : Fml} {a : Option Addr} {cap : Nat} {sa : Option Addr} {s sc : Nat} {la : Option Addr} {m lc : Nat} {S L : Nat → Int} (h : Fw w t a sa s sc la m lc S L) (hsc : s ≤ sc) (hlc : m ≤ lc) (h60 : s + m ≤ 60) (hm : 0 < m) (k : Int) (hk1 : -9223372036854775808 ≤ k) (hk2 : k ≤ 9223372036854775807) :
    Calls Tryd.prog 5 #[.agg #[.int .i64 t.kind, .int .i64 t.num, .slice a t.cnt cap], .agg #[.slice sa s sc, .slice la m lc], .int .i64 k] w fun e w' => e = .returned (.bool true) ∧ Below w.heap.size w w' := by
  obtain ⟨u, hu⟩ : ∃ y, y = (w.alloc (.cells #[.int .i64 t.kind, .int .i64 t.num, .slice a t.cnt cap] 24)).alloc (.cells #[.slice sa s sc, .slice la m lc] 27) := ⟨_, rfl⟩
  have hB : Below w.heap.size w u := by rw [hu]; exact below_alloc2 _ _ _
  have hx : Fx u w.heap.size t a cap sa s sc la m lc := by rw [hu]; exact fx_new _ _ _ _ _ _ _ _ _ _
  have HX : Hid (∀ z, Below u.heap.size u z → Fx z w.heap.size t a cap sa s sc la m lc ∧ Below w.heap.size w z ∧ Fw z t a sa s sc la m lc S L) := fun z hz => ⟨hx.below hz, hB.trans (hz.mono hB.size), (h.below hB).below hz⟩
  have C1 := hid (now_any u (h.below hB).kc)
  have HU := hid hu
  have hcnt := h.cnt
  have hw0 := h.wd
  have hsn := h.sn
  have hln := h.ln
  obtain ⟨n, hn⟩ : ∃ n : Nat, k % ((m + 1 : Nat) : Int) = n := ⟨(k % ((m + 1 : Nat) : Int)).toNat, (Int.toNat_of_nonneg (Int.emod_nonneg _ (by omega))).symm⟩
  have hnm : n ≤ m := by
    have := Int.emod_lt_of_pos k (show (0 : Int) < ((m + 1 : Nat) : Int) by omega)
    omega
  have CW : Hid (∀ y, Calls Tryd.prog 10 #[.agg #[.slice sa s sc, .slice la m lc]] y fun e w' => e = .returned (.int .i64 0) ∧ Below y.heap.size y w') := fun y => by
    have h := wcheck_any sa s sc la m lc y hw0.s47 hw0.m47
    rw [wchk_zero h60 hm] at h
    exact h
  have CU : Hid (∀ y, Below u.heap.size u y → Calls Tryd.prog 24 #[.agg #[.slice sa s sc, .slice la m lc], .int .i64 k] y fun e w' => ∃ va vc vb vd, e = .returned (.agg #[.slice va ((s + n : Nat)) vc, .slice vb m vd]) ∧ (Wd w' va (s + n) vb m (cat s S L) (fun i => L ((n + i) % m)) ∧ (va = none → s + n = 0 ∧ vc = 0) ∧ (vb = none → m = 0 ∧ vd = 0) ∧ s + n ≤ vc ∧ m ≤ vd) ∧ Below y.heap.size y w') := fun y hy => by
    refine (unrolled_any (HX.out y hy).2.2.wd hsn hlc h60 hm k hk1 hk2 n hn hnm).mono ?_
    rintro e w' ⟨va, vc, vb, vd, q1, q2, q3, q4, q5, q6, q7, q8⟩
    refine ⟨va, vc, vb, vd, q1, ⟨⟨q6, q7, by omega, by omega, fun i hi => ?_, fun i hi => ?_⟩, q2, q3, q4, q5⟩, q8⟩
    · rw [cat_ltr (show i < s + m by omega)]
      exact hw0.lu64 hm i
    · exact hw0.lu _ (Nat.mod_lt _ hm)
  have hlt := ltr_turn (s := s) (S := S) (L := L) hm hnm
  obtain ⟨s', hs'⟩ : ∃ y, y = s + n := ⟨_, rfl⟩
  rw [← hs'] at CU hlt
  generalize cat s S L = S' at CU hlt
  generalize (fun i => L ((n + i) % m)) = L' at CU hlt
  have hw1 : wchk s m = 0 := wchk_zero h60 hm
  obtain ⟨f, hf⟩ : ∃ y, y = ltr s m S L := ⟨_, rfl⟩
  have HFW : Hid (ltr s m S L = f) := hf.symm
  have HFV : Hid (ltr s' m S' L' = f) := hlt.trans hf.symm
  have HBD : Hid (∀ i, 0 ≤ f i ∧ f i < 18446744073709551616) := fun i => by rw [hf]; exact hw0.lu64 hm i
  have HTR : Hid (wchk s' m = 0 → trV t s' m S' L' = trV t s m S L) := fun h2 => tr_turn hlt hw1 h2
  have HLN : Hid ((sa = none → s = 0 ∧ sc = 0) ∧ (la = none → m = 0 ∧ lc = 0)) := ⟨hsn, hln⟩
  have HA : Hid (∀ (z : World) st lp a c b d, Lea f st lp → Lf f z st lp a c b d → Calls Tryd.prog 22 #[.agg #[.slice a st c, .slice b lp d]] z fun e w' => ∃ a c b d, e = .returned (.tuple #[.agg #[.slice a st c, .slice b lp d], .int .i64 0]) ∧ Lf f w' st lp a c b d ∧ Below z.heap.size z w') := fun z st lp a c b d hl hL =>
    least_lf2 ⟨hL.r1, hL.r2, by have := hL.le; omega, by have := hL.le; omega, fun i _ => HBD.out i, fun i _ => HBD.out _⟩ hL.n1 hL.c1 hL.c2 hL.le hl.pos (ltr_again hl.pos hl.per (fun _ _ => rfl) (fun _ _ => rfl)) hl
  have HSW : Hid (∀ (z : World) st lp a c b d a' c' b' d', Lf f z st lp a c b d → Lf f z st lp a' c' b' d' → Calls Tryd.prog 23 #[.agg #[.slice a st c, .slice b lp d], .agg #[.slice a' st c', .slice b' lp d']] z fun e w' => e = .returned (.bool true) ∧ Below z.heap.size z w') := fun z st lp a c b d a' c' b' d' h1 h2 => by
    have q := sameWord_any (sc := c) (lc := d) (sc' := c') (lc' := d') (by have := h1.le; omega) (by have := h1.le; omega) h1.r1 h2.r1 h1.r2 h2.r2
    rw [sameU_refl, sameU_refl] at q
    exact q
  have H60 : Hid (s + m ≤ 60 ∧ 0 < m ∧ s ≤ sc ∧ m ≤ lc) := ⟨h60, hm, hsc, hlc⟩
  have HWK : Hid (s' ≤ 140737488355328 ∧ m ≤ 140737488355328) := ⟨by omega, by omega⟩
  clear hu hB hx h hs' hn hnm hlt hw1 hf hw0 hsn hln hk1 hk2 h60 hm hsc hlc
  go_enter Tryd.func5, Tryd.ntmps5
  go_wp2_with fail
  rw [← HU.out]
  refine C1.out.mono ?_
  rintro e z ⟨rfl, hb⟩
  have HZ : Hid (Below u.heap.size u z) := hb
  clear hb C1 HU
  obtain ⟨⟨f0, f1, f2, g0, g1⟩, -⟩ := HX.out z HZ.out
  have D := hid (CW.out z)
  go_wp2_with fail
  refine D.out.mono ?_
  rintro e z2 ⟨rfl, hb⟩
  have HZ2 : Hid (Below u.heap.size u z2) := HZ.out.trans (hb.mono HZ.out.size)
  clear hb D HZ CW f0 f1 f2 g0 g1
  obtain ⟨⟨f0, f1, f2, g0, g1⟩, -⟩ := HX.out z2 HZ2.out
  have D := hid (CU.out z2 HZ2.out)
  go_wp2_with fail
  refine D.out.mono ?_
  rintro e z3 ⟨va, vc, vb, vd, rfl, hV, hb⟩
  have HV := hid hV
  have HZ3 : Hid (Below u.heap.size u z3) := HZ2.out.trans (hb.mono HZ2.out.size)
  clear hb hV D HZ2 CU f0 f1 f2 g0 g1
  obtain ⟨x, hx⟩ : ∃ y, y = z3.alloc (.cells #[.slice va s' vc, .slice vb m vd] 27) := ⟨_, rfl⟩
  have hb3 : Below z3.heap.size z3 x := by rw [hx]; exact box_below _ _
  have xv : x.heap[z3.heap.size]? = some (.cells #[.slice va s' vc, .slice vb m vd] 27) := by rw [hx]; exact Go.Deep.blk_alloc_new _ _
  have hux : Below u.heap.size u x := HZ3.out.trans (hb3.mono HZ3.out.size)
  have HY : Hid (∀ y, Below x.heap.size x y → Fx y w.heap.size t a cap sa s sc la m lc ∧ Below w.heap.size w y ∧ Fw y t a sa s sc la m lc S L ∧ (y.cell? ⟨z3.heap.size, 0, none⟩ = some (.slice va s' vc) ∧ y.cell? ⟨z3.heap.size, 1, none⟩ = some (.slice vb m vd)) ∧ Fw y t a va s' vc vb m vd S' L') := fun y hy => by
    have q := HX.out y (hux.trans (hy.mono hux.size))
    exact ⟨q.1, q.2.1, q.2.2, ⟨below_cell hy (Nat.le_refl _) (cell_of_cells xv rfl), below_cell hy (Nat.le_refl _) (cell_of_cells xv rfl)⟩, ⟨q.2.2.kc, q.2.2.kds, q.2.2.cnt, (HV.out.1.below hb3).below hy, HV.out.2.1, HV.out.2.2.1⟩⟩
  have D := hid (wcheck_any va s' vc vb m vd x HWK.out.1 HWK.out.2)
  have HVC : Hid (s' ≤ vc ∧ m ≤ vd) := HV.out.2.2.2
  have HXX := hid hx
  clear hb3 xv hux HZ3 HX hx HV
  go_wp2_with fail
  rw [← HXX.out]
  refine D.out.mono ?_
  rintro e y ⟨rfl, hy⟩
  have HYY := hid hy
  clear hy D HXX
  obtain ⟨-, hbw, -⟩ := HY.out y HYY.out
  have HBW := hid hbw
  clear hbw
  by_cases hv : wchk s' m = 0
  · have HOV := hid (wchk_ok hv)
    have HT := hid (HTR.out hv)
    rw [hv]
    clear hv HTR
    obtain ⟨⟨f0, f1, f2, g0, g1⟩, -, hfw, ⟨v0, v1⟩, -⟩ := HY.out y HYY.out
    have D := hid (truth_any (cap := cap) hfw)
    obtain ⟨⟨p1, p2⟩, hp⟩ : ∃ p, p = trV t s m S L := ⟨_, rfl⟩
    rw [← hp] at D HT
    clear hp hfw HBW
    go_wp2_with fail
    refine D.out.mono ?_
    rintro e y2 ⟨rfl, hb⟩
    have HY2 : Hid (Below x.heap.size x y2) := HYY.out.trans (hb.mono HYY.out.size)
    clear hb HYY D f0 f1 f2 g0 g1 v0 v1
    obtain ⟨⟨f0, f1, f2, g0, g1⟩, -, -, ⟨v0, v1⟩, hfv⟩ := HY.out y2 HY2.out
    have D := hid (truth_any (cap := cap) hfv)
    rw [HT.out] at D
    clear hfv HT
    go_wp2_with fail
    refine D.out.mono ?_
    rintro e y3 ⟨rfl, hb⟩
    have HY3 : Hid (Below x.heap.size x y3) := HY2.out.trans (hb.mono HY2.out.size)
    clear hb HY2 D f0 f1 f2 g0 g1 v0 v1
    obtain ⟨⟨f0, f1, f2, g0, g1⟩, -, hfw, ⟨v0, v1⟩, hfv⟩ := HY.out y3 HY3.out
    have D : Hid (Calls Tryd.prog 25 #[.agg #[.slice va s' vc, .slice vb m vd], .agg #[.slice sa s sc, .slice la m lc]] y3 fun e w' => e = .returned (.tuple #[.bool true, .int .i64 0]) ∧ Below y3.heap.size y3 w') := by
      refine (sameF_ok hfv.wd hfv.sn HVC.out.1 HVC.out.2 HOV.out.1 HOV.out.2 hfw.wd hfw.sn H60.out.2.2.1 H60.out.2.2.2 H60.out.1 H60.out.2.1).mono ?_
      rintro e w' ⟨st, lp, st', lp', l1, l2, l3, l4⟩
      rw [HFV.out] at l1 l3
      rw [HFW.out] at l2 l3
      obtain ⟨rfl, rfl⟩ := l1.uniq l2
      rw [sameU_refl, sameU_refl] at l3
      exact ⟨l3, l4⟩
    clear hfw hfv
    go_wp2_with fail
    refine D.out.mono ?_
    rintro e y4 ⟨rfl, hb⟩
    have HY4 : Hid (Below x.heap.size x y4) := HY3.out.trans (hb.mono HY3.out.size)
    clear hb HY3 D f0 f1 f2 g0 g1 v0 v1
    obtain ⟨⟨f0, f1, f2, g0, g1⟩, -, -, ⟨v0, v1⟩, hfv⟩ := HY.out y4 HY4.out
    have D := hid (least_lf hfv.wd hfv.sn HVC.out.1 HVC.out.2 HOV.out.1 HOV.out.2 HFV.out)
    clear hfv
    go_wp2_with fail
    refine D.out.mono ?_
    rintro e y5 ⟨st, lp, a5, c5, b5, d5, hle, rfl, hLf, hb⟩
    have HLE := hid hle
    have HY5 : Hid (Below x.heap.size x y5) := HY4.out.trans (hb.mono HY4.out.size)
    obtain ⟨x6, hx6⟩ : ∃ y, y = y5.alloc (.cells #[.slice a5 st c5, .slice b5 lp d5] 27) := ⟨_, rfl⟩
    have hb6 : Below y5.heap.size y5 x6 := by rw [hx6]; exact box_below _ _
    have xa : x6.heap[y5.heap.size]? = some (.cells #[.slice a5 st c5, .slice b5 lp d5] 27) := by rw [hx6]; exact Go.Deep.blk_alloc_new _ _
    have HY6 : Hid (Below x.heap.size x x6) := HY5.out.trans (hb6.mono HY5.out.size)
    have HA6 : Hid (∀ y, Below x6.heap.size x6 y → (y.cell? ⟨y5.heap.size, 0, none⟩ = some (.slice a5 st c5) ∧ y.cell? ⟨y5.heap.size, 1, none⟩ = some (.slice b5 lp d5)) ∧ Lf f y st lp a5 c5 b5 d5 ∧ Below x.heap.size x y) := fun y hy => ⟨⟨below_cell hy (Nat.le_refl _) (cell_of_cells xa rfl), below_cell hy (Nat.le_refl _) (cell_of_cells xa rfl)⟩, (hLf.below hb6).below hy, HY6.out.trans (hy.mono HY6.out.size)⟩
    have D6 := hid (least_lf2 (HY.out x6 HY6.out).2.2.1.wd HLN.out.1 H60.out.2.2.1 H60.out.2.2.2 H60.out.1 H60.out.2.1 HFW.out hle)
    have HX6 := hid hx6
    obtain ⟨⟨-, -, -, g0', g1'⟩, -⟩ := HY.out x6 HY6.out
    rw [hx6] at g0' g1'
    clear hb D HY4 f0 f1 f2 g0 g1 v0 v1 hle hLf hx6 hb6 xa HY5 HY6
    go_wp2_with fail
    rw [← HX6.out]
    refine D6.out.mono ?_
    rintro e y7 ⟨a7, c7, b7, d7, rfl, hLf, hb⟩
    have HY7 := hid hb
    obtain ⟨x8, hx8⟩ : ∃ y, y = y7.alloc (.cells #[.slice a7 st c7, .slice b7 lp d7] 27) := ⟨_, rfl⟩
    have hb8 : Below y7.heap.size y7 x8 := by rw [hx8]; exact box_below _ _
    have xa : x8.heap[y7.heap.size]? = some (.cells #[.slice a7 st c7, .slice b7 lp d7] 27) := by rw [hx8]; exact Go.Deep.blk_alloc_new _ _
    have HY8 : Hid (Below x6.heap.size x6 x8) := HY7.out.trans (hb8.mono HY7.out.size)
    have HA8 : Hid (∀ y, Below x8.heap.size x8 y → (y.cell? ⟨y7.heap.size, 0, none⟩ = some (.slice a7 st c7) ∧ y.cell? ⟨y7.heap.size, 1, none⟩ = some (.slice b7 lp d7)) ∧ Lf f y st lp a7 c7 b7 d7 ∧ Below x6.heap.size x6 y) := fun y hy => ⟨⟨below_cell hy (Nat.le_refl _) (cell_of_cells xa rfl), below_cell hy (Nat.le_refl _) (cell_of_cells xa rfl)⟩, (hLf.below hb8).below hy, HY8.out.trans (hy.mono HY8.out.size)⟩
    have D8 := hid (HA.out x8 st lp a5 c5 b5 d5 HLE.out (HA6.out x8 HY8.out).2.1)
    have HX8 := hid hx8
    obtain ⟨⟨a0, a1⟩, -⟩ := HA6.out x8 HY8.out
    rw [hx8] at a0 a1
    clear hb D6 HX6 g0' g1' hLf hx8 hb8 xa HY7 HY8 HA
    go_wp2_with fail
    rw [← HX8.out]
    refine D8.out.mono ?_
    rintro e y9 ⟨a9, c9, b9, d9, rfl, hLf, hb⟩
    have HY9 := hid hb
    obtain ⟨x10, hx10⟩ : ∃ y, y = y9.alloc (.cells #[.slice a9 st c9, .slice b9 lp d9] 27) := ⟨_, rfl⟩
    have hb10 : Below y9.heap.size y9 x10 := by rw [hx10]; exact box_below _ _
    have xa : x10.heap[y9.heap.size]? = some (.cells #[.slice a9 st c9, .slice b9 lp d9] 27) := by rw [hx10]; exact Go.Deep.blk_alloc_new _ _
    have HY10 : Hid (Below x8.heap.size x8 x10) := HY9.out.trans (hb10.mono HY9.out.size)
    have HA10 : Hid (∀ y, Below x10.heap.size x10 y → (y.cell? ⟨y9.heap.size, 0, none⟩ = some (.slice a9 st c9) ∧ y.cell? ⟨y9.heap.size, 1, none⟩ = some (.slice b9 lp d9)) ∧ Lf f y st lp a9 c9 b9 d9 ∧ Below x8.heap.size x8 y) := fun y hy => ⟨⟨below_cell hy (Nat.le_refl _) (cell_of_cells xa rfl), below_cell hy (Nat.le_refl _) (cell_of_cells xa rfl)⟩, (hLf.below hb10).below hy, HY10.out.trans (hy.mono HY10.out.size)⟩
    have HALL : Hid (∀ y, Below x10.heap.size x10 y → ((y.cell? ⟨y5.heap.size, 0, none⟩ = some (.slice a5 st c5) ∧ y.cell? ⟨y5.heap.size, 1, none⟩ = some (.slice b5 lp d5)) ∧ (y.cell? ⟨y9.heap.size, 0, none⟩ = some (.slice a9 st c9) ∧ y.cell? ⟨y9.heap.size, 1, none⟩ = some (.slice b9 lp d9))) ∧ Lf f y st lp a5 c5 b5 d5 ∧ Lf f y st lp a7 c7 b7 d7 ∧ Lf f y st lp a9 c9 b9 d9 ∧ Below w.heap.size w y) := fun y hy => by
      have q1 := HA10.out y hy
      have q2 := HA8.out y q1.2.2
      have q3 := HA6.out y q2.2.2
      exact ⟨⟨q3.1, q1.1⟩, q3.2.1, q2.2.1, q1.2.1, (HY.out y q3.2.2).2.1⟩
    have q0 := HALL.out x10 (Below.refl _ _)
    have D10 := hid (HSW.out x10 st lp a5 c5 b5 d5 a7 c7 b7 d7 q0.2.1 q0.2.2.1)
    have HX10 := hid hx10
    obtain ⟨⟨a0', a1'⟩, -, -⟩ := HA6.out x10 (HA8.out x10 HY10.out).2.2
    obtain ⟨⟨m0, m1⟩, -, -⟩ := HA8.out x10 HY10.out
    rw [hx10] at a0' a1' m0 m1
    clear hb D8 HX8 a0 a1 hLf hx10 hb10 xa HY9 HY10 q0 HA10 HA8 HA6
    go_wp2_with fail
    rw [← HX10.out]
    refine D10.out.mono ?_
    rintro e y11 ⟨rfl, hb⟩
    obtain ⟨⟨⟨r0, r1⟩, r2, r3⟩, l1, l2, l3, -⟩ := HALL.out y11 hb
    have D11 := hid (HSW.out y11 st lp a5 c5 b5 d5 a9 c9 b9 d9 l1 l3)
    have HB11 := hid hb
    clear hb D10 HX10 l1 l2 l3 a0' a1' m0 m1
    go_wp2_with fail
    refine D11.out.mono ?_
    rintro e y12 ⟨rfl, hb⟩
    have HFIN := hid (HALL.out y12 (HB11.out.trans (hb.mono HB11.out.size))).2.2.2.2
    clear hb D11 r0 r1 r2 r3
    cases p1 <;> cases p2 <;>
    · go_wp2
      go_ret
      exact ⟨by first | rfl | simp, HFIN.out⟩
  · have hvb : (wchk s' m != 0) = true := by simpa using hv
    generalize wchk s' m = q at *
    go_wp2
    go_ret
    exact ⟨rfl, HBW.out⟩

theorem rowU_nil (w : World) (a : Option Addr) (Z : Nat → Int) : RowU w a 0 Z := ⟨0, 0, fun h => absurd h (Nat.lt_irrefl 0), fun i hi => absurd hi (Nat.not_lt_zero i)⟩

set_option maxHeartbeats 8000000 in
theorem turns_bad {w : World} {t : Fml} {a : Option Addr} {cap : Nat} {sa : Option Addr} {s sc : Nat} {la : Option Addr} {m lc : Nat} {S L : Nat → Int} (h : Fw w t a sa s sc la m lc S L) (hq : wchk s m ≠ 0) (k : Int) :
    Calls Tryd.prog 5 #[.agg #[.int .i64 t.kind, .int .i64 t.num, .slice a t.cnt cap], .agg #[.slice sa s sc, .slice la m lc], .int .i64 k] w fun e w' => e = .returned (.bool true) ∧ Below w.heap.size w w' := by
  obtain ⟨u, hu⟩ : ∃ y, y = (w.alloc (.cells #[.int .i64 t.kind, .int .i64 t.num, .slice a t.cnt cap] 24)).alloc (.cells #[.slice sa s sc, .slice la m lc] 27) := ⟨_, rfl⟩
  have hB : Below w.heap.size w u := by rw [hu]; exact below_alloc2 _ _ _
  have hx : Fx u w.heap.size t a cap sa s sc la m lc := by rw [hu]; exact fx_new _ _ _ _ _ _ _ _ _ _
  have HX : Hid (∀ z, Below u.heap.size u z → Fx z w.heap.size t a cap sa s sc la m lc ∧ Below w.heap.size w z) := fun z hz => ⟨hx.below hz, hB.trans (hz.mono hB.size)⟩
  have C1 := hid (now_any u (h.below hB).kc)
  have HU := hid hu
  have hw0 := h.wd
  have CW : Hid (∀ y, Calls Tryd.prog 10 #[.agg #[.slice sa s sc, .slice la m lc]] y fun e w' => e = .returned (.int .i64 (wchk s m)) ∧ Below y.heap.size y w') := fun y => wcheck_any sa s sc la m lc y hw0.s47 hw0.m47
  have CL : Hid (∀ y, Calls Tryd.prog 22 #[.agg #[.slice sa s sc, .slice la m lc]] y fun e w' => e = .returned (.tuple #[.agg #[.slice none 0 0, .slice none 0 0], .int .i64 (wchk s m)]) ∧ Below y.heap.size y w') := fun y => leastF_bad hw0.s47 hw0.m47 hq
  have CS : Hid (∀ y, Calls Tryd.prog 23 #[.agg #[.slice none 0 0, .slice none 0 0], .agg #[.slice none 0 0, .slice none 0 0]] y fun e w' => e = .returned (.bool true) ∧ Below y.heap.size y w') := fun y => by
    have q := sameWord_any (w := y) (sa := none) (s := 0) (sc := 0) (la := none) (m := 0) (lc := 0) (S := S) (L := L) (sa' := none) (s' := 0) (sc' := 0) (la' := none) (m' := 0) (lc' := 0) (S' := S) (L' := L) (by omega) (by omega) (rowU_nil _ _ _) (rowU_nil _ _ _) (rowU_nil _ _ _) (rowU_nil _ _ _)
    rw [sameU_refl, sameU_refl] at q
    exact q
  have hqb : (wchk s m != 0) = true := by simpa using hq
  have hqc : (wchk s m == 0) = false := beq_eq_false_iff_ne.2 hq
  generalize wchk s m = q at *
  clear hu hB hx h hw0
  go_enter Tryd.func5, Tryd.ntmps5
  go_wp2_with fail
  rw [← HU.out]
  refine C1.out.mono ?_
  rintro e z ⟨rfl, hb⟩
  have HZ : Hid (Below u.heap.size u z) := hb
  clear hb C1 HU
  obtain ⟨⟨f0, f1, f2, g0, g1⟩, -⟩ := HX.out z HZ.out
  have D := hid (CW.out z)
  go_wp2_with fail
  refine D.out.mono ?_
  rintro e z2 ⟨rfl, hb⟩
  have HZ2 : Hid (Below u.heap.size u z2) := HZ.out.trans (hb.mono HZ.out.size)
  clear hb D HZ f0 f1 f2 g0 g1
  obtain ⟨⟨f0, f1, f2, g0, g1⟩, -⟩ := HX.out z2 HZ2.out
  have D := hid (CL.out z2)
  go_wp2_with fail
  refine D.out.mono ?_
  rintro e z3 ⟨rfl, hb⟩
  have HZ3 : Hid (Below u.heap.size u z3) := HZ2.out.trans (hb.mono HZ2.out.size)
  clear hb D HZ2 CL f0 f1 f2 g0 g1
  obtain ⟨x, hx⟩ : ∃ y, y = z3.alloc (.cells #[.slice none 0 0, .slice none 0 0] 27) := ⟨_, rfl⟩
  have hb3 : Below z3.heap.size z3 x := by rw [hx]; exact box_below _ _
  have xv : x.heap[z3.heap.size]? = some (.cells #[.slice none 0 0, .slice none 0 0] 27) := by rw [hx]; exact Go.Deep.blk_alloc_new _ _
  have hux : Below u.heap.size u x := HZ3.out.trans (hb3.mono HZ3.out.size)
  have HY : Hid (∀ y, Below x.heap.size x y → (y.cell? ⟨z3.heap.size, 0, none⟩ = some (.slice none 0 0) ∧ y.cell? ⟨z3.heap.size, 1, none⟩ = some (.slice none 0 0)) ∧ Below w.heap.size w y) := fun y hy => ⟨⟨below_cell hy (Nat.le_refl _) (cell_of_cells xv rfl), below_cell hy (Nat.le_refl _) (cell_of_cells xv rfl)⟩, (HX.out y (hux.trans (hy.mono hux.size))).2⟩
  obtain ⟨⟨-, -, -, g0, g1⟩, -⟩ := HX.out x hux
  rw [hx] at g0 g1
  have D := hid (CW.out x)
  have HXX := hid hx
  clear hx hb3 xv hux HZ3 HX CW
  go_wp2_with fail
  rw [← HXX.out]
  refine D.out.mono ?_
  rintro e y ⟨rfl, hb⟩
  obtain ⟨⟨v0, v1⟩, -⟩ := HY.out y hb
  have HB := hid hb
  have D := hid (CS.out y)
  clear hb HXX CS g0 g1
  go_wp2_with fail
  refine D.out.mono ?_
  rintro e y2 ⟨rfl, hb⟩
  have HFIN := hid (HY.out y2 (HB.out.trans (hb.mono HB.out.size))).2
  clear hb D v0 v1
  go_wp2
  go_ret
  exact ⟨by first | rfl | simp, HFIN.out⟩

theorem lassoTurns_walk {w : World} {t : Fml} {a : Option Addr} {cap : Nat} {sa : Option Addr} {s sc : Nat} {la : Option Addr} {m lc : Nat} {S L : Nat → Int} (h : Fw w t a sa s sc la m lc S L) (hsc : s ≤ sc) (hlc : m ≤ lc) (k : Int) (hk1 : -9223372036854775808 ≤ k) (hk2 : k ≤ 9223372036854775807) :
    Calls Tryd.prog 5 #[.agg #[.int .i64 t.kind, .int .i64 t.num, .slice a t.cnt cap], .agg #[.slice sa s sc, .slice la m lc], .int .i64 k] w fun e w' => e = .returned (.bool true) ∧ Below w.heap.size w w' := by
  by_cases hq : wchk s m = 0
  · exact turns_ok h hsc hlc (wchk_ok hq).1 (wchk_ok hq).2 k hk1 hk2
  · exact turns_bad h hq k

end Go.Proofs.YtejombhfkobcbaaDoor
