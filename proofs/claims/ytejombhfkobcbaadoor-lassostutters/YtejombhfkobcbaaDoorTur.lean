/- LassoTurns: SameWord, Least. -/
import Derived.Test.YtejombhfkobcbaaDoorUnr2
import Derived.Test.YtejombhfkobcbaaDoorNow2
import Derived.Test.YtejombhfkobcbaaDoorLea2
namespace Go.Proofs.YtejombhfkobcbaaDoor
open Go.RowKit

theorem RowU.apart2 {w : World} {a : Option Addr} {n b : Nat} {Z : Nat → Int} {p q : Option Addr} {i j k l : Nat} {t : TypeId} (h : RowU w a n Z) (hn : 0 < n) (hb : w.heap[b]? = some (.cells #[.slice p i j, .slice q k l] t (0, 0))) : ∀ z, a = some z → z.block ≠ b := by
  rintro z rfl
  obtain ⟨c, o, h1, h2⟩ := h
  obtain rfl := Option.some.inj (h1 hn)
  rintro rfl
  have h3 := h2 0 hn
  simp only [World.cell?, hb, Nat.add_zero] at h3
  match o, h3 with
  | 0, h3 => simp at h3
  | 1, h3 => simp at h3
  | o + 2, h3 => simp at h3

theorem RowU.butz {w w' : World} {a : Option Addr} {n b : Nat} {Z : Nat → Int} {p q : Option Addr} {i j k l : Nat} {t : TypeId} (h : RowU w a n Z) (hbut : But b w w') (hb : w.heap[b]? = some (.cells #[.slice p i j, .slice q k l] t (0, 0))) : RowU w' a n Z := by
  by_cases hn : 0 < n
  · exact h.but hbut (h.apart2 hn hb)
  · exact ⟨0, 0, fun h => absurd h hn, fun i hi => by omega⟩

set_option maxHeartbeats 2000000 in
theorem sameWord_any {w : World} {sa : Option Addr} {s sc : Nat} {la : Option Addr} {m lc : Nat} {S L : Nat → Int} {sa' : Option Addr} {s' sc' : Nat} {la' : Option Addr} {m' lc' : Nat} {S' L' : Nat → Int} (hs : s ≤ 1000) (hm : m ≤ 1000) (h1 : RowU w sa s S) (h2 : RowU w sa' s' S') (h3 : RowU w la m L) (h4 : RowU w la' m' L') :
    Calls Tryd.prog 23 #[.agg #[.slice sa s sc, .slice la m lc], .agg #[.slice sa' s' sc', .slice la' m' lc']] w fun e w' => e = .returned (.bool (sameU s s' S S' && sameU m m' L L')) ∧ Below w.heap.size w w' := by
  obtain ⟨u, hu⟩ : ∃ y, y = (w.alloc (.cells #[.slice sa s sc, .slice la m lc] 27)).alloc (.cells #[.slice sa' s' sc', .slice la' m' lc'] 27) := ⟨_, rfl⟩
  have hB : Below w.heap.size w u := by rw [hu]; exact below_alloc2 _ _ _
  have e1 : (w.alloc (.cells #[.slice sa s sc, .slice la m lc] 27)).heap.size = w.heap.size + 1 := by simp
  have x1 : u.heap[w.heap.size]? = some (.cells #[.slice sa s sc, .slice la m lc] 27) := by rw [hu]; exact alloc_old _ (alloc_last _ rfl)
  have x2 : u.heap[w.heap.size + 1]? = some (.cells #[.slice sa' s' sc', .slice la' m' lc'] 27) := by rw [hu]; exact alloc_last _ e1
  have C1 := hid (equalU_any (c := sc) (c' := sc') hs (h1.below hB) (h2.below hB))
  have C2 : Hid (∀ z, Below u.heap.size u z → Calls Tryd.prog 39 #[.slice la m lc, .slice la' m' lc'] z fun e w' => e = .returned (.bool (sameU m m' L L')) ∧ ∃ q, w' = z.drewN q) := fun z hz => equalU_any hm ((h3.below hB).below hz) ((h4.below hB).below hz)
  have HX1 := hid x1
  have HX2 := hid x2
  have HU := hid hu
  have HB := hid hB
  generalize sameU s s' S S' = p at *
  generalize sameU m m' L L' = q at *
  clear hu hB e1 x1 x2 h1 h2 h3 h4
  go_enter Tryd.func23, Tryd.ntmps23
  go_wp2_with fail
  rw [← HU.out]
  refine C1.out.mono ?_
  rintro e z ⟨rfl, k, hz⟩
  have hbz : Below u.heap.size u z := by rw [hz]; exact below_drewN (Below.refl _ _) _
  have f1 : z.cell? ⟨w.heap.size, 1, none⟩ = some (.slice la m lc) := below_cell hbz (Nat.le_refl _) (cell_of_cells HX1.out rfl)
  have f2 : z.cell? ⟨w.heap.size + 1, 1, none⟩ = some (.slice la' m' lc') := below_cell hbz (Nat.le_refl _) (cell_of_cells HX2.out rfl)
  have D := hid (C2.out z hbz)
  have HB2 := hid (HB.out.trans (hbz.mono HB.out.size))
  clear C1 C2 hz hbz HU HB HX1 HX2
  cases p
  · go_wp2
    go_ret
    exact ⟨by first | rfl | simp, HB2.out⟩
  · go_wp2_with fail
    refine D.out.mono ?_
    rintro e z3 ⟨rfl, k3, hz3⟩
    have HB3 : Hid (Below w.heap.size w z3) := by rw [hz3]; exact hid (below_drewN HB2.out _)
    clear D hz3
    go_wp2
    go_ret
    exact ⟨by first | rfl | simp, HB3.out⟩

theorem results_cell_tmp1 {P : Program} {fn : Func} {p u : Tmp} {ty : TypeId} (h : fn.results = #[.cell p ty, .tmp u]) (tmps : Array Value) (w : World) (g : Nat) (t : TypeId) (cs : Array Value) (fr : Nat × Nat) (d : TypeDesc)
    (hp : tmps.getD p undef = .pointer (some ⟨g, 0, none⟩)) (hg : w.heap[g]? = some (.cells cs t fr))
    (hu : P.underlying ty = some d) (hd : (match d with | .struct _ | .array _ _ => true | _ => false) = true) (hi : (P.info? ty).map (·.size) = some cs.size) :
    (results fn tmps).run P w = .ok (.tuple #[.agg cs, tmps.getD u undef]) w := by
  have hp' : tmps[p]?.getD undef = .pointer (some ⟨g, 0, none⟩) := by simpa using hp
  simp [results, h, hp', asAddr, run_loadVar_row w g t ty cs fr d hg hu hd hi]

set_option maxHeartbeats 2000000 in
theorem leastF_bad {w : World} {sa : Option Addr} {s sc : Nat} {la : Option Addr} {m lc : Nat} (hs : s ≤ 140737488355328) (hm : m ≤ 140737488355328) (hq : wchk s m ≠ 0) :
    Calls Tryd.prog 22 #[.agg #[.slice sa s sc, .slice la m lc]] w fun e w' => e = .returned (.tuple #[.agg #[.slice none 0 0, .slice none 0 0], .int .i64 (wchk s m)]) ∧ Below w.heap.size w w' := by
  obtain ⟨u, hu⟩ : ∃ y, y = (w.alloc (.cells #[.slice sa s sc, .slice la m lc] 27)).alloc (.cells #[.slice none 0 0, .slice none 0 0] 27) := ⟨_, rfl⟩
  have hB : Below w.heap.size w u := by rw [hu]; exact below_alloc2 _ _ _
  have e1 : (w.alloc (.cells #[.slice sa s sc, .slice la m lc] 27)).heap.size = w.heap.size + 1 := by simp
  have x2 : u.heap[w.heap.size + 1]? = some (.cells #[.slice none 0 0, .slice none 0 0] 27) := by rw [hu]; exact alloc_last _ e1
  have C1 := hid (wcheck_any sa s sc la m lc u hs hm)
  have HX2 := hid x2
  have HU := hid hu
  have HB := hid hB
  have hqb : (wchk s m != 0) = true := by simpa using hq
  generalize wchk s m = q at *
  clear hu hB e1 x2
  go_enter Tryd.func22, Tryd.ntmps22
  go_wp2_with fail
  rw [← HU.out]
  refine C1.out.mono ?_
  rintro e z ⟨rfl, hbz⟩
  have x2 := (hbz.block _ (Array.getElem?_eq_some_iff.1 HX2.out).1).trans HX2.out
  have f0 : z.cell? ⟨w.heap.size + 1, 0, none⟩ = some (.slice none 0 0) := cell_of_cells x2 rfl
  have f1 : z.cell? ⟨w.heap.size + 1, 1, none⟩ = some (.slice none 0 0) := cell_of_cells x2 rfl
  have f2 := fz_of x2 0
  have f3 := fz_of x2 1
  have HB2 := hid (HB.out.trans (hbz.mono HB.out.size))
  have HXZ := hid x2
  clear C1 hbz HU HB HX2 x2
  go_wp2
  (try simp only [Exit.inBlock, Exit.then])
  obtain ⟨W, hW⟩ : ∃ y, y = (z.setCell ⟨w.heap.size + 1, 0, none⟩ (.slice none 0 0)).setCell ⟨w.heap.size + 1, 1, none⟩ (.slice none 0 0) := ⟨_, rfl⟩
  rw [← hW]
  have hbut : But (w.heap.size + 1) z W := by rw [hW]; exact ((But.refl _ _).setCell _ _).setCell _ _
  have hWx : W.heap[w.heap.size + 1]? = some (.cells #[.slice none 0 0, .slice none 0 0] 27) := by rw [hW]; exact two_set HXZ.out _ _
  refine bodyPost_ret (results_cell_tmp1 rfl _ _ (w.heap.size + 1) 27 #[.slice none 0 0, .slice none 0 0] (0, 0) _ rfl hWx Tryd.underlying27 rfl (by kernel_rfl)) rfl ?_
  exact ⟨rfl, HB2.out.trans (hbut.below (by omega) HB2.out.size)⟩

set_option maxHeartbeats 2000000 in
theorem leastF_ok {w : World} {sa : Option Addr} {s sc : Nat} {la : Option Addr} {m lc : Nat} {S L : Nat → Int} (hw : Wd w sa s la m S L) (hsn : sa = none → s = 0 ∧ sc = 0) (hsc : s ≤ sc) (hlc : m ≤ lc) (h60 : s + m ≤ 60) (hm : 0 < m) :
    Calls Tryd.prog 22 #[.agg #[.slice sa s sc, .slice la m lc]] w fun e w' => ∃ st lp a c b d, Lea (ltr s m S L) st lp ∧ st ≤ s ∧ lp ≤ m ∧ e = .returned (.tuple #[.agg #[.slice a st c, .slice b lp d], .int .i64 0]) ∧ (a = none → st = 0 ∧ c = 0) ∧ (b = none → lp = 0 ∧ d = 0) ∧ st ≤ c ∧ lp ≤ d ∧ RowU w' a st (ltr s m S L) ∧ RowU w' b lp (fun i => ltr s m S L (st + i)) ∧ Below w.heap.size w w' := by
  obtain ⟨u, hu⟩ : ∃ y, y = (w.alloc (.cells #[.slice sa s sc, .slice la m lc] 27)).alloc (.cells #[.slice none 0 0, .slice none 0 0] 27) := ⟨_, rfl⟩
  have hB : Below w.heap.size w u := by rw [hu]; exact below_alloc2 _ _ _
  have e1 : (w.alloc (.cells #[.slice sa s sc, .slice la m lc] 27)).heap.size = w.heap.size + 1 := by simp
  have x1 : u.heap[w.heap.size]? = some (.cells #[.slice sa s sc, .slice la m lc] 27) := by rw [hu]; exact alloc_old _ (alloc_last _ rfl)
  have x2 : u.heap[w.heap.size + 1]? = some (.cells #[.slice none 0 0, .slice none 0 0] 27) := by rw [hu]; exact alloc_last _ e1
  have C1 := hid (wcheck_any sa s sc la m lc u hw.s47 hw.m47)
  rw [wchk_zero h60 hm] at C1
  have C2 : Hid (∀ z, Below u.heap.size u z → Calls Tryd.prog 38 #[.agg #[.slice sa s sc, .slice la m lc]] z fun e w' => ∃ st lp, Lea (ltr s m S L) st lp ∧ st ≤ s ∧ lp ≤ m ∧ NewW z (ltr s m S L) st lp e w') := fun z hz => least_any ((hw.below hB).below hz) hsn hsc hlc h60 hm
  have HX1 := hid x1
  have HX2 := hid x2
  have HU := hid hu
  have HB := hid hB
  clear hu hB e1 x1 x2 hw hsn
  go_enter Tryd.func22, Tryd.ntmps22
  go_wp2_with fail
  rw [← HU.out]
  refine C1.out.mono ?_
  rintro e z ⟨rfl, hbz⟩
  have x2 := (hbz.block _ (Array.getElem?_eq_some_iff.1 HX2.out).1).trans HX2.out
  have g0 : z.cell? ⟨w.heap.size, 0, none⟩ = some (.slice sa s sc) := below_cell hbz (Nat.le_refl _) (cell_of_cells HX1.out rfl)
  have g1 : z.cell? ⟨w.heap.size, 1, none⟩ = some (.slice la m lc) := below_cell hbz (Nat.le_refl _) (cell_of_cells HX1.out rfl)
  have D := hid (C2.out z hbz)
  have HB2 := hid (HB.out.trans (hbz.mono HB.out.size))
  have HXZ := hid x2
  clear C1 C2 hbz HU HB HX2 HX1 x2
  go_wp2_with fail
  refine D.out.mono ?_
  rintro e z3 ⟨st, lp, hle, hst, hlp, a, c, b, d, rfl, ha, hb, hc, hd, ra, rb, hb3⟩
  have x3 := (hb3.block _ (Array.getElem?_eq_some_iff.1 HXZ.out).1).trans HXZ.out
  have f0 : z3.cell? ⟨w.heap.size + 1, 0, none⟩ = some (.slice none 0 0) := cell_of_cells x3 rfl
  have f1 : z3.cell? ⟨w.heap.size + 1, 1, none⟩ = some (.slice none 0 0) := cell_of_cells x3 rfl
  have f2 := fz_of x3 0
  have f3 := fz_of x3 1
  have HX3 := hid x3
  have HB3 := hid (HB2.out.trans (hb3.mono HB2.out.size))
  have HF : Hid (Lea (ltr s m S L) st lp ∧ st ≤ s ∧ lp ≤ m ∧ (a = none → st = 0 ∧ c = 0) ∧ (b = none → lp = 0 ∧ d = 0) ∧ st ≤ c ∧ lp ≤ d) := ⟨hle, hst, hlp, ha, hb, hc, hd⟩
  have HA : Hid (RowU z3 a st (ltr s m S L)) := ra
  have HBR : Hid (RowU z3 b lp (fun i => ltr s m S L (st + i))) := rb
  clear D hb3 x3 hle hst hlp ha hb hc hd ra rb g0 g1
  go_wp2
  (try simp only [Exit.inBlock, Exit.then])
  obtain ⟨W, hW⟩ : ∃ y, y = (z3.setCell ⟨w.heap.size + 1, 0, none⟩ (.slice a st c)).setCell ⟨w.heap.size + 1, 1, none⟩ (.slice b lp d) := ⟨_, rfl⟩
  rw [← hW]
  have hbut : But (w.heap.size + 1) z3 W := by rw [hW]; exact ((But.refl _ _).setCell _ _).setCell _ _
  have hWx : W.heap[w.heap.size + 1]? = some (.cells #[.slice a st c, .slice b lp d] 27) := by rw [hW]; exact two_set HX3.out _ _
  refine bodyPost_ret (results_cell_tmp1 rfl _ _ (w.heap.size + 1) 27 #[.slice a st c, .slice b lp d] (0, 0) _ rfl hWx Tryd.underlying27 rfl (by kernel_rfl)) rfl ?_
  obtain ⟨k1, k2, k3, k4, k5, k6, k7⟩ := HF.out
  refine ⟨st, lp, a, c, b, d, k1, k2, k3, rfl, k4, k5, k6, k7, ?_, ?_, HB3.out.trans (hbut.below (by omega) HB3.out.size)⟩
  · exact HA.out.butz hbut HX3.out
  · exact HBR.out.butz hbut HX3.out

end Go.Proofs.YtejombhfkobcbaaDoor
