/-  Nots, Plain, Slim: the program's faces. -/
import Derived.Maps.OwnIn
import Derived.Test.YtmdpbaobihdgkaaGreatDoorRows
import Derived.WalkKit
import Derived.WalkSpells
import Derived.WalkLawsBesides
import Derived.Deep.QuietTactic
import Derived.BigQuiet
import Derived.Below
import Derived.Deep.Heap
import Derived.RangeFuncNested
import Derived.RangeFuncBound
import Derived.RangeFuncCalls
import Derived.RangeFuncLeaves
import Derived.Shelf.Abstract
import Derived.Shelf.RegionOpen
import Derived.OwnWalkIn
import Derived.TacticsInMore
import Derived.LoopNIn
import Derived.LoopIn
import Derived.Lib.SliceRun
import Derived.WalkSmall
import Derived.Deep.AppendLies
import Derived.Deep.RegionHeld3
import Derived.Deep.WholeRow
import Derived.Deep.MidRow
import Derived.Laws.Bits64b
import Derived.Lib.TrailingZeros
import Derived.Deep.OwnRows
import Derived.Maps.AppendAt
import Derived.Deep.RegionHeld
import Derived.Maps.OwnSet
import Derived.Maps.OwnOps
import Derived.DeepKeys4
import Derived.Test.YtmdpbaobihdgkaaGreatDoorRwsJ
import Derived.Test.YtmdpbaobihdgkaaGreatDoorBaseJ
import Derived.Test.YtmdpbaobihdgkaaGreatDoorPshJ
import Derived.Test.YtmdpbaobihdgkaaGreatDoorTeaJ
import Derived.Test.YtmdpbaobihdgkaaGreatDoorWk
import Derived.Test.YtmdpbaobihdgkaaGreatDoorMkfJ
import Derived.Test.YtmdpbaobihdgkaaGreatDoorTcnJ
import Derived.Deep.CutRange
import Derived.Test.YtmdpbaobihdgkaaGreatDoorPln
import Derived.Test.YtmdpbaobihdgkaaGreatDoorPsh2J
/- gather, over the closure 58. -/
namespace Go.Proofs.YtmdpbaobihdgkaaGreatDoor
open Go.RowKit Go.Shelf Go.Maps

theorem five_cells {W : World} {b : Nat} {v0 v1 v2 v3 v4 : Value} (h : W.heap[b]? = some (.cells #[v0, v1, v2, v3, v4] 32)) : (W.cell? ⟨b, 0, none⟩ = some v0 ∧ W.cell? ⟨b, 1, none⟩ = some v1 ∧ W.cell? ⟨b, 2, none⟩ = some v2 ∧ W.cell? ⟨b, 3, none⟩ = some v3 ∧ W.cell? ⟨b, 4, none⟩ = some v4) ∧ ∀ i, W.frozen? ⟨b, i, none⟩ = false :=
  ⟨⟨cell_of_cells h rfl, cell_of_cells h rfl, cell_of_cells h rfl, cell_of_cells h rfl, cell_of_cells h rfl⟩, fun i => by simp [World.frozen?, h]⟩

/-- A struct of five cells is stored. -/
theorem set5 {W X : World} {b : Nat} {v0 v1 v2 v3 v4 : Value} (u0 u1 u2 u3 u4 : Value) (h : W.heap[b]? = some (.cells #[v0, v1, v2, v3, v4] 32)) (hX : (((((W.setCell ⟨b, 0, none⟩ u0).setCell ⟨b, 1, none⟩ u1).setCell ⟨b, 2, none⟩ u2).setCell ⟨b, 3, none⟩ u3).setCell ⟨b, 4, none⟩ u4) = X) : X.heap[b]? = some (.cells #[u0, u1, u2, u3, u4] 32) ∧ But b W X := by
  subst hX
  refine ⟨?_, (((((But.refl b W).setCell 0 u0).setCell 1 u1).setCell 2 u2).setCell 3 u3).setCell 4 u4⟩
  have e := blk_setCell (i := 4) (v := u4) (blk_setCell (i := 3) (v := u3) (blk_setCell (i := 2) (v := u2) (blk_setCell (i := 1) (v := u1) (blk_setCell (i := 0) (v := u0) h))))
  simpa using e

end Go.Proofs.YtmdpbaobihdgkaaGreatDoor

namespace Go.Proofs.YtmdpbaobihdgkaaGreatDoor
open Go.RowKit

theorem results_cell_tmp1 {P : Program} {fn : Func} {p u : Tmp} {ty : TypeId} (h : fn.results = #[.cell p ty, .tmp u]) (tmps : Array Value) (w : World) (g : Nat) (t : TypeId) (cs : Array Value) (fr : Nat × Nat) (d : TypeDesc)
    (hp : tmps.getD p undef = .pointer (some ⟨g, 0, none⟩)) (hg : w.heap[g]? = some (.cells cs t fr))
    (hu : P.underlying ty = some d) (hd : (match d with | .struct _ | .array _ _ => true | _ => false) = true) (hi : (P.info? ty).map (·.size) = some cs.size) :
    (results fn tmps).run P w = .ok (.tuple #[.agg cs, tmps.getD u undef]) w := by
  have hp' : tmps[p]?.getD undef = .pointer (some ⟨g, 0, none⟩) := by simpa using hp
  simp [results, h, hp', asAddr, run_loadVar_row w g t ty cs fr d hg hu hd hi]

/-- What changed answers of a formula, where F is made of it. -/
def cgv (t F : Fml) : Fml × Int := if (chk t 1 0).1 = 0 then (if (chk F 1 0).1 = 0 then (F, 0) else (nd 0 0, (chk F 1 0).1)) else (nd 0 0, (chk t 1 0).1)
theorem cgv_bad {t F : Fml} (h : (chk t 1 0).1 ≠ 0) : cgv t F = (nd 0 0, (chk t 1 0).1) := if_neg h
theorem cgv_bad2 {t F : Fml} (h : (chk t 1 0).1 = 0) (h2 : (chk F 1 0).1 ≠ 0) : cgv t F = (nd 0 0, (chk F 1 0).1) := by rw [cgv, if_pos h, if_neg h2]
theorem cgv_ok {t F : Fml} (h : (chk t 1 0).1 = 0) (h2 : (chk F 1 0).1 = 0) : cgv t F = (F, 0) := by rw [cgv, if_pos h, if_pos h2]

/-- A formula and an error are answered; the formula's Kids lie in new memory. -/
def Cg (g : Fml × Int) (w : World) (e : Ending) (w' : World) : Prop := ∃ (a : Option Addr) (cap : Nat), e = .returned (.tuple #[.agg #[.int .i64 g.1.kind, .int .i64 g.1.num, .slice a g.1.cnt cap], .int .i64 g.2]) ∧ Kn w.heap.size w' g.1 a ∧ Below w.heap.size w w'

set_option maxHeartbeats 4000000 in
theorem changed29 {t F : Fml} (a : Option Addr) (cap : Nat) (w : World) (hkc : kcAt w) (hk : Kds w t a) (hc : t.cnt ≤ 9223372036854775807) (hF : (chk t 1 0).1 = 0 → F.cnt ≤ 9223372036854775807)
    (hf : (chk t 1 0).1 = 0 → ∀ z, Below w.heap.size w z → Calls Tryz.prog 42 #[.agg #[.int .i64 t.kind, .int .i64 t.num, .slice a t.cnt cap]] z fun e w' => Nk z.heap.size z F e w') :
    Calls Tryz.prog 41 #[.agg #[.int .i64 t.kind, .int .i64 t.num, .slice a t.cnt cap], .func (.func 42) #[] #[]] w fun e w' => Cg (cgv t F) w e w' := by
  obtain ⟨u, hu⟩ : ∃ y, y = (w.alloc (.cells #[.int .i64 t.kind, .int .i64 t.num, .slice a t.cnt cap] 24)).alloc (.cells #[.int .i64 0, .int .i64 0, .slice none 0 0] 24) := ⟨_, rfl⟩
  obtain ⟨hs, hB, hT1, hT2⟩ := two_new w _ _ _ _ hu
  have HX : Hid (u.heap.size = w.heap.size + 1 + 1 ∧ Below w.heap.size w u ∧ Tri u w.heap.size (.int .i64 t.kind) (.int .i64 t.num) (.slice a t.cnt cap) ∧ Tri u (w.heap.size + 1) (.int .i64 0) (.int .i64 0) (.slice none 0 0)) := ⟨hs, hB, hT1, hT2⟩
  have C := hid (check_any t a cap u (hkc.below hB hkc.pos) (hk.below hB) hc)
  have HU := hid hu
  have HF := hid hf
  have HKC := hid hkc
  have HFC := hid hF
  clear hu hs hB hT1 hT2 hk hc hf hkc hF
  by_cases q : (chk t 1 0).1 = 0
  · have HQ := hid q
    rw [q] at C
    go_enter Tryz.func41, Tryz.ntmps41
    go_wp2_with fail
    rw [← HU.out]
    refine C.out.mono ?_
    rintro e w1 ⟨rfl, hb1⟩
    obtain ⟨⟨v0, v1, v2⟩, -⟩ := tri_cells (HX.out.2.2.1.below hb1)
    have HB1 : Hid (Below u.heap.size u w1) := hb1
    have C2 := hid (HF.out q w1 (HX.out.2.1.trans (hb1.mono HX.out.2.1.size)))
    have HE1 := hid (cgv_bad2 (t := t) (F := F) q)
    have HE2 := hid (cgv_ok (t := t) (F := F) q)
    have hFc := HFC.out q
    clear hb1 C HU HF q HFC
    go_wp2_with fail
    refine C2.out.mono ?_
    rintro e w2 ⟨a2, c2, rfl, hk2, hb2⟩
    obtain ⟨w3, hw3⟩ : ∃ y, y = w2.alloc (.cells #[.int .i64 F.kind, .int .i64 F.num, .slice a2 F.cnt c2] 24) := ⟨_, rfl⟩
    have hb3 : Below w2.heap.size w2 w3 := by rw [hw3]; exact box_below _ _
    have hx3 : Tri w3 w2.heap.size (.int .i64 F.kind) (.int .i64 F.num) (.slice a2 F.cnt c2) := by rw [hw3]; exact tri_new _ _ _ _
    have hbu3 := (HB1.out.trans (hb2.mono HB1.out.size)).trans (hb3.mono (HB1.out.trans (hb2.mono HB1.out.size)).size)
    have hbw3 := HX.out.2.1.trans (hbu3.mono HX.out.2.1.size)
    have C3 := hid (check_any F a2 c2 w3 (HKC.out.below hbw3 HKC.out.pos) (hk2.below hb3).out hFc)
    have H3 : Hid (Kn w1.heap.size w3 F a2 ∧ Tri w3 w2.heap.size (.int .i64 F.kind) (.int .i64 F.num) (.slice a2 F.cnt c2) ∧ Below u.heap.size u w3) := ⟨hk2.below hb3, hx3, hbu3⟩
    have HW3 := hid hw3
    clear hk2 hb2 hw3 hb3 hx3 hbu3 hbw3 C2 v0 v1 v2
    by_cases q2 : (chk F 1 0).1 = 0
    · rw [q2] at C3
      have HEq := hid (HE2.out q2)
      clear HE1 HE2 q2
      go_wp2_with fail
      rw [← HW3.out]
      refine C3.out.mono ?_
      rintro e w4 ⟨rfl, hb4⟩
      have hbu4 := H3.out.2.2.trans (hb4.mono H3.out.2.2.size)
      have hT4 := HX.out.2.2.2.below hbu4
      obtain ⟨⟨v0, v1, v2⟩, -⟩ := tri_cells (H3.out.2.1.below hb4)
      obtain ⟨⟨r0, r1, r2⟩, z0, z1, z2⟩ := tri_cells hT4
      have hlt := hT4.lt
      have H4 : Hid (Kn w1.heap.size w4 F a2 ∧ Tri w4 (w.heap.size + 1) (.int .i64 0) (.int .i64 0) (.slice none 0 0) ∧ Below w.heap.size w w4) := ⟨H3.out.1.below hb4, hT4, HX.out.2.1.trans (hbu4.mono HX.out.2.1.size)⟩
      clear hb4 hbu4 hT4 C3 HW3
      go_wp2
      (try simp only [Exit.inBlock, Exit.then])
      refine bodyPost_ret (results_cell_tmp1 rfl _ _ (w.heap.size + 1) 24 #[.int .i64 F.kind, .int .i64 F.num, .slice a2 F.cnt c2] (0, 0) _ rfl (tri_set H4.out.2.1 _ _ _) Tryz.underlying24 rfl (by kernel_rfl)) rfl ?_
      rw [HEq.out]
      have hsz := HB1.out.size
      have hsu := HX.out.1
      exact ⟨a2, c2, rfl, kn_tri H4.out.1 (by omega) (by omega) _ _ _, below_tri H4.out.2.2 (by omega) _ _ _⟩
    · have HEq := hid (HE1.out q2)
      generalize (chk F 1 0).1 = r at *
      have hrb : (r != 0) = true := by rw [bne_iff_ne]; exact q2
      clear HE1 HE2 q2
      go_wp2_with fail
      rw [← HW3.out]
      refine C3.out.mono ?_
      rintro e w4 ⟨rfl, hb4⟩
      have hbu4 := H3.out.2.2.trans (hb4.mono H3.out.2.2.size)
      have hT4 := HX.out.2.2.2.below hbu4
      obtain ⟨⟨r0, r1, r2⟩, z0, z1, z2⟩ := tri_cells hT4
      have hlt := hT4.lt
      have H4 : Hid (Tri w4 (w.heap.size + 1) (.int .i64 0) (.int .i64 0) (.slice none 0 0) ∧ Below w.heap.size w w4) := ⟨hT4, HX.out.2.1.trans (hbu4.mono HX.out.2.1.size)⟩
      clear hb4 hbu4 hT4 C3 HW3
      go_wp2
      (try simp only [Exit.inBlock, Exit.then])
      refine bodyPost_ret (results_cell_tmp1 rfl _ _ (w.heap.size + 1) 24 #[.int .i64 0, .int .i64 0, .slice none 0 0] (0, 0) _ rfl (tri_set H4.out.1 _ _ _) Tryz.underlying24 rfl (by kernel_rfl)) rfl ?_
      rw [HEq.out]
      exact ⟨none, 0, rfl, Kn.nd _ _ _, below_tri H4.out.2 (by omega) _ _ _⟩
  · have HEq := hid (cgv_bad (t := t) (F := F) q)
    generalize cgv t F = cg at *
    generalize (chk t 1 0).1 = r at *
    have hrb : (r != 0) = true := by rw [bne_iff_ne]; exact q
    clear q HF HFC
    go_enter Tryz.func41, Tryz.ntmps41
    go_wp2_with fail
    rw [← HU.out]
    refine C.out.mono ?_
    rintro e w4 ⟨rfl, hb4⟩
    have hT4 := HX.out.2.2.2.below hb4
    obtain ⟨⟨r0, r1, r2⟩, z0, z1, z2⟩ := tri_cells hT4
    have hlt := hT4.lt
    have H4 : Hid (Tri w4 (w.heap.size + 1) (.int .i64 0) (.int .i64 0) (.slice none 0 0) ∧ Below w.heap.size w w4) := ⟨hT4, HX.out.2.1.trans (hb4.mono HX.out.2.1.size)⟩
    clear hb4 hT4 C HU
    go_wp2
    (try simp only [Exit.inBlock, Exit.then])
    refine bodyPost_ret (results_cell_tmp1 rfl _ _ (w.heap.size + 1) 24 #[.int .i64 0, .int .i64 0, .slice none 0 0] (0, 0) _ rfl (tri_set H4.out.1 _ _ _) Tryz.underlying24 rfl (by kernel_rfl)) rfl ?_
    rw [HEq.out]
    exact ⟨none, 0, rfl, Kn.nd _ _ _, below_tri H4.out.2 (by omega) _ _ _⟩

set_option maxHeartbeats 2000000 in
theorem plain9 {t : Fml} (a : Option Addr) (cap : Nat) (w : World) (hkc : kcAt w) (hk : Kds w t a) (hc : t.cnt ≤ 9223372036854775807) :
    Calls Tryz.prog 15 #[.agg #[.int .i64 t.kind, .int .i64 t.num, .slice a t.cnt cap]] w fun e w' => Cg (cgv t (pn t)) w e w' := by
  obtain ⟨u, hu⟩ : ∃ y, y = (w.alloc (.cells #[.int .i64 t.kind, .int .i64 t.num, .slice a t.cnt cap] 24)).alloc (.cells #[.int .i64 0, .int .i64 0, .slice none 0 0] 24) := ⟨_, rfl⟩
  obtain ⟨hs, hB, hT1, hT2⟩ := two_new w _ _ _ _ hu
  have HX : Hid (u.heap.size = w.heap.size + 1 + 1 ∧ Below w.heap.size w u ∧ Tri u (w.heap.size + 1) (.int .i64 0) (.int .i64 0) (.slice none 0 0)) := ⟨hs, hB, hT2⟩
  have C := hid (changed29 (t := t) (F := pn t) a cap u (hkc.below hB hkc.pos) (hk.below hB) hc (fun q => wf_big (pn_wf t (chk_wf t 1 0 q).1)) (fun q z hz => plain_any t (chk_wf t 1 0 q).1 a cap z ((hk.below hB).below hz)))
  have HU := hid hu
  generalize cgv t (pn t) = g at *
  clear hu hs hB hT1 hT2 hk hkc hc 
  go_enter Tryz.func15, Tryz.ntmps15
  go_wp2_with fail
  rw [← HU.out]
  refine C.out.mono ?_
  rintro e w3 ⟨a3, c3, rfl, hk3, hb3⟩
  have hT3 := HX.out.2.2.below hb3
  have H3 : Hid (Kn u.heap.size w3 g.1 a3 ∧ Below w.heap.size w w3 ∧ Tri w3 (w.heap.size + 1) (.int .i64 0) (.int .i64 0) (.slice none 0 0)) := ⟨hk3, HX.out.2.1.trans (hb3.mono HX.out.2.1.size), hT3⟩
  obtain ⟨⟨r0, r1, r2⟩, z0, z1, z2⟩ := tri_cells hT3
  have hlt := hT3.lt
  clear hk3 hb3 hT3 C HU
  go_wp2
  (try simp only [Exit.inBlock, Exit.then])
  refine bodyPost_ret (results_cell_tmp1 rfl _ _ (w.heap.size + 1) 24 #[.int .i64 g.1.kind, .int .i64 g.1.num, .slice a3 g.1.cnt c3] (0, 0) _ rfl (tri_set H3.out.2.2 _ _ _) Tryz.underlying24 rfl (by kernel_rfl)) rfl ?_
  exact ⟨a3, c3, rfl, kn_tri H3.out.1 (by have := HX.out.1; omega) (by have := HX.out.1; omega) _ _ _, below_tri H3.out.2.1 (by omega) _ _ _⟩

end Go.Proofs.YtmdpbaobihdgkaaGreatDoor
