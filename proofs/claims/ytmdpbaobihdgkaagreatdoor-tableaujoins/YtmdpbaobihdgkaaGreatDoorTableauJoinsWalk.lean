
import Derived.Maps.OwnIn
import Derived.Test.YtmdpbaobihdgkaaGreatDoorRows
import Derived.WalkKit
import Derived.WalkSpells
import Derived.WalkLawsBesides
import Derived.Deep.QuietTactic
import Derived.BigQuiet
import Derived.Below
import Derived.Deep.Heap
import Derived.RangeFuncNested
import Derived.RangeFuncBound
import Derived.RangeFuncCalls
import Derived.RangeFuncLeaves
import Derived.Shelf.Abstract
import Derived.Shelf.RegionOpen
import Derived.OwnWalkIn
import Derived.TacticsInMore
import Derived.LoopNIn
import Derived.LoopIn
import Derived.Lib.SliceRun
import Derived.WalkSmall
import Derived.Deep.AppendLies
import Derived.Deep.RegionHeld3
import Derived.Deep.WholeRow
import Derived.Deep.MidRow
import Derived.Laws.Bits64b
import Derived.Lib.TrailingZeros
import Derived.Deep.OwnRows
import Derived.Maps.AppendAt
import Derived.Deep.RegionHeld
import Derived.Maps.OwnSet
import Derived.Maps.OwnOps
import Derived.DeepKeys4
import Derived.Sort.OwnSortedInts
import Derived.Shelf.SlSortCmp.NoneTotal
import Derived.Test.YtmdpbaobihdgkaaGreatDoorProg
import Derived.Deep.CutRange
import Derived.Great.BuildSlice
import Derived.Laws.AppendOwnNone
import Derived.Lib.AppendZeros
import Derived.Laws.OwnMore
import Derived.Test.YtmdpbaobihdgkaaGreatDoorHldFJ
import Derived.Test.YtmdpbaobihdgkaaGreatDoorRwsJ
import Derived.Test.YtmdpbaobihdgkaaGreatDoorBaseJ
import Derived.Test.YtmdpbaobihdgkaaGreatDoorPshJ
import Derived.Test.YtmdpbaobihdgkaaGreatDoorTeaJ
import Derived.Test.YtmdpbaobihdgkaaGreatDoorWk
import Derived.Test.YtmdpbaobihdgkaaGreatDoorMkfJ
import Derived.Test.YtmdpbaobihdgkaaGreatDoorTcnJ
import Derived.Test.YtmdpbaobihdgkaaGreatDoorAStc
import Derived.Test.YtmdpbaobihdgkaaGreatDoorTpwJ
import Derived.Test.YtmdpbaobihdgkaaGreatDoorAGthJ
import Derived.Test.YtmdpbaobihdgkaaGreatDoorAAcc
import Derived.Test.YtmdpbaobihdgkaaGreatDoorAStdJ
import Derived.Test.YtmdpbaobihdgkaaGreatDoorANmbJ
/- The law TableauJoins, walked. -/
namespace Go.Proofs.YtmdpbaobihdgkaaGreatDoor
open Go.RowKit

/-- The four formulas of the law. -/
def xf (f g : Fml) (k : Nat) : Fml := if k = 0 then f else if k = 1 then g else if k = 2 then tw 5 f g else tw 6 f g

theorem kids4 {w : World} {f g : Fml} {fa ga pa qa : Option Addr} {fcap gcap pc qc b : Nat}
    (h : w.heap[b]? = some (.cells #[.int .i64 f.kind, .int .i64 f.num, .slice fa f.cnt fcap, .int .i64 g.kind, .int .i64 g.num, .slice ga g.cnt gcap, .int .i64 (tw 5 f g).kind, .int .i64 (tw 5 f g).num, .slice pa (tw 5 f g).cnt pc, .int .i64 (tw 6 f g).kind, .int .i64 (tw 6 f g).num, .slice qa (tw 6 f g).cnt qc] 24 (0, 0)))
    (hf : Kds w f fa) (hfc : f.cnt ≤ 9223372036854775807) (hg : Kds w g ga) (hgc : g.cnt ≤ 9223372036854775807) (hp : Kds w (tw 5 f g) pa) (hq : Kds w (tw 6 f g) qa) : KidsAt w b 0 4 (xf f g) := by
  intro i hi
  have hi4 : i = 0 ∨ i = 1 ∨ i = 2 ∨ i = 3 := by omega
  rcases hi4 with rfl | rfl | rfl | rfl
  · exact ⟨fa, fcap, cell_of_cells h rfl, cell_of_cells h rfl, cell_of_cells h rfl, hfc, hf⟩
  · exact ⟨ga, gcap, cell_of_cells h rfl, cell_of_cells h rfl, cell_of_cells h rfl, hgc, hg⟩
  · exact ⟨pa, pc, cell_of_cells h rfl, cell_of_cells h rfl, cell_of_cells h rfl, (show 2 ≤ 9223372036854775807 by decide), hp⟩
  · exact ⟨qa, qc, cell_of_cells h rfl, cell_of_cells h rfl, cell_of_cells h rfl, (show 2 ≤ 9223372036854775807 by decide), hq⟩

theorem hold_and5 (A : Nat → Int → Bool) (f g : Fml) (i : Nat) : hold A (tw 5 f g) i ↔ (hold A f i ∧ hold A g i) := by
  have e := hold_red_tw0 A 5 f g
  have e1 := hold_red_tw1 A 5 f g
  rw [hold_eq]
  generalize (tw 5 f g).reds (fun _ => False) (holdF A) = r at e e1 ⊢
  unfold holdF
  rw [e, e1]
  simp [tw]
theorem hold_or6 (A : Nat → Int → Bool) (f g : Fml) (i : Nat) : hold A (tw 6 f g) i ↔ (hold A f i ∨ hold A g i) := by
  have e := hold_red_tw0 A 6 f g
  have e1 := hold_red_tw1 A 6 f g
  rw [hold_eq]
  generalize (tw 6 f g).reds (fun _ => False) (holdF A) = r at e e1 ⊢
  unfold holdF
  rw [e, e1]
  simp [tw]

/-- So many bools. -/
def bls (R : Nat → Bool) : Nat → List Value
  | 0 => []
  | k + 1 => bls R k ++ [.bool (R k)]
set_option maxHeartbeats 4000000 in
theorem tableauJoins_walk {w : World} {f g : Fml} {fa ga sa la : Option Addr} {cap cap2 s sc m lc : Nat} {S L : Nat → Int} (hF : Fw w f fa sa s sc la m lc S L) (hg : Kds w g ga) (hgc : g.cnt ≤ 9223372036854775807) (hT : Tb w) :
    Calls Tryz.prog 5 #[.agg #[.int .i64 f.kind, .int .i64 f.num, .slice fa f.cnt cap], .agg #[.int .i64 g.kind, .int .i64 g.num, .slice ga g.cnt cap2], .agg #[.slice sa s sc, .slice la m lc]] w fun e w' => e = .returned (.bool true) ∧ Below w.heap.size w w' := by
  generalize hfcap : cap = fcap
  generalize hgcap : cap2 = gcap
  clear hfcap hgcap
  obtain ⟨u, hu⟩ : ∃ y, y = ((w.alloc (.cells #[.int .i64 f.kind, .int .i64 f.num, .slice fa f.cnt fcap] 24)).alloc (.cells #[.int .i64 g.kind, .int .i64 g.num, .slice ga g.cnt gcap] 24)).alloc (.cells #[.slice sa s sc, .slice la m lc] 27) := ⟨_, rfl⟩
  have hB : Below w.heap.size w u := by rw [hu]; exact below_alloc3 _ _ _ _
  have hx : u.heap[w.heap.size]? = some (.cells #[.int .i64 f.kind, .int .i64 f.num, .slice fa f.cnt fcap] 24) ∧ u.heap[w.heap.size + 1]? = some (.cells #[.int .i64 g.kind, .int .i64 g.num, .slice ga g.cnt gcap] 24) ∧ u.heap[w.heap.size + 1 + 1]? = some (.cells #[.slice sa s sc, .slice la m lc] 27) := by
    rw [hu]
    exact ⟨alloc_old _ (alloc_old _ (Go.Deep.blk_alloc_new _ _)), alloc_old _ (alloc_last _ (by simp)), alloc_last _ (by simp)⟩
  have C6 := hid (made6 (hF.below hB).kc (tb_below hT hB))
  have HU := hid hu
  have HB := hid hB
  have HF := hid hF
  have HT := hid hT
  have HX := hid hx
  have HKF := hid hF.kds
  have HKG := hid hg
  have HFC := hid (And.intro hF.cnt hgc)
  have HTz : Hid (∀ z, Below w.heap.size w z → Tb z) := hid (fun z hz => tb_below HT.out hz)
  have CAc : Hid (∀ (C : Ax) (z : World), Aw z C → Below w.heap.size w z → Calls Tryz.prog 9 #[.agg #[.slice C.sa C.sn C.sc, .slice C.na C.G C.nc, .slice C.ma C.M C.mc, .slice C.oa C.O C.oc, .slice C.fa C.K C.fc], .agg #[.slice sa s sc, .slice la m lc]] z fun e w' => AcIs C s m S L e ∧ Below z.heap.size z w') := hid (fun C z hC hz => accepts_any C sa s sc la m lc S L z hC (HF.out.below hz).wd (HTz.out z hz))
  clear hu hB hF hT hx hg hgc
  go_enter Tryz.func5, Tryz.ntmps5
  go_wp2_with fail
  rw [← HU.out]
  refine C6.out.mono ?_
  rintro e w1 ⟨rfl, hb1⟩
  have HB1 := hid (HB.out.trans (hb1.mono HB.out.size))
  have HX1 : Hid (w1.heap[w.heap.size]? = some (.cells #[.int .i64 f.kind, .int .i64 f.num, .slice fa f.cnt fcap] 24) ∧ w1.heap[w.heap.size + 1]? = some (.cells #[.int .i64 g.kind, .int .i64 g.num, .slice ga g.cnt gcap] 24) ∧ w1.heap[w.heap.size + 1 + 1]? = some (.cells #[.slice sa s sc, .slice la m lc] 27)) :=
    hid ⟨(hb1.block _ (Array.getElem?_eq_some_iff.1 HX.out.1).1).trans HX.out.1, (hb1.block _ (Array.getElem?_eq_some_iff.1 HX.out.2.1).1).trans HX.out.2.1, (hb1.block _ (Array.getElem?_eq_some_iff.1 HX.out.2.2).1).trans HX.out.2.2⟩
  have HKF := hid (HKF.out.below HB1.out)
  have HKG := hid (HKG.out.below HB1.out)
  have HSt : Hid (∀ y, Below w1.heap.size w1 y → (fun y : World => (y.cell? ⟨w.heap.size, 0, none⟩ = some (.int .i64 f.kind) ∧ y.cell? ⟨w.heap.size, 1, none⟩ = some (.int .i64 f.num) ∧ y.cell? ⟨w.heap.size, 2, none⟩ = some (.slice fa f.cnt fcap)) ∧ y.cell? ⟨w.heap.size + 1, 0, none⟩ = some (.int .i64 g.kind) ∧ y.cell? ⟨w.heap.size + 1, 1, none⟩ = some (.int .i64 g.num) ∧ y.cell? ⟨w.heap.size + 1, 2, none⟩ = some (.slice ga g.cnt gcap)) y) := hid (fun y hy => ⟨⟨below_cell hy (Nat.le_refl _) (cell_of_cells HX1.out.1 rfl), below_cell hy (Nat.le_refl _) (cell_of_cells HX1.out.1 rfl), below_cell hy (Nat.le_refl _) (cell_of_cells HX1.out.1 rfl)⟩, below_cell hy (Nat.le_refl _) (cell_of_cells HX1.out.2.1 rfl), below_cell hy (Nat.le_refl _) (cell_of_cells HX1.out.2.1 rfl), below_cell hy (Nat.le_refl _) (cell_of_cells HX1.out.2.1 rfl)⟩)
  have CA : Hid (∀ z, Below w1.heap.size w1 z → _) := hid (fun z hz => two_f 5 f fa fcap g ga gcap z (HKF.out.below hz) HFC.out.1 (HKG.out.below hz) HFC.out.2)
  have CB : Hid (∀ z, Below w1.heap.size w1 z → _) := hid (fun z hz => two_f 6 f fa fcap g ga gcap z (HKF.out.below hz) HFC.out.1 (HKG.out.below hz) HFC.out.2)
  have hB : Below w1.heap.size w1 w1.drew := drew_below w1
  clear hb1 C6 HU
  go_wp2_with fail
  go_cut [24, 25, 26] from 16 to 26 (fun v24 v25 v26 wc => ∃ b4, v24 = .slice (some ⟨b4, 0, none⟩) 4 4 ∧ v25 = .int .i64 4 ∧ v26 = .int .i64 0 ∧ Hid (Below w1.heap.size w1 wc ∧ KidsAt wc b4 0 4 (xf f g)))
  case first =>
    refine G_region (fun y : World => (y.cell? ⟨w.heap.size, 0, none⟩ = some (.int .i64 f.kind) ∧ y.cell? ⟨w.heap.size, 1, none⟩ = some (.int .i64 f.num) ∧ y.cell? ⟨w.heap.size, 2, none⟩ = some (.slice fa f.cnt fcap)) ∧ y.cell? ⟨w.heap.size + 1, 0, none⟩ = some (.int .i64 g.kind) ∧ y.cell? ⟨w.heap.size + 1, 1, none⟩ = some (.int .i64 g.num) ∧ y.cell? ⟨w.heap.size + 1, 2, none⟩ = some (.slice ga g.cnt gcap)) (fun i => false) (by kernel_rfl) (HSt.out _ hB) (fun _ => ?_)
    refine G_take (i := 0) (oi := { dst := some 16, op := Op.load 24 (Operand.tmp 3), type := 24, pos := _, after := #[], guard := none }) (v := .agg #[.int .i64 f.kind, .int .i64 f.num, .slice fa f.cnt fcap]) rfl (by kernel_rfl) (by kernel_rfl) (by kernel_rfl) (by kernel_rfl) (fun _ _ _ h => h) (by rfl) (fun u hu => ?_) (HSt.out _ hB) ?_
    · (try dsimp only at hu); go_simp
    (try simp only [Act.put, List.setIfInBounds_toArray, List.set_cons_zero, List.set_cons_succ])
    refine G_take (i := 1) (oi := { dst := some 17, op := Op.load 24 (Operand.tmp 4), type := 24, pos := _, after := #[], guard := none }) (v := .agg #[.int .i64 g.kind, .int .i64 g.num, .slice ga g.cnt gcap]) rfl (by kernel_rfl) (by kernel_rfl) (by kernel_rfl) (by kernel_rfl) (fun _ _ _ h => h) (by rfl) (fun u hu => ?_) (HSt.out _ hB) ?_
    · (try dsimp only at hu); go_simp
    (try simp only [Act.put, List.setIfInBounds_toArray, List.set_cons_zero, List.set_cons_succ])
    refine G_take (i := 2) (oi := { dst := some 18, op := Op.load 24 (Operand.tmp 3), type := 24, pos := _, after := #[], guard := none }) (v := .agg #[.int .i64 f.kind, .int .i64 f.num, .slice fa f.cnt fcap]) rfl (by kernel_rfl) (by kernel_rfl) (by kernel_rfl) (by kernel_rfl) (fun _ _ _ h => h) (by rfl) (fun u hu => ?_) (HSt.out _ hB) ?_
    · (try dsimp only at hu); go_simp
    (try simp only [Act.put, List.setIfInBounds_toArray, List.set_cons_zero, List.set_cons_succ])
    refine G_take (i := 3) (oi := { dst := some 19, op := Op.load 24 (Operand.tmp 4), type := 24, pos := _, after := #[], guard := none }) (v := .agg #[.int .i64 g.kind, .int .i64 g.num, .slice ga g.cnt gcap]) rfl (by kernel_rfl) (by kernel_rfl) (by kernel_rfl) (by kernel_rfl) (fun _ _ _ h => h) (by rfl) (fun u hu => ?_) (HSt.out _ hB) ?_
    · (try dsimp only at hu); go_simp
    (try simp only [Act.put, List.setIfInBounds_toArray, List.set_cons_zero, List.set_cons_succ])
    refine G_take (i := 5) (oi := { dst := some 21, op := Op.load 24 (Operand.tmp 3), type := 24, pos := _, after := #[], guard := none }) (v := .agg #[.int .i64 f.kind, .int .i64 f.num, .slice fa f.cnt fcap]) rfl (by kernel_rfl) (by kernel_rfl) (by kernel_rfl) (by kernel_rfl) (fun _ _ _ h => h) (by rfl) (fun u hu => ?_) (HSt.out _ hB) ?_
    · (try dsimp only at hu); go_simp
    (try simp only [Act.put, List.setIfInBounds_toArray, List.set_cons_zero, List.set_cons_succ])
    refine G_take (i := 6) (oi := { dst := some 22, op := Op.load 24 (Operand.tmp 4), type := 24, pos := _, after := #[], guard := none }) (v := .agg #[.int .i64 g.kind, .int .i64 g.num, .slice ga g.cnt gcap]) rfl (by kernel_rfl) (by kernel_rfl) (by kernel_rfl) (by kernel_rfl) (fun _ _ _ h => h) (by rfl) (fun u hu => ?_) (HSt.out _ hB) ?_
    · (try dsimp only at hu); go_simp
    (try simp only [Act.put, List.setIfInBounds_toArray, List.set_cons_zero, List.set_cons_succ])
    refine G_take (i := 10) (oi := { dst := some 26, op := Op.move (Operand.const (Value.int IntKind.i64 0)), type := 3, pos := _, after := #[], guard := none }) (v := .int .i64 0) rfl (by kernel_rfl) (by kernel_rfl) (by kernel_rfl) (by kernel_rfl) (fun _ _ _ h => h) (by rfl) (fun u hu => ?_) (HSt.out _ hB) ?_
    · (try dsimp only at hu); go_simp
    (try simp only [Act.put, List.setIfInBounds_toArray, List.set_cons_zero, List.set_cons_succ])
    obtain ⟨y0, hy0⟩ : ∃ q, q = w1.drew := ⟨_, rfl⟩
    rw [← hy0] at hB ⊢
    clear hy0
    refine G_step (i := 4) (o := { dst := some 20, op := Op.call { callee := Callee.value (Operand.func 13), args := #[Operand.const (Value.int IntKind.i64 5), Operand.tmp 18, Operand.tmp 19], argTypes := #[3, 24, 24] }, type := 24, pos := _, after := #[{ on := 2, ground := Ground.data }, { on := 3, ground := Ground.data }], guard := none }) (by kernel_rfl) rfl (fun K' hK => ?_)
    go_simp
    refine (CA.out _ hB).mono ?_
    rintro e y1 ⟨pa, pc, rfl, hk, hb⟩
    dsimp only
    have Hp := hid hk
    replace hB := hB.trans (hb.mono hB.size)
    clear hk hb
    refine hK.out _ _ (fun _ => (HSt.out _ hB)) (fun _ => ?_)
    clear hK K'
    (try simp only [Act.put, List.setIfInBounds_toArray, List.set_cons_zero, List.set_cons_succ])
    refine G_step (i := 7) (o := { dst := some 23, op := Op.call { callee := Callee.value (Operand.func 13), args := #[Operand.const (Value.int IntKind.i64 6), Operand.tmp 21, Operand.tmp 22], argTypes := #[3, 24, 24] }, type := 24, pos := _, after := #[{ on := 5, ground := Ground.data }, { on := 6, ground := Ground.data }, { on := 4, ground := Ground.chain }], guard := none }) (by kernel_rfl) rfl (fun K' hK => ?_)
    go_simp
    refine (CB.out _ hB).mono ?_
    rintro e y2 ⟨qa, qc, rfl, hk, hb⟩
    dsimp only
    have Hp := hid (Hp.out.below hb)
    have Hq := hid hk
    replace hB := hB.trans (hb.mono hB.size)
    clear hk hb
    refine hK.out _ _ (fun _ => (HSt.out _ hB)) (fun _ => ?_)
    clear hK K'
    (try simp only [Act.put, List.setIfInBounds_toArray, List.set_cons_zero, List.set_cons_succ])
    refine G_step (i := 8) (o := { dst := some 24, op := Op.buildSlice 22 4 #[(0, Operand.tmp 16), (1, Operand.tmp 17), (2, Operand.tmp 20), (3, Operand.tmp 23)], type := 22, pos := _, after := #[{ on := 0, ground := Ground.data }, { on := 1, ground := Ground.data }, { on := 4, ground := Ground.data }, { on := 7, ground := Ground.data }], guard := none }) (by kernel_rfl) rfl (fun K' hK => ?_)
    go_simp
    obtain ⟨y3, hy⟩ : ∃ q, q = y2.alloc (.cells #[.int .i64 f.kind, .int .i64 f.num, .slice fa f.cnt fcap, .int .i64 g.kind, .int .i64 g.num, .slice ga g.cnt gcap, .int .i64 (tw 5 f g).kind, .int .i64 (tw 5 f g).num, .slice pa (tw 5 f g).cnt pc, .int .i64 (tw 6 f g).kind, .int .i64 (tw 6 f g).num, .slice qa (tw 6 f g).cnt qc] 24) := ⟨_, rfl⟩
    have hb : Below y2.heap.size y2 y3 := by rw [hy]; exact box_below _ _
    obtain ⟨b4, hbx⟩ : ∃ q, q = y2.heap.size := ⟨_, rfl⟩
    have hc : y3.heap[b4]? = some (.cells #[.int .i64 f.kind, .int .i64 f.num, .slice fa f.cnt fcap, .int .i64 g.kind, .int .i64 g.num, .slice ga g.cnt gcap, .int .i64 (tw 5 f g).kind, .int .i64 (tw 5 f g).num, .slice pa (tw 5 f g).cnt pc, .int .i64 (tw 6 f g).kind, .int .i64 (tw 6 f g).num, .slice qa (tw 6 f g).cnt qc] 24 (0, 0)) := by rw [hy, hbx]; exact Go.Deep.blk_alloc_new _ _
    have hB2 := hB.trans (hb.mono hB.size)
    have HKa : Hid (KidsAt y3 b4 0 4 (xf f g)) := hid (kids4 hc (HKF.out.below hB2) HFC.out.1 (HKG.out.below hB2) HFC.out.2 (Hp.out.below hb) (Hq.out.below hb))
    rw [← hy]
    rw [← hbx]
    clear hy hbx hb hc
    refine hK.out _ _ (fun _ => HSt.out _ hB2) (fun _ => ?_)
    clear hK K'
    (try simp only [Act.put, List.setIfInBounds_toArray, List.set_cons_zero, List.set_cons_succ])
    refine G_take (i := 9) (oi := { dst := some 25, op := Op.call { callee := Callee.builtin Builtin.len, args := #[Operand.tmp 24], argTypes := #[22] }, type := 3, pos := _, after := #[{ on := 8, ground := Ground.data }], guard := none }) (v := .int .i64 4) rfl (by kernel_rfl) (by kernel_rfl) (by kernel_rfl) (by kernel_rfl) (fun _ _ _ h => h) (by rfl) (fun u hu => ?_) (HSt.out _ hB2) ?_
    · (try dsimp only at hu); go_simp
    (try simp only [Act.put, List.setIfInBounds_toArray, List.set_cons_zero, List.set_cons_succ])
    refine G_done (by kernel_rfl) ?_ _
    go_wp2_with fail
    go_meet
    exact ⟨b4, rfl, rfl, rfl, hid ⟨hB2, HKa.out⟩⟩
  obtain ⟨b4, rfl, rfl, rfl, HCx⟩ := hcut
  have HBc := hid (HB1.out.trans (HCx.out.1.mono HB1.out.size))
  have HKi := hid HCx.out.2
  have HWw : Hid (∀ y, Below wc.heap.size wc y → y.cell? ⟨w.heap.size + 1 + 1, 0, none⟩ = some (.slice sa s sc) ∧ y.cell? ⟨w.heap.size + 1 + 1, 1, none⟩ = some (.slice la m lc)) := hid (fun y hy => by
    have q := (HCx.out.1.block _ (Array.getElem?_eq_some_iff.1 HX1.out.2.2).1).trans HX1.out.2.2
    exact ⟨below_cell hy (Nat.le_refl _) (cell_of_cells q rfl), below_cell hy (Nat.le_refl _) (cell_of_cells q rfl)⟩)
  obtain ⟨R, hR⟩ : ∃ R : Nat → Bool, ∀ k, R k = @decide (hold (atm s m S L) (xf f g k) 0) (Classical.propDecidable _) := ⟨_, fun _ => rfl⟩
  have HRR : Hid (∀ k, R k = true ↔ hold (atm s m S L) (xf f g k) 0) := hid (fun k => by rw [hR]; exact @decide_eq_true_iff _ (Classical.propDecidable _))
  obtain ⟨i0, hi, hz0, hz1, hz2⟩ := info_parts Tryz.info4
  have HI : Hid (Tryz.prog.info? 4 = some i0 ∧ i0.zero = some (.bool false) ∧ i0.size = 1 ∧ i0.bytes = 1) := ⟨hi, hz0, hz1, hz2⟩
  have HS : Hid (Below wc.heap.size wc wc ∧ wc.ownsRow wc.heap.size 4 1 (.slice none 0 0) 0 (bls R 0)) := hid ⟨Below.refl _ _, World.ownsRow_nil _ _ _ _⟩
  clear hR hi hz0 hz1 hz2 CA CB HSt hB
  go_wp2_with fail
  go_loopw [26, 7] (fun i v wr => ∃ k : Nat, k ≤ 4 ∧ i = .int .i64 k ∧ Hid (Below wc.heap.size wc wr ∧ wr.ownsRow wc.heap.size 4 1 v k (bls R k))) (fun i _ _ => 4 - (intOf i).toNat)
  case atStart => exact ⟨0, Nat.zero_le _, rfl, HS⟩
  case round =>
    obtain ⟨k, hk, rfl, HJ⟩ := hrel
    obtain ⟨a0, c0, rfl⟩ : ∃ a c, u7 = .slice a k c := by
      rcases HJ.out.2.2 with ⟨e, e2⟩ | ⟨q, cc, cur, e, _⟩
      · exact ⟨none, 0, by rw [e, e2]⟩
      · exact ⟨_, _, e⟩
    clear HS
    by_cases hlt : k < 4
    · obtain ⟨ai, ci, p1, p2, p3, p4, p5⟩ := HKi.out k hlt
      have y1 := below_cell HJ.out.1 (Nat.le_refl _) p1
      have y2 := below_cell HJ.out.1 (Nat.le_refl _) p2
      have y3 := below_cell HJ.out.1 (Nat.le_refl _) p3
      have hkds := p5.below HJ.out.1
      have hkz : (k : Int) < 4 := by omega
      have hrk := HRR.out k
      obtain ⟨t, ht⟩ : ∃ t, t = xf f g k := ⟨_, rfl⟩
      rw [← ht] at y1 y2 y3 p4 hkds hrk
      simp only [Nat.zero_add] at y1 y2 y3
      have HRt := hid hrk
      obtain ⟨U0, hU0⟩ : ∃ y, y = wr.alloc (.cells #[.int .i64 t.kind, .int .i64 t.num, .slice ai t.cnt ci] 24) := ⟨_, rfl⟩
      have hB0 : Below wr.heap.size wr U0 := by rw [hU0]; exact box_below _ _
      have HB0 := hid (HJ.out.1.trans (hB0.mono HJ.out.1.size))
      have HL0 := hid (owns3_below HJ.out.2 hB0)
      have HBU := hid (HBc.out.trans (HB0.out.mono HBc.out.size))
      have C7 := hid (make7 (t := t) (cap := ci) (HF.out.below HBU.out).kc (hkds.below hB0) p4)
      have HU0 := hid hU0
      clear hU0 hB0 ht hrk hkds p1 p2 p3 p4 p5
      go_wp2_with fail
      rw [← HU0.out]
      refine C7.out.mono ?_
      rintro e w2 ⟨A, rfl, hA, hb2, hno, hTb⟩
      simp only [Ax.val]
      obtain ⟨w3, hw3, hbb, hbo⟩ := box5p w2 A
      obtain ⟨b3, hb3⟩ : ∃ q, q = w2.heap.size := ⟨_, rfl⟩
      rw [← hb3] at hbo
      have h03 := hb2.trans (hbb.mono hb2.size)
      have HB3 := hid (HB0.out.trans (h03.mono HB0.out.size))
      have HL3 := hid (owns3_below HL0.out h03)
      have HBU3 := hid (HBc.out.trans (HB3.out.mono HBc.out.size))
      have C9 := hid (CAc.out A w3 (hA.below hbb) HBU3.out)
      have HAA := hid (And.intro hno hTb)
      have HW3 := hid (And.intro hw3 hb3)
      obtain ⟨q0, q1⟩ := HWw.out w3 HB3.out
      obtain ⟨r0, r1, r2, r3, r4⟩ := hbo
      clear hA hb2 hno hTb hw3 hb3 hbb h03 C7 HB0 HL0 HBU y1 y2 y3
      go_upto_region 8 with fail
      rw [HW3.out.1, ← HW3.out.2]
      go_wp2_with fail
      refine C9.out.mono ?_
      rintro e w4 ⟨hac, hb4⟩
      have HB4 := hid (HB3.out.trans (hb4.mono HB3.out.size))
      have HL4 := hid (owns3_below HL3.out hb4)
      have HBU4 := hid (HBc.out.trans (HB4.out.mono HBc.out.size))
      clear hb4 C9 q0 q1 r0 r1 r2 r3 r4
      by_cases hm : mkE t = 0
      · obtain ⟨b, rfl, _, hb⟩ := mk_takes hm (HAA.out.2 hm) HF.out.wd hac
        by_cases hw : wchk s m = 0
        · obtain rfl : b = R k := by rw [Bool.eq_iff_iff, hb hw, HRt.out]
          rw [hm, hw]
          have hws := HB4.out.size
          clear hm hw hac hb
          go_wp2_with (at_builtin; refine wpList_append_own_at _ rfl _ _ 44 rfl wc.heap.size 4 i0 (.bool false) 1 1 Tryz.underlying44 HI.out.1 HI.out.2.1 HI.out.2.2.1 HI.out.2.2.2 rfl (by decide) _ _ _ rfl (HL4.out.alloc _) ⟨w4.heap.size, 0, none⟩ 1 1 [.bool (R k)] rfl rfl (cell_one_new _ _ _) (by intro q hq; simp at hq; subst hq; rfl) (by unfold maxLen; omega) (by omega) (by simp; omega) ?_; intro v' w5 hown hgrow hnil hat; have HO := hid (And.intro hown (((HB4.out.alloc HB4.out.size _).grown hgrow (by have := HB4.out.size; simp; omega) (fun q hq => (HL4.out.lt q hq).1)))); clear hown hgrow hnil hat)
          go_roundw
          case rel => exact ⟨k + 1, by omega, by go_num, hid ⟨HO.out.2, HO.out.1⟩⟩
          case measure => simp [intOf]; omega
        · have hwb : (wchk s m != 0) = true := bne_iff_ne.2 hw
          rw [hm]
          generalize wchk s m = wk at *
          clear hm hw hac hb
          go_wp2
          go_ret
          exact ⟨rfl, HBU4.out⟩
      · have hn := HAA.out.1 hm
        subst hn
        obtain ⟨b, rfl, _⟩ := no_takes hac
        have hmb : (mkE t != 0) = true := bne_iff_ne.2 hm
        generalize mkE t = er at *
        generalize wchk s m = wk at *
        clear hm hac
        go_wp2
        go_ret
        exact ⟨rfl, HBU4.out⟩
    · obtain rfl : k = 4 := by omega
      have hcs : ∃ q, a0 = some ⟨q, 0, none⟩ ∧ ∀ i, i < 4 → wr.cell? ⟨q, i, none⟩ = some (.bool (R i)) := by
        rcases HJ.out.2.2 with ⟨e, e2⟩ | ⟨q, cc, cur, e, _⟩
        · cases e2
        · injection e with e1 e2 e3
          subst e1
          refine ⟨q, rfl, fun i hi => ?_⟩
          have hi4 : i = 0 ∨ i = 1 ∨ i = 2 ∨ i = 3 := by omega
          have hh := HJ.out.2.cells (g := q) rfl i (.bool (R i)) (by rcases hi4 with rfl | rfl | rfl | rfl <;> rfl)
          rw [addr_none, Nat.zero_add] at hh
          exact hh
      obtain ⟨q, rfl, hq⟩ := hcs
      have c0 := hq 0 (by omega)
      have c1 := hq 1 (by omega)
      have c2 := hq 2 (by omega)
      have c3 := hq 3 (by omega)
      have e2 : R 2 = (R 0 && R 1) := by
        rw [Bool.eq_iff_iff, Bool.and_eq_true, HRR.out 2, HRR.out 0, HRR.out 1]
        exact hold_and5 _ _ _ _
      have e3 : R 3 = (R 0 || R 1) := by
        rw [Bool.eq_iff_iff, Bool.or_eq_true, HRR.out 3, HRR.out 0, HRR.out 1]
        exact hold_or6 _ _ _ _
      rw [e2] at c2
      rw [e3] at c3
      have HBU4 := hid (HBc.out.trans (HJ.out.1.mono HBc.out.size))
      clear hq e2 e3
      generalize R 0 = x0 at *
      generalize R 1 = x1 at *
      cases x0 <;> cases x1
      all_goals
        simp at c2 c3
        go_wp2
        go_region
        go_wp2
        go_ret
        exact ⟨rfl, below_drewN HBU4.out 1⟩
end Go.Proofs.YtmdpbaobihdgkaaGreatDoor
