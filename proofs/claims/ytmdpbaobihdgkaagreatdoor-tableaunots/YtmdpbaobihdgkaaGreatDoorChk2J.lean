/- checkFrom, Check. Formulas that the laws make: atom, one, two; what they mean. What a formula means at a place of an endless word: by all places, and by so many as a word that goes round has. What composed formulas mean. Formulas that are checked: every node fits. -/
import Derived.Test.YtmdpbaobihdgkaaGreatDoorBaseJ
namespace Go.Proofs.YtmdpbaobihdgkaaGreatDoor
open Go.RowKit
def Cnt (w : World) (b : Nat) (m : Int) : Prop := w.heap[b]? = some (.cells #[.int .i64 m] 3 (0, 0))
theorem Cnt.cell {w : World} {b : Nat} {m : Int} (h : Cnt w b m) : w.cell? ⟨b, 0, none⟩ = some (.int .i64 m) := by simp [World.cell?, show w.heap[b]? = _ from h]
theorem Cnt.frozen {w : World} {b : Nat} {m : Int} (h : Cnt w b m) : w.frozen? ⟨b, 0, none⟩ = false := by simp [World.frozen?, show w.heap[b]? = _ from h]
theorem Cnt.lt {w : World} {b : Nat} {m : Int} (h : Cnt w b m) : b < w.heap.size := (jq4.1 h).1
theorem Cnt.set {w : World} {b : Nat} {m : Int} (h : Cnt w b m) (k : Int) : Cnt (w.setCell ⟨b, 0, none⟩ (.int .i64 k)) b k := by
 have e : w.heap[b]? = some (.cells #[.int .i64 m] 3 (0, 0)) := h
 unfold Cnt World.setCell
 simp only [Array.getElem?_modify, if_true, e, Option.map_some]
 rfl
theorem Cnt.alloc {w : World} {b : Nat} {m : Int} (h : Cnt w b m) (o : Obj) : Cnt (w.alloc o) b m := (Go.Deep.blk_alloc_lt _ _ _ h.lt).trans h
theorem Cnt.below {w w' : World} {b : Nat} {m : Int} (h : Cnt w b m) (hb : Below w.heap.size w w') : Cnt w' b m := (hb.block b h.lt).trans h
set_option maxHeartbeats 4000000 in
theorem checkFrom_any (w0 : World) (hk : kcAt w0) : ∀ (t : Fml) (a : Option Addr) (cap d m nb : Nat) (w : World), Kds w0 t a → t.cnt ≤ 9223372036854775807 → Below w0.heap.size w0 w → w0.heap.size ≤ nb → Cnt w nb m → m ≤ 60 → d ≤ 21 →
  Calls Tryz.prog 92 #[.agg #[.int .i64 t.kind, .int .i64 t.num, .slice a t.cnt cap], .int .i64 d, .pointer (some ⟨nb, 0, none⟩)] w
   fun e w' => e = .returned (.int .i64 (chk t d m).1) ∧ Cnt w' nb (chk t d m).2 ∧ But nb w w' := by
 intro t
 induction t using Fml.ind with
 | h t ih =>
 intro a cap d m nb w hK hc hB hnb hC hm hd
 obtain ⟨b, o, ha, hkid⟩ := hK.out
 have E0 := chk_eq t d m
 generalize hkk : t.kind = k at *
 generalize hnn : t.num = n at *
 generalize hcc : t.cnt = c at *
 generalize hkd : t.kid = kid at *
 have E : Hid (chk t d m = if 60 < m + 1 then (2, m + 1) else if 20 < d then (5, m + 1) else if fit t = false then (1, m + 1) else chkAll (fun i x => chk (kid i) (d + 1) x) (m + 1) c) := E0
 clear E0
 have HK : Hid (kcAt w0 ∧ Below w0.heap.size w0 w ∧ w0.heap.size ≤ nb) := ⟨hk, hB, hnb⟩
 have HKid : Hid (∀ i, i < c → ∃ ai ci,
   w0.cell? ⟨b, o + i * 3, none⟩ = some (.int .i64 (kid i).kind) ∧ w0.cell? ⟨b, o + i * 3 + 1, none⟩ = some (.int .i64 (kid i).num) ∧
   w0.cell? ⟨b, o + i * 3 + 2, none⟩ = some (.slice ai (kid i).cnt ci) ∧ (kid i).cnt ≤ 9223372036854775807 ∧ Kds w0 (kid i) ai) := hkid
 have HA : Hid (0 < c → a = some ⟨b, o, none⟩) := ha
 have HC : Hid (Cnt w nb m) := hC
 have HIH := hid ih
 have hcell := hC.cell
 have hfz := hC.frozen
 have hlt := hC.lt
 clear hkid ha hK hC ih hB hnb hk
 show Calls Tryz.prog 92 #[.agg #[.int .i64 k, .int .i64 n, .slice a c cap], .int .i64 d, .pointer (some ⟨nb, 0, none⟩)] w
   fun e w' => e = .returned (.int .i64 (chk t d m).1) ∧ Cnt w' nb (chk t d m).2 ∧ But nb w w'
 have H2 : Hid (Cnt ((w.setCell ⟨nb, 0, none⟩ (.int .i64 ((m : Int) + 1))).alloc (.cells #[.int .i64 k, .int .i64 n, .slice a c cap] 24)) nb ((m : Int) + 1) ∧ But nb w ((w.setCell ⟨nb, 0, none⟩ (.int .i64 ((m : Int) + 1))).alloc (.cells #[.int .i64 k, .int .i64 n, .slice a c cap] 24))) :=
  ⟨(HC.out.set _).alloc _, (But.refl _ _).setCell 0 _ |>.alloc _⟩
 by_cases h1 : 60 < m + 1
 ·have E1 : Hid (chk t d m = (2, m + 1)) := E.out.trans (if_pos h1)
  rw [E1.out]
  clear E
  go_enter Tryz.func92, Tryz.ntmps92
  go_wp2
  go_ret
  exact ⟨rfl, H2.out⟩
 have hm1 : m + 1 ≤ 60 := by omega
 by_cases h2 : 20 < d
 ·have E1 : Hid (chk t d m = (5, m + 1)) := E.out.trans ((if_neg h1).trans (if_pos h2))
  rw [E1.out]
  clear E
  go_enter Tryz.func92, Tryz.ntmps92
  go_wp2
  go_ret
  exact ⟨rfl, H2.out⟩
 have E0 : Hid (chk t d m = if fit t = false then (1, m + 1) else chkAll (fun i x => chk (kid i) (d + 1) x) (m + 1) c) := E.out.trans ((if_neg h1).trans (if_neg h2))
 clear E
 obtain ⟨w1, hw1⟩ : ∃ x, x = (w.setCell ⟨nb, 0, none⟩ (.int .i64 ((m : Int) + 1))).alloc (.cells #[.int .i64 k, .int .i64 n, .slice a c cap] 24) := ⟨_, rfl⟩
 have hk4 : 1 < w0.heap.size := World.block_lt_of_cell? _ _ (HK.out.1 1 (by omega) (by omega))
 have HW1 : Hid (w1 = (w.setCell ⟨nb, 0, none⟩ (.int .i64 ((m : Int) + 1))).alloc (.cells #[.int .i64 k, .int .i64 n, .slice a c cap] 24)) := hw1
 have H1 : Hid (Cnt w1 nb ((m : Int) + 1) ∧ But nb w w1) := by rw [hid HW1.out]; exact H2.out
 have HBx : Hid (w1.cell? ⟨w.heap.size, 2, none⟩ = some (.slice a c cap)) := by
  have e : (w.setCell ⟨nb, 0, none⟩ (.int .i64 ((m : Int) + 1))).heap.size = w.heap.size := by simp [World.setCell]
  have := cell_of_alloc (w := w.setCell ⟨nb, 0, none⟩ (.int .i64 ((m : Int) + 1))) (c := #[.int .i64 k, .int .i64 n, .slice a c cap]) (t := 24) (i := 2) rfl
  rw [e] at this
  rw [hid HW1.out]
  exact this
 have HB0 : Hid (Below w0.heap.size w0 w1) := HK.out.2.1.trans (H1.out.2.below HK.out.2.2 HK.out.2.1.size)
 have C : Hid (Calls Tryz.prog 124 #[.agg #[.int .i64 k, .int .i64 n, .slice a c cap]] w1 fun e w' => e = .returned (.bool (fit t)) ∧ Below w1.heap.size w1 w') := by
  have := fits_any t a cap w1 (HK.out.1.below HB0.out hk4)
  rw [hkk, hnn, hcc] at this
  exact hid this
 clear H2 hw1
 obtain ⟨fi, hfi⟩ : ∃ x, x = fit t := ⟨_, rfl⟩
 rw [← hfi] at C E0
 have HFi : Hid (fi = fit t) := hfi
 clear hfi
 have hd20 : d ≤ 20 := by omega
 go_enter Tryz.func92, Tryz.ntmps92
 go_wp2_with fail
 rw [← HW1.out]
 refine C.out.mono ?_
 rintro e w2 ⟨rfl, hb2⟩
 have h22 : Hid (Cnt w2 nb ((m : Int) + 1) ∧ But nb w w2) := ⟨H1.out.1.below hb2, H1.out.2.trans (But.of_below hb2)⟩
 have hbx := below_cell hb2 jq0 HBx.out
 clear C hb2 HB0 HW1 H1 HBx
 cases fi
 ·have E1 : Hid (chk t d m = (1, m + 1)) := E0.out.trans (if_pos rfl)
  clear E0
  go_wp2
  go_ret
  rw [E1.out]
  exact ⟨rfl, h22.out⟩
 have E1 : Hid (chk t d m = chkAll (fun i x => chk (kid i) (d + 1) x) (m + 1) c) := E0.out.trans (if_neg (by decide))
 clear E0
 have HS : Hid (∀ j, (chkAll (fun i x => chk (kid i) (d + 1) x) (m + 1) j).2 ≤ 61 ∧ ((chkAll (fun i x => chk (kid i) (d + 1) x) (m + 1) j).1 = 0 → (chkAll (fun i x => chk (kid i) (d + 1) x) (m + 1) j).2 ≤ 60)) := fun j => chkAll_small hm1 j (fun i _ x hx => chk_small (kid i) (d + 1) x hx)
 go_wp2
 go_loopw [30] (fun i wr => ∃ j : Nat, j ≤ c ∧ i = .int .i64 j ∧ Hid ((chkAll (fun i x => chk (kid i) (d + 1) x) (m + 1) j).1 = 0 ∧ Cnt wr nb (chkAll (fun i x => chk (kid i) (d + 1) x) (m + 1) j).2 ∧ But nb w wr)) (fun i _ => c - (intOf i).toNat)
 case atStart => exact ⟨0, Nat.zero_le _, rfl, hid ⟨rfl, h22.out⟩⟩
 case round =>
  obtain ⟨j, hj, rfl, HJ⟩ := hrel
  by_cases hlt2 : j < c
  ·obtain rfl := HA.out (by omega)
   obtain ⟨ai, ci, e1, e2, e3, e4, e5⟩ := HKid.out j hlt2
   have HB1 : Hid (Below w0.heap.size w0 wr) := HK.out.2.1.trans (HJ.out.2.2.below HK.out.2.2 HK.out.2.1.size)
   have f1 := below_cell HB1.out jq0 e1
   have f2 := below_cell HB1.out jq0 e2
   have f3 := below_cell HB1.out jq0 e3
   have hjz : (j : Int) < c := by omega
   obtain ⟨m2, hm2⟩ : ∃ x, x = (chkAll (fun i x => chk (kid i) (d + 1) x) (m + 1) j).2 := ⟨_, rfl⟩
   have HM2 : Hid (m2 = (chkAll (fun i x => chk (kid i) (d + 1) x) (m + 1) j).2 ∧ m2 ≤ 60) := ⟨hm2, hm2 ▸ (HS.out j).2 HJ.out.1⟩
   have HR : Hid (chkAll (fun i x => chk (kid i) (d + 1) x) (m + 1) (j + 1) = chk (kid j) (d + 1) m2) := by
    show chkAll (fun i x => chk (kid i) (d + 1) x) (m + 1) (j + 1) = chk (kid j) (d + 1) m2
    rw [chkAll, if_pos HJ.out.1, ← hm2]
   clear hm2
   have C2 : Hid (Calls Tryz.prog 92 #[.agg #[.int .i64 (kid j).kind, .int .i64 (kid j).num, .slice ai (kid j).cnt ci], .int .i64 ((d : Int) + 1), .pointer (some ⟨nb, 0, none⟩)] (wr.alloc (.cells #[.int .i64 (kid j).kind, .int .i64 (kid j).num, .slice ai (kid j).cnt ci] 24))
     fun e w' => e = .returned (.int .i64 (chk (kid j) (d + 1) m2).1) ∧ Cnt w' nb (chk (kid j) (d + 1) m2).2 ∧ But nb (wr.alloc (.cells #[.int .i64 (kid j).kind, .int .i64 (kid j).num, .slice ai (kid j).cnt ci] 24)) w') := by
    have hcn : Cnt wr nb m2 := by rw [HM2.out.1]; exact HJ.out.2.1
    exact HIH.out j hlt2 ai ci (d + 1) m2 nb _ e5 e4 (HB1.out.alloc HB1.out.size _) HK.out.2.2 (hcn.alloc _) HM2.out.2 (by omega)
   obtain ⟨r, hr⟩ : ∃ x, x = chk (kid j) (d + 1) m2 := ⟨_, rfl⟩
   rw [← hr] at C2 HR
   obtain ⟨kk, hkk⟩ : ∃ x, x = kid j := ⟨_, rfl⟩
   rw [← hkk] at f1 f2 f3 C2
   clear hr hkk e1 e2 e3 e4 e5
   go_wp2_with fail
   refine C2.out.mono ?_
   rintro e w3 ⟨rfl, hc3, hb3⟩
   have H3 : Hid (Cnt w3 nb r.2 ∧ But nb w w3) := ⟨hc3, (HJ.out.2.2.alloc _).trans hb3⟩
   clear hc3 hb3 C2
   by_cases hr0 : r.1 = 0
   ·have hrb : (r.1 == 0) = true := beq_iff_eq.2 hr0
    have HR0 : Hid (r.1 = 0) := hr0
    clear hr0
    go_wp2
    go_roundw
    case rel => exact ⟨j + 1, by omega, by go_num, hid (by rw [HR.out]; exact ⟨HR0.out, H3.out⟩)⟩
    case measure => simp [intOf]; omega
   ·have hrb : (r.1 == 0) = false := beq_eq_false_iff_ne.2 hr0
    have HR0 : Hid (r.1 ≠ 0) := hr0
    clear hr0
    have HE : Hid (chkAll (fun i x => chk (kid i) (d + 1) x) (m + 1) c = r) := by
     have := chkAll_stay (f := fun i x => chk (kid i) (d + 1) x) (m := m + 1) (k := j + 1) (by rw [HR.out]; exact HR0.out) c (by omega)
     exact hid (this.trans HR.out)
    go_wp2
    go_ret
    rw [E1.out, HE.out]
    exact ⟨rfl, H3.out⟩
  ·obtain rfl : j = c := by omega
   go_wp2
   go_ret
   rw [E1.out]
   exact ⟨ret_int HJ.out.1.symm, HJ.out.2⟩
theorem check_any (t : Fml) (a : Option Addr) (cap : Nat) (w : World) (hk : kcAt w) (hK : Kds w t a) (hc : t.cnt ≤ 9223372036854775807) :
  Calls Tryz.prog 61 #[.agg #[.int .i64 t.kind, .int .i64 t.num, .slice a t.cnt cap]] w fun e w' => e = .returned (.int .i64 (chk t 1 0).1) ∧ Below w.heap.size w w' := by
 obtain ⟨u, hu⟩ : ∃ x, x = (w.alloc (.cells #[.int .i64 t.kind, .int .i64 t.num, .slice a t.cnt cap] 24)).alloc (.cells #[.int .i64 0] 3) := ⟨_, rfl⟩
 have HB : Hid (Below w.heap.size w u) := by rw [hu]; exact hid ((box_below w _).alloc (by simp) _)
 have C : Hid (Calls Tryz.prog 92 #[.agg #[.int .i64 t.kind, .int .i64 t.num, .slice a t.cnt cap], .int .i64 1, .pointer (some ⟨w.heap.size + 1, 0, none⟩)] u fun e w' => e = .returned (.int .i64 (chk t 1 0).1) ∧ Cnt w' (w.heap.size + 1) (chk t 1 0).2 ∧ But (w.heap.size + 1) u w') :=
  checkFrom_any w hk t a cap 1 0 (w.heap.size + 1) u hK hc HB.out (by omega) (by rw [hu]; unfold Cnt; rw [show w.heap.size + 1 = (w.alloc (.cells #[.int .i64 t.kind, .int .i64 t.num, .slice a t.cnt cap] 24)).heap.size by simp]; exact Go.Deep.blk_alloc_new _ _) (by omega) (by omega)
 have HU := hid hu
 clear hu hK hk hc
 go_enter Tryz.func61, Tryz.ntmps61
 go_wp2_with fail
 rw [← HU.out]
 refine C.out.mono ?_
 rintro e w3 ⟨rfl, _, hb⟩
 have H3 : Hid (Below w.heap.size w w3) := HB.out.trans (hb.below (by omega) HB.out.size)
 clear hb C
 go_wp2
 go_ret
 exact ⟨rfl, H3.out⟩
end Go.Proofs.YtmdpbaobihdgkaaGreatDoor
namespace Go.Proofs.YtmdpbaobihdgkaaGreatDoor
open Go.RowKit
def nd (k n : Int) : Fml := ⟨k, n, 0, fun i => i.elim0⟩
def on (k : Int) (t : Fml) : Fml := ⟨k, 0, 1, fun _ => t⟩
def tw (k : Int) (t t2 : Fml) : Fml := ⟨k, 0, 2, fun i => if i.val = 0 then t else t2⟩
theorem on_kid (k : Int) (t : Fml) : (on k t).kid 0 = t := dif_pos (show 0 < 1 by decide)
theorem tw_kid0 (k : Int) (t t2 : Fml) : (tw k t t2).kid 0 = t := by
 have : (tw k t t2).kid 0 = (tw k t t2).kids ⟨0, (show 0 < 2 by decide)⟩ := dif_pos (show 0 < 2 by decide)
 rw [this]
 rfl
theorem tw_kid1 (k : Int) (t t2 : Fml) : (tw k t t2).kid 1 = t2 := by
 have : (tw k t t2).kid 1 = (tw k t t2).kids ⟨1, (show 1 < 2 by decide)⟩ := dif_pos (show 1 < 2 by decide)
 rw [this]
 rfl
def Mk (w : World) (t : Fml) (e : Ending) (w' : World) : Prop := ∃ (a : Option Addr) (cap : Nat), e = .returned (.agg #[.int .i64 t.kind, .int .i64 t.num, .slice a t.cnt cap]) ∧ Kds w' t a ∧ Below w.heap.size w w'
theorem kds_nd (w : World) (k n : Int) (a : Option Addr) : Kds w (nd k n) a := Kds.mk ⟨0, 0, fun h => absurd h (Nat.lt_irrefl 0), fun i hi => absurd hi (Nat.not_lt_zero i)⟩
theorem kds_on {w : World} {k : Int} {t : Fml} {a : Option Addr} {cap b : Nat} (hb : w.heap[b]? = some (.cells #[.int .i64 t.kind, .int .i64 t.num, .slice a t.cnt cap] 24)) (hc : t.cnt ≤ 9223372036854775807) (h : Kds w t a) : Kds w (on k t) (some ⟨b, 0, none⟩) := by
 refine Kds.mk ⟨b, 0, fun _ => rfl, fun i hi => ?_⟩
 have hi1 : i < 1 := hi
 obtain rfl : i = 0 := by omega
 rw [on_kid]
 exact ⟨a, cap, cell_of_cells hb rfl, cell_of_cells hb rfl, cell_of_cells hb rfl, hc, h⟩
theorem kds_tw {w : World} {k : Int} {t t2 : Fml} {a a2 : Option Addr} {cap cap2 b : Nat} (hb : w.heap[b]? = some (.cells #[.int .i64 t.kind, .int .i64 t.num, .slice a t.cnt cap, .int .i64 t2.kind, .int .i64 t2.num, .slice a2 t2.cnt cap2] 24)) (hc : t.cnt ≤ 9223372036854775807) (h : Kds w t a) (hc2 : t2.cnt ≤ 9223372036854775807) (h2 : Kds w t2 a2) : Kds w (tw k t t2) (some ⟨b, 0, none⟩) := by
 refine Kds.mk ⟨b, 0, fun _ => rfl, fun i hi => ?_⟩
 have hi1 : i < 2 := hi
 rcases (by omega : i = 0 ∨ i = 1) with rfl | rfl
 ·rw [tw_kid0]
  exact ⟨a, cap, cell_of_cells hb rfl, cell_of_cells hb rfl, cell_of_cells hb rfl, hc, h⟩
 ·rw [tw_kid1]
  exact ⟨a2, cap2, cell_of_cells hb rfl, cell_of_cells hb rfl, cell_of_cells hb rfl, hc2, h2⟩
set_option maxHeartbeats 1000000 in
theorem atom_f (n : Int) (w : World) : Calls Tryz.prog 14 #[.int .i64 n] w fun e w' => Mk w (nd 3 n) e w' := by
 go_enter Tryz.func14, Tryz.ntmps14
 go_wp2
 refine bodyPost_ret (results_cell_row rfl _ _ w.heap.size 24 #[.int .i64 3, .int .i64 n, .slice none 0 0] (0, 0) _ rfl ?_ Tryz.underlying24 rfl (by kernel_rfl)) rfl ?_
 ·exact Go.Deep.blk_alloc_new _ _
 ·exact ⟨none, 0, rfl, kds_nd _ _ _ _, box_below _ _⟩
theorem alloc_last {w : World} {B : Nat} (o : Obj) (h : w.heap.size = B) : (w.alloc o).heap[B]? = some o := by rw [← h]; exact Go.Deep.blk_alloc_new _ _
theorem alloc_old {w : World} {B : Nat} {x : Obj} (o : Obj) (h : w.heap[B]? = some x) : (w.alloc o).heap[B]? = some x := (Go.Deep.blk_alloc_lt _ _ _ (jq4.1 h).1).trans h
set_option maxHeartbeats 1000000 in
theorem one_g (k : Int) (t : Fml) (a : Option Addr) (cap : Nat) (w : World) : Calls Tryz.prog 10 #[.int .i64 k, .agg #[.int .i64 t.kind, .int .i64 t.num, .slice a t.cnt cap]] w fun e w' => e = .returned (.agg #[.int .i64 k, .int .i64 0, .slice (some ⟨w.heap.size + 1 + 1, 0, none⟩) 1 1]) ∧ w'.heap[w.heap.size + 1 + 1]? = some (.cells #[.int .i64 t.kind, .int .i64 t.num, .slice a t.cnt cap] 24) ∧ Below w.heap.size w w' := by
 go_enter Tryz.func10, Tryz.ntmps10
 go_wp2
 obtain ⟨v1, hv1⟩ : ∃ y, y = w.alloc (.cells #[.int .i64 t.kind, .int .i64 t.num, .slice a t.cnt cap] 24) := ⟨_, rfl⟩
 have e1 : v1.heap.size = w.heap.size + 1 := by rw [hv1]; simp
 obtain ⟨v2, hv2⟩ : ∃ y, y = v1.alloc (.cells #[.int .i64 k, .int .i64 0, .slice (some ⟨w.heap.size + 1 + 1, 0, none⟩) 1 1] 24) := ⟨_, rfl⟩
 have e2 : v2.heap.size = w.heap.size + 1 + 1 := by rw [hv2, ← e1]; simp
 have b1 : Below w.heap.size w v1 := by rw [hv1]; exact box_below _ _
 have b2 : Below w.heap.size w v2 := by rw [hv2]; exact b1.alloc (by omega) _
 have x2 : v2.heap[w.heap.size + 1]? = some (.cells #[.int .i64 k, .int .i64 0, .slice (some ⟨w.heap.size + 1 + 1, 0, none⟩) 1 1] 24) := by rw [hv2]; exact alloc_last _ e1
 rw [← hv1, ← hv2]
 refine bodyPost_ret (results_cell_row rfl _ _ (w.heap.size + 1) 24 #[.int .i64 k, .int .i64 0, .slice (some ⟨w.heap.size + 1 + 1, 0, none⟩) 1 1] (0, 0) _ rfl (alloc_old _ x2) Tryz.underlying24 rfl (by kernel_rfl)) rfl ?_
 exact ⟨rfl, alloc_last _ e2, b2.alloc (by omega) _⟩
theorem one_f (k : Int) (t : Fml) (a : Option Addr) (cap : Nat) (w : World) (h : Kds w t a) (hc : t.cnt ≤ 9223372036854775807) : Calls Tryz.prog 10 #[.int .i64 k, .agg #[.int .i64 t.kind, .int .i64 t.num, .slice a t.cnt cap]] w fun e w' => Mk w (on k t) e w' :=
 (one_g k t a cap w).mono fun _ _ hh => ⟨some ⟨w.heap.size + 1 + 1, 0, none⟩, 1, hh.1, kds_on (cap := cap) hh.2.1 hc (h.below hh.2.2), hh.2.2⟩
end Go.Proofs.YtmdpbaobihdgkaaGreatDoor
namespace Go.Proofs.YtmdpbaobihdgkaaGreatDoor
open Go.RowKit
def holdF (A : Nat → Int → Bool) (t : Fml) (r : Nat → Nat → Prop) (i : Nat) : Prop :=
 if t.kind = 1 then True else if t.kind = 3 then A i t.num = true else if t.kind = 4 then ¬ r 0 i else if t.kind = 5 then r 0 i ∧ r 1 i else if t.kind = 6 then r 0 i ∨ r 1 i
 else if t.kind = 7 then r 0 (i + 1) else if t.kind = 8 then ∃ j, i ≤ j ∧ r 1 j ∧ ∀ k, i ≤ k → k < j → r 0 k
 else if t.kind = 9 then ¬ ∃ j, i ≤ j ∧ ¬ r 1 j ∧ ∀ k, i ≤ k → k < j → ¬ r 0 k
 else if t.kind = 10 then ∃ j, i ≤ j ∧ r 0 j else if t.kind = 11 then ¬ ∃ j, i ≤ j ∧ ¬ r 0 j else False
def hold (A : Nat → Int → Bool) (t : Fml) : Nat → Prop := t.red (fun _ => False) (holdF A)
def unt (f g : Nat → Bool) : Nat → Nat → Bool
 | 0, _ => false
 | d + 1, i => g i || (f i && unt f g d (i + 1))
def rls (f g : Nat → Bool) (d i : Nat) : Bool := !unt (fun k => !f k) (fun k => !g k) d i
def hbF (d : Nat) (A : Nat → Int → Bool) (t : Fml) (r : Nat → Nat → Bool) (i : Nat) : Bool :=
 if t.kind = 1 then true else if t.kind = 3 then A i t.num else if t.kind = 4 then !r 0 i else if t.kind = 5 then r 0 i && r 1 i else if t.kind = 6 then r 0 i || r 1 i
 else if t.kind = 7 then r 0 (i + 1) else if t.kind = 8 then unt (r 0) (r 1) d i
 else if t.kind = 9 then rls (r 0) (r 1) d i
 else if t.kind = 10 then unt (fun _ => true) (r 0) d i else if t.kind = 11 then rls (fun _ => false) (r 0) d i else false
def hb (d : Nat) (A : Nat → Int → Bool) (t : Fml) : Nat → Bool := t.red (fun _ => false) (hbF d A)
theorem hold_eq (A : Nat → Int → Bool) (t : Fml) (i : Nat) : hold A t i = holdF A t (t.reds (fun _ => False) (holdF A)) i := congrFun (Fml.red_eq _ _ t) i
theorem hold_kid {A : Nat → Int → Bool} {t : Fml} {i : Nat} (h : i < t.cnt) : t.reds (fun _ => False) (holdF A) i = hold A (t.kid i) := Fml.reds_at h
theorem hold_none {A : Nat → Int → Bool} {t : Fml} {i : Nat} (h : ¬ i < t.cnt) : t.reds (fun _ => False) (holdF A) i = fun _ => False := if_neg h
end Go.Proofs.YtmdpbaobihdgkaaGreatDoor
namespace Go.Proofs.YtmdpbaobihdgkaaGreatDoor
open Go.RowKit
theorem hold_red_on (A : Nat → Int → Bool) (k : Int) (t : Fml) : (on k t).reds (fun _ => False) (holdF A) 0 = hold A t := by rw [hold_kid (show 0 < 1 by decide), on_kid]
theorem hold_red_tw0 (A : Nat → Int → Bool) (k : Int) (t t2 : Fml) : (tw k t t2).reds (fun _ => False) (holdF A) 0 = hold A t := by rw [hold_kid (show 0 < 2 by decide), tw_kid0]
theorem hold_red_tw1 (A : Nat → Int → Bool) (k : Int) (t t2 : Fml) : (tw k t t2).reds (fun _ => False) (holdF A) 1 = hold A t2 := by rw [hold_kid (show 1 < 2 by decide), tw_kid1]
section
variable (A : Nat → Int → Bool) (f g : Fml) (i : Nat)
theorem hold_true (n : Int) : hold A (nd 1 n) i = True := by rw [hold_eq]; simp [holdF, nd]
theorem hold_not : hold A (on 4 f) i = ¬ hold A f i := by
 have e := hold_red_on A 4 f
 rw [hold_eq]
 generalize (on 4 f).reds (fun _ => False) (holdF A) = r at e ⊢
 unfold holdF
 rw [e]
 simp [on]
theorem hold_until : hold A (tw 8 f g) i = ∃ j, i ≤ j ∧ hold A g j ∧ ∀ k, i ≤ k → k < j → hold A f k := by
 have e := hold_red_tw0 A 8 f g
 have e1 := hold_red_tw1 A 8 f g
 rw [hold_eq]
 generalize (tw 8 f g).reds (fun _ => False) (holdF A) = r at e e1 ⊢
 unfold holdF
 rw [e, e1]
 simp [tw]
theorem hold_release : hold A (tw 9 f g) i = ¬ ∃ j, i ≤ j ∧ ¬ hold A g j ∧ ∀ k, i ≤ k → k < j → ¬ hold A f k := by
 have e := hold_red_tw0 A 9 f g
 have e1 := hold_red_tw1 A 9 f g
 rw [hold_eq]
 generalize (tw 9 f g).reds (fun _ => False) (holdF A) = r at e e1 ⊢
 unfold holdF
 rw [e, e1]
 simp [tw]
end
end Go.Proofs.YtmdpbaobihdgkaaGreatDoor
namespace Go.Proofs.YtmdpbaobihdgkaaGreatDoor
open Go.RowKit
def Wf (t : Fml) : Prop := t.red True fun t r => fit t = true ∧ ∀ i, i < t.cnt → r i
theorem Wf.out {t : Fml} (h : Wf t) : fit t = true ∧ ∀ i, i < t.cnt → Wf (t.kid i) := by
 unfold Wf at h
 rw [Fml.red_eq] at h
 exact ⟨h.1, fun i hi => by have := h.2 i hi; rwa [Fml.reds_at hi] at this⟩
theorem Wf.mk {t : Fml} (h : fit t = true ∧ ∀ i, i < t.cnt → Wf (t.kid i)) : Wf t := by
 unfold Wf
 rw [Fml.red_eq]
 exact ⟨h.1, fun i hi => by rw [Fml.reds_at hi]; exact h.2 i hi⟩
def sumTo (f : Nat → Nat) : Nat → Nat
 | 0 => 0
 | n + 1 => sumTo f n + f n
theorem sumTo_congr {f g : Nat → Nat} : ∀ n, (∀ i, i < n → f i = g i) → sumTo f n = sumTo g n
 | 0, _ => rfl
 | n + 1, h => by rw [sumTo, sumTo, sumTo_congr n (fun i hi => h i (by omega)), h n (by omega)]
def szF (t : Fml) (r : Nat → Nat) : Nat := 1 + sumTo r t.cnt
def sz (t : Fml) : Nat := t.red 0 szF
theorem sz_eq (t : Fml) : sz t = 1 + sumTo (fun i => sz (t.kid i)) t.cnt := by
 have e : sz t = szF t (t.reds 0 szF) := Fml.red_eq _ _ t
 rw [e, szF, sumTo_congr (f := t.reds 0 szF) (g := fun i => sz (t.kid i)) t.cnt (fun i hi => Fml.reds_at hi)]
theorem chkAll_count {f : Nat → Nat → Int × Nat} {g : Nat → Nat} {p : Nat → Prop} {m : Nat} : ∀ n, (∀ i, i < n → ∀ x, (f i x).1 = 0 → p i ∧ (f i x).2 = x + g i) → (chkAll f m n).1 = 0 → (∀ i, i < n → p i) ∧ (chkAll f m n).2 = m + sumTo g n
 | 0, _, _ => ⟨fun _ h => absurd h (Nat.not_lt_zero _), rfl⟩
 | n + 1, hf, h => by
  have h0 : (chkAll f m n).1 = 0 := chkAll_ok h (Nat.le_succ n)
  obtain ⟨h1, h2⟩ := chkAll_count n (fun i hi => hf i (by omega)) h0
  simp only [chkAll, if_pos h0] at h ⊢
  obtain ⟨h3, h4⟩ := hf n (by omega) _ h
  refine ⟨snoc_all h1 h3, ?_⟩
  rw [h4, h2, sumTo]
  omega
theorem chk_wf : ∀ (t : Fml) (d m : Nat), (chk t d m).1 = 0 → Wf t ∧ (chk t d m).2 = m + sz t := by
 intro t
 induction t using Fml.ind with
 | h t ih =>
  intro d m h
  rw [chk_eq] at h ⊢
  by_cases h1 : 60 < m + 1
  ·rw [if_pos h1] at h; cases h
  rw [if_neg h1] at h ⊢
  by_cases h2 : 20 < d
  ·rw [if_pos h2] at h; cases h
  rw [if_neg h2] at h ⊢
  by_cases h3 : fit t = false
  ·rw [if_pos h3] at h; cases h
  rw [if_neg h3] at h ⊢
  obtain ⟨h4, h5⟩ := chkAll_count (f := fun i x => chk (t.kid i) (d + 1) x) (g := fun i => sz (t.kid i)) (p := fun i => Wf (t.kid i)) t.cnt (fun i hi x hh => ih i hi (d + 1) x hh) h
  refine ⟨Wf.mk ⟨by simpa using h3, h4⟩, ?_⟩
  rw [sz_eq, h5]
  omega
theorem fit_parts {t : Fml} (h : fit t = true) : (t.cnt : Int) = ar t.kind ∧ (t.kind = 3 → 0 ≤ t.num ∧ t.num ≤ 63) := by
 unfold fit at h
 rw [Bool.and_eq_true, decide_eq_true_eq] at h
 refine ⟨h.1, fun hk => ?_⟩
 have := h.2
 rw [if_pos hk, decide_eq_true_eq] at this
 exact this
end Go.Proofs.YtmdpbaobihdgkaaGreatDoor
